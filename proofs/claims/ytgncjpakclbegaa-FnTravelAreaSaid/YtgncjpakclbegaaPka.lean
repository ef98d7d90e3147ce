/-
  What the laws on parcels call: lists compared; the program's functions with the length apart.
-/
import Derived.Test.YtgncjpakclbegaaPkv
import Derived.Test.YtgncjpakclbegaaPkq
import Derived.Test.YtgncjpakclbegaaPky
namespace Go.Proofs.Ytgncjpakclbegaa
open Go.RowKit Poly
set_option linter.unusedVariables false

set_option maxHeartbeats 4000000 in
theorem samePts (p q : Option Addr) (n c d : Nat) (L : List P2) (w : World) (hp : Ints w p (fl L)) (hq : Ints w q (fl L)) (hn : L.length = n) (hl : n ≤ 4000000000000000000) :
    Calls Try.prog 39 #[.slice p n c, .slice q n d] w fun e w' => e = .returned (.bool true) ∧ Below w.heap.size w w' := by
  have H := Lib.hid (And.intro hp (And.intro hq hn))
  clear hp hq hn
  go_enter Try.func39, Try.ntmps39
  go_wp2_with fail
  go_loopw [5] (fun i wr => ∃ k : Nat, k ≤ n ∧ i = .int .i64 k ∧ Below w.heap.size w wr) (fun i _ => n - (intOf i).toNat)
  case atStart => exact ⟨0, Nat.zero_le _, rfl, Below.refl _ _⟩
  case round =>
    obtain ⟨k, hk, rfl, hb⟩ := hrel
    have hbs := hb.size
    by_cases hlt : k < n
    · have hlt' : (k : Int) < (n : Int) := by omega
      obtain ⟨B, o, rfl, hB, x0, x1⟩ := (H.out.1.below hb).pt (i := k) (by rw [H.out.2.2]; exact hlt)
      obtain ⟨B', o', rfl, hB', y0, y1⟩ := (H.out.2.1.below hb).pt (i := k) (by rw [H.out.2.2]; exact hlt)
      go_upto_region 6 with fail
      go_quiet (fail)
      go_wp2_with fail
      go_roundw
      case rel => exact ⟨k + 1, by omega, by go_num, (by repeat (first | assumption | exact Below.refl _ _ | (refine below_chain ?_ (by assumption) (by first | omega | (simp <;> omega) | simp)) | (refine Below.alloc ?_ (by first | omega | (simp <;> omega) | simp) _) | (apply below_drewN) | (apply below_drew) | (refine Below.setCell ?_ (by first | omega | (simp <;> omega) | simp) _)))⟩
      case measure => simp [intOf]; omega
    · have e : k = n := by omega
      subst e
      go_wp2_with fail
      go_ret
      exact ⟨rfl, hb⟩
theorem samePts_nil (p q : Option Addr) (c d : Nat) (w : World) :
    Calls Try.prog 39 #[.slice p 0 c, .slice q 0 d] w fun e w' => e = .returned (.bool true) ∧ Below w.heap.size w w' := samePts p q 0 c d [] w (.inl rfl) (.inl rfl) rfl (by omega)
section
variable {p : Option Addr} {c n : Nat} {L : List P2} {w : World}
theorem iArea_l {A : Int} (h : Ints w p (fl L)) (hn : L.length = n) (hc : n ≤ c) (hok : okP L = true) (hA : areaL L = A) :
    Calls Try.prog 21 #[.slice p n c] w fun e w' => e = .returned (.tuple #[.int .i64 A, .bool true]) ∧ Below w.heap.size w w' := by
  subst hn hA; exact iPolyArea_yes h hc hok
theorem iInside_l {A : Int} (h : Ints w p (fl L)) (hn : L.length = n) (hc : n ≤ c) (hv : polyV L = true) (hA : insideL L = A) :
    Calls Try.prog 25 #[.slice p n c] w fun e w' => e = .returned (.int .i64 A) ∧ Below w.heap.size w w' := by
  subst hn hA; exact iPolyInside_yes h hc hv
theorem iEdge_l {A : Int} (h : Ints w p (fl L)) (hn : L.length = n) (hc : n ≤ c) (hv : polyV L = true) (hA : edgeL L = A) :
    Calls Try.prog 27 #[.slice p n c] w fun e w' => e = .returned (.int .i64 A) ∧ Below w.heap.size w w' := by
  subst hn hA; exact iPolyEdge_yes h hc hv
theorem iPoly_l (h : Ints w p (fl L)) (hn : L.length = n) (hc : n ≤ c) (hv : polyV L = true) :
    Calls Try.prog 18 #[.slice p n c] w fun e w' => e = .returned (.bool true) ∧ Below w.heap.size w w' := by
  subst hn; exact iPolyValid_yes h hc hv
theorem iGaps_l {a b : P2} {g : Int} (ha : pvP a = true) (hb : pvP b = true) (hg : gapP a b = g) (w : World) :
    Calls Try.prog 110 #[.agg #[.int .i64 a.1, .int .i64 a.2], .agg #[.int .i64 b.1, .int .i64 b.2]] w fun e w' => e = .returned (.int .i64 g) ∧ Below w.heap.size w w' := by
  subst hg; exact iGapsP ha hb w
theorem own_le {w : World} {g : Nat} {T : TypeId} {sz n cap : Nat} {xs : List Int} (h : Own w g T sz n cap xs) : n ≤ cap := by obtain ⟨_, _, h1, _⟩ := h.body; exact h1
end
end Go.Proofs.Ytgncjpakclbegaa
