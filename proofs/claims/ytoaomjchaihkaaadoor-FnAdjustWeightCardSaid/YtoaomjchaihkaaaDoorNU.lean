/-
  Small facts on nets that several laws use: what NetFits, NetLoops, NetLinked and NetWhole answer where the length stands apart; parts of lists; loops are not fewer than none.
-/
import Derived.Test.YtoaomjchaihkaaaDoorDNe
import Derived.Test.YtoaomjchaihkaaaDoorZi
namespace Go.Proofs.YtoaomjchaihkaaaDoor
open Go.RowKit
set_option linter.unusedVariables false

theorem htAt_set {hs : List Int} {k : Nat} {z x : Int} (h0 : 0 ≤ x) (hk : k < hs.length) : htAt (hs.set k z) x = if x = (k : Int) then z else htAt hs x := by
  unfold htAt
  rw [List.getElem?_set]
  by_cases e : k = x.toNat
  · have : x = (k : Int) := by omega
    subst this; simp [hk]
  · have : ¬ x = (k : Int) := by omega
    simp [e, this]
theorem runs_take {w : World} {p : Option Addr} {rs : List Rn} (h : Runs w p rs) (j : Nat) : Runs w p (rs.take j) := by
  rcases h with rfl | ⟨B, o, e, hB, hc⟩
  · exact .inl (by simp)
  · exact .inr ⟨B, o, e, hB, fun i r hi => hc i r (take_get hi)⟩
theorem ints_cells {w : World} {a : Addr} {zs : List Int} (h : Ints w (some a) zs) : ∀ (j : Nat) (z : Int), zs[j]? = some z → w.cell? (a.add j) = some (.int .i64 z) := by
  intro j z hz
  rcases h with rfl | ⟨B, o, e, hB, hc⟩
  · simp at hz
  · cases e; rw [Go.WideShapes.add_plain]; exact hc j z hz
theorem nLoops_pos {N : Nat} {rs : List Rn} (h : nOk N rs = true) : 0 ≤ nLoops N rs := by
  rw [nLoops_yes h]
  have : N ≤ roots (labs N rs) N + rs.length := rk_ge (nOk_ends h)
  omega
/-- in a whole net two heights that fit differ alike -/
theorem fits_whole {N : Nat} {rs : List Rn} {hs os : List Int} (h : nFits N rs hs = true) (hw : nWhole N rs = true) (hl : os.length = N) (hb : ∀ (i : Nat) (z : Int), os[i]? = some z → -1000000 ≤ z ∧ z ≤ 1000000) :
    nFits N rs os = true ↔ ∀ i : Nat, i < N → htAt os i - htAt hs i = htAt os 0 - htAt hs 0 := by
  obtain ⟨h1, h2, h3⟩ := nFits_true h
  constructor
  · intro h' i hi
    have h3' := (nFits_true h').2.2
    have := whole_same hw hi (fun x => htAt os x - htAt hs x = htAt os 0 - htAt hs 0) (fun r hr => by
      obtain ⟨j, hj⟩ := List.getElem?_of_mem hr
      have a := h3 j r hj
      have b := h3' j r hj
      constructor <;> intro _ <;> omega)
    exact this.1 rfl
  · intro hd
    refine nFits_of h1 (htOk_of (by omega) (fun i z _ hz => ?_)) (fun i r hi hr => ?_)
    · have := hb i z hz; unfold hOk; simp; omega
    · obtain ⟨a1, a2, a3, a4⟩ := nOk_ends h1 r (List.mem_of_getElem? hr)
      have b1 := hd r.f.toNat (by omega)
      have b2 := hd r.t.toNat (by omega)
      rw [show ((r.f.toNat : Nat) : Int) = r.f by omega] at b1
      rw [show ((r.t.toNat : Nat) : Int) = r.t by omega] at b2
      have := h3 i r hr
      unfold fitR; simp; omega
section
variable {N m : Nat} {q p : Option Addr} {c d : Nat} {rs : List Rn} {hs : List Int} {b : Bool} {v : Int}
theorem iWhole_at (w : World) (hm : rs.length = m) (h : Runs w q rs) (hl : m ≤ 100) (hb : nWhole N rs = b) :
    Calls Tryd.prog 29 #[.int .i64 N, .slice q m c] w fun e w' => e = .returned (.bool b) ∧ Below w.heap.size w w' := by
  subst hm; exact iWhole N q c rs b w h (by omega) hb
theorem iLinked_at (w : World) (hm : rs.length = m) (h : Runs w q rs) (hn : nOk N rs = true) :
    Calls Tryd.prog 65 #[.int .i64 N, .slice q m c] w fun e w' => ∃ v, e = .returned v ∧ NewInts w (labs N rs) v w' := by
  subst hm; exact iLinked_yes N q c rs w h hn
end
end Go.Proofs.YtoaomjchaihkaaaDoor
