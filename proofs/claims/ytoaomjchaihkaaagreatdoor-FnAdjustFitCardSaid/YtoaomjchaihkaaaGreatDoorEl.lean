/-
  How the laws on adjusted heights compare lists of quotients, mark them and look whether they hold.
-/
import Derived.Test.YtoaomjchaihkaaaGreatDoorEya
import Derived.Test.YtoaomjchaihkaaaGreatDoorNz
namespace Go.Proofs.YtoaomjchaihkaaaGreatDoor
open Go.RowKit
set_option linter.unusedVariables false

/-- a slice value holds quotients -/
def QRead (w : World) (p : Option Addr) (xs : List (Int × Int)) : Prop := xs = [] ∨ ∃ B o, p = some ⟨B, o, none⟩ ∧ B < w.heap.size ∧ ∀ (i : Nat) (x : Int × Int), xs[i]? = some x → w.cell? ⟨B, o + i * 2, none⟩ = some (.int .i64 x.1) ∧ w.cell? ⟨B, o + i * 2 + 1, none⟩ = some (.int .i64 x.2)
theorem QRead.below {w w' : World} {p : Option Addr} {xs : List (Int × Int)} (h : QRead w p xs) (hb : Below w.heap.size w w') : QRead w' p xs := by
  rcases h with h | ⟨B, o, h1, h2, h3⟩
  · exact .inl h
  · exact .inr ⟨B, o, h1, Nat.lt_of_lt_of_le h2 hb.size, fun i x hi => ⟨cell_below_keep hb (h3 i x hi).1, cell_below_keep hb (h3 i x hi).2⟩⟩
theorem Own.quos {w : World} {g n cap : Nat} {xs : List (Int × Int)} (h : Own w g 36 2 n cap (flq xs)) : QRead w (some ⟨g, 0, none⟩) xs :=
  .inr ⟨g, 0, rfl, h.lt, fun i x hi => by
    have := flq_at hi
    rw [Nat.zero_add]
    exact ⟨h.cells this.1, h.cells this.2⟩⟩
theorem QRead.at {w : World} {p : Option Addr} {xs : List (Int × Int)} (h : QRead w p xs) {i : Nat} (hi : i < xs.length) : ∃ B o x, p = some ⟨B, o, none⟩ ∧ xs[i]? = some x ∧ B < w.heap.size ∧ w.cell? ⟨B, o + i * 2, none⟩ = some (.int .i64 x.1) ∧ w.cell? ⟨B, o + i * 2 + 1, none⟩ = some (.int .i64 x.2) := by
  rcases h with h | ⟨B, o, h1, h2, h3⟩
  · rw [h] at hi; simp at hi
  · exact ⟨B, o, xs[i], h1, List.getElem?_eq_getElem hi, h2, h3 i _ (List.getElem?_eq_getElem hi)⟩
theorem whole_q (x : Int) (w : World) :
    Calls Tryz.prog 14 #[.int .i64 x] w fun e w' => e = .returned (.agg #[.int .i64 x, .int .i64 1]) ∧ Below w.heap.size w w' := by
  go_enter Tryz.func14, Tryz.ntmps14
  go_wp2_with fail
  refine bodyPost_ret (v := .agg #[.int .i64 x, .int .i64 1]) (by simp [results, Tryz.results14, go_sem]) rfl ⟨rfl, (by repeat (first | assumption | exact Below.refl _ _ | (refine below_chain ?_ (by assumption) (by first | omega | (simp <;> omega) | simp)) | (refine Below.alloc ?_ (by first | omega | (simp <;> omega) | simp) _) | (apply below_drewN) | (apply below_drew) | (refine Below.setCell ?_ (by first | omega | (simp <;> omega) | simp) _)))⟩
/-- many ways that leave the same but for a block -/
theorem ways_cell {x y : Int} {V : World} {G : Prop} {P : Nat → World → Prop} (h1 : (∀ Y W, Cell2 W Y x y → Below V.heap.size V W → P Y W) → G) (h2 : ∀ Y W, Cell2 W Y x y → Below V.heap.size V W → P Y W) : G := h1 h2
set_option maxHeartbeats 2000000 in
theorem sameQuos_is (p q : Option Addr) (c d m : Nat) (xs : List (Int × Int)) (w : World) (hp : QRead w p xs) (hq : QRead w q xs) (hm : xs.length = m) (hl : m ≤ 4000000000000000000) :
    Calls Tryz.prog 9 #[.slice p m c, .slice q m d] w fun e w' => e = .returned (.bool true) ∧ Below w.heap.size w w' := by
  have H := Lib.hid (And.intro hp (And.intro hq hm))
  clear hp hq hm
  go_enter Tryz.func9, Tryz.ntmps9
  go_wp2_with fail
  go_loopw [5] (fun i wr => ∃ j : Nat, j ≤ m ∧ i = .int .i64 j ∧ Below w.heap.size w wr) (fun i _ => m - (intOf i).toNat)
  case atStart => exact ⟨0, Nat.zero_le _, rfl, Below.refl _ _⟩
  case round =>
    obtain ⟨j, hj, rfl, hb⟩ := hrel
    by_cases hlt : j < m
    · have hlt' : (j : Int) < (m : Int) := by omega
      obtain ⟨B, o, x, rfl, hx, hB, e1, e2⟩ := (H.out.1.below hb).at (i := j) (by rw [H.out.2.2]; exact hlt)
      obtain ⟨B', o', x', rfl, hx', hB', e3, e4⟩ := (H.out.2.1.below hb).at (i := j) (by rw [H.out.2.2]; exact hlt)
      obtain rfl : x = x' := by rw [hx] at hx'; cases hx'; rfl
      have HB := Lib.hid hb
      obtain ⟨x1, x2⟩ := x
      dsimp only at e1 e2 e3 e4
      clear hb hx hx'
      go_upto_region 6 with fail
      go_region
      go_wp2_with fail
      go_roundw
      case rel => exact ⟨j + 1, by omega, by go_num, below_drew HB.out⟩
      case measure => simp [intOf]; omega
    · have e : j = m := by omega
      subst e
      have HB := Lib.hid hb
      clear hb
      go_wp2_with fail
      go_ret
      exact ⟨rfl, HB.out⟩
theorem sameQuos_nil (p q : Option Addr) (c d : Nat) (w : World) :
    Calls Tryz.prog 9 #[.slice p 0 c, .slice q 0 d] w fun e w' => e = .returned (.bool true) ∧ Below w.heap.size w w' := sameQuos_is p q c d 0 [] w (.inl rfl) (.inl rfl) rfl (by omega)
end Go.Proofs.YtoaomjchaihkaaaGreatDoor
