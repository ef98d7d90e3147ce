/-
  Polygons turned by a right angle are simple; a list with a corner twice is no polygon. No function of the program is named.
-/
import Derived.Test.YtegcjdcinebleaaYjd
namespace Poly

theorem crs_rot (a b c : P2) : crs (rotP a) (rotP b) (rotP c) = crs a b c := by unfold crs Pt.cr rotP; grind
theorem onP_rot (a b c : P2) : onP (rotP a) (rotP b) (rotP c) = onP a b c := by
  have e := crs_rot a b c
  unfold onP Pt.onB
  apply decide_eq_decide.2
  unfold crs at e
  rw [e]
  unfold rotP
  simp only
  constructor <;> rintro ⟨h0, h1, h2, h3, h4⟩ <;> exact ⟨h0, by omega, by omega, by omega, by omega⟩
theorem sd_rot (a b c : P2) : sd (rotP a) (rotP b) (rotP c) = sd a b c := by unfold sd; rw [crs_rot]
theorem meet_rot (a b c d : P2) : meet (rotP a) (rotP b) (rotP c) (rotP d) = meet a b c d := by
  unfold meet touch parts
  simp only [onP_rot, sd_rot]
theorem clash_rot {L : List P2} (h : 0 < L.length) (i k : Nat) : clash (rotL L) i k = clash L i k := by
  unfold clash
  simp only [cy_rot h, onP_rot, meet_rot, rot_len]
theorem simple_rot {L : List P2} (h : 0 < L.length) : simple (rotL L) = simple L := by
  unfold simple
  simp only [rot_len, clash_rot h]
theorem polyV_rot {L : List P2} (h : polyV L = true) : polyV (rotL L) = true := by
  have hok := (polyV_parts h).1
  have hl := okP_len hok
  unfold polyV
  rw [okP_rot hok, simple_rot (by omega), (polyV_parts h).2]
  rfl
theorem polyV_twice {L : List P2} {k : Nat} (hk : k < L.length) : polyV (L ++ [cy L k]) = false := by
  have hl : (L ++ [cy L k]).length = L.length + 1 := by simp
  have e1 : cy (L ++ [cy L k]) k = cy L k := by
    have h1 := cy_lt (L := L ++ [cy L k]) (i := k) (by omega)
    have h2 := cy_lt (L := L) hk
    rw [List.getElem?_append_left hk, h2] at h1
    exact (Option.some.inj h1).symm
  have e2 : cy (L ++ [cy L k]) L.length = cy L k := by
    have h1 := cy_lt (L := L ++ [cy L k]) (i := L.length) (by omega)
    simp at h1
    exact h1.symm
  have := simple_no (L := L ++ [cy L k]) hk (by omega) (clash_same (e1.trans e2.symm) hk)
  unfold polyV
  rw [this, Bool.and_false]
end Poly
