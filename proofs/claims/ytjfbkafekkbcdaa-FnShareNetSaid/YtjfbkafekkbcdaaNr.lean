/-
  What impl.NetLinked answers.
-/
import Derived.Test.YtjfbkafekkbcdaaNq
import Derived.Test.YtjfbkafekkbcdaaNk
import Derived.Test.YtjfbkafekkbcdaaNm
namespace Go.Proofs.Ytjfbkafekkbcdaa
open Go.RowKit
set_option linter.unusedVariables false

/-- the first k labels are right -/
def labTo (n : Int) (rs : List Rn) (k : Nat) (L : List Int) : Prop := ∀ i : Int, 0 ≤ i → i < k → Lst n rs i (htAt L i)
theorem labTo_succ {n : Int} {rs : List Rn} {k : Nat} {L : List Int} {m : Int} (h : labTo n rs k L) (hk : k < L.length) (hm : Lst n rs k m) : labTo n rs (k + 1) (L.set k m) := fun i h0 h1 => by
  by_cases e : i = k
  · subst e
    have : htAt (L.set k m) k = m := by simp [htAt, hk]
    rw [this]; exact hm
  · have hne : ¬ k = i.toNat := by omega
    have : htAt (L.set k m) i = htAt L i := by simp [htAt, hne]
    rw [this]; exact h i h0 (by omega)

set_option maxHeartbeats 4000000 in
theorem iLinked_yes (N : Nat) (p : Option Addr) (c : Nat) (rs : List Rn) (w : World) (h : Runs w p rs) (hn : nOk N rs = true) :
    Calls Try.prog 69 #[.int .i64 N, .slice p rs.length c] w fun e w' => ∃ v, e = .returned v ∧ NewInts w (labs N rs) v w' := by
  have H := Lib.hid h
  obtain ⟨hn2, hn6, hl12, -⟩ := nOk_true hn
  have HK := Lib.hid hn
  have c1 := fun w h => Lib.hid (iValid N p c rs true w h (by omega) hn)
  have c2 := fun w h => Lib.hid (neighbors_is N p c rs w h hn)
  have hm := fun w => made_ints w N (by omega)
  have h0 := fun (w : World) => Lib.hid (Own.made w 3 N 1 (by decide) (by unfold maxLen; omega))
  clear h hn
  go_enter Try.func69, Try.ntmps69
  go_wp2_with (first | (go_at_call 28; (with_reducible refine ((c1 _ ?_).out).mono ?_); (focus ((exact H.out); done)); rintro e wa ⟨rfl, hb_wa⟩; have hs_wa := hb_wa.size; (try simp at hs_wa)) | (go_at_call 78; (with_reducible refine ((c2 _ ?_).out).mono ?_); (focus (exact H.out.below (by repeat (first | assumption | exact Below.refl _ _ | (refine below_chain ?_ (by assumption) (by first | omega | (simp <;> omega) | simp)) | (refine Below.alloc ?_ (by first | omega | (simp <;> omega) | simp) _) | (apply below_drewN) | (apply below_drew) | (refine Below.setCell ?_ (by first | omega | (simp <;> omega) | simp) _))); done)); rintro e wb ⟨f, rfl, hne⟩; have hb_wb := hne.below; have hs_wb := hb_wb.size; have HN := Lib.hid hne; have hlB := hne.map.lt; clear hne))
  have HO0 := Lib.hid (h0 wb).out
  have hB0 : Below w.heap.size w wb := (by repeat (first | assumption | exact Below.refl _ _ | (refine below_chain ?_ (by assumption) (by first | omega | (simp <;> omega) | simp)) | (refine Below.alloc ?_ (by first | omega | (simp <;> omega) | simp) _) | (apply below_drewN) | (apply below_drew) | (refine Below.setCell ?_ (by first | omega | (simp <;> omega) | simp) _)))
  have hBw : w.heap.size ≤ wb.heap.size := by omega
  clear hm c1 c2 h0 hb_wa hb_wb
  have hB1 : Below wb.heap.size wb (wb.alloc (.cells (madeCells #[.int .i64 0] N) 3)) := (Below.refl _ _).alloc (Nat.le_refl _) _
  go_loopw [18] (fun i wr => ∃ (k : Nat) (L : List Int), k ≤ N ∧ i = .int .i64 k ∧ Own wr wb.heap.size 3 1 N N L ∧ labTo N rs k L ∧ Below wb.heap.size wb wr) (fun i _ => N - (intOf i).toNat)
  case atStart => exact ⟨0, _, Nat.zero_le _, rfl, by simpa using HO0.out, fun i h0 h1 => by omega, hB1⟩
  case round =>
    clear HO0 hB1
    obtain ⟨k, L, hk, rfl, how, hlab, hbr⟩ := hrel
    have hbs := hbr.size
    have hlo := how.lt
    have HO := Lib.hid (And.intro how hlab)
    have hLl := how.len
    have HLl := Lib.hid hLl
    clear hLl
    by_cases hlt : k < N
    · have kl := fun (hk0 : (0 : Int) ≤ k) (hk1 : (k : Int) < N) => Lib.hid (linked_is N rs wa.heap.size (2 * rs.length) f k wr wa HK.out ⟨HN.out.map.below hbr, HN.out.nbs.below hbr, HN.out.below.trans (hbr.mono hs_wb)⟩ hk0 hk1)
      have kl' := kl (by omega) (by omega)
      clear kl how hlab
      go_wp2_with (first | (go_at_call 80; (with_reducible refine (kl'.out).mono ?_); rintro e wl ⟨F, v, rfl, ⟨g, cap, rfl, hg, hown, hbl⟩, hcls, hF6⟩; have hsl := hbl.size; have hOl := HO.out.1.below hbl; have hfl := hOl.frozen k; have hll := hOl.lt; have hcl := hOl.cells (i := k) (z := (L[k]?).getD 0) (by have := HLl.out; rw [List.getElem?_eq_getElem (by omega)]; rfl); have HF := Lib.hid (And.intro hown (And.intro hcls hOl)); clear hown hcls hOl) | (go_at_call 79; (with_reducible refine (min_is _ _ F _ ?_ ?_ ?_).mono ?_); (focus (exact HF.out.1.ints; done)); (focus (exact List.length_pos_of_mem HF.out.2.1.start; done)); (focus (omega; done)); rintro e w' ⟨⟨m, rfl, hm⟩, rfl⟩; have HM := Lib.hid hm; clear hm))
      go_roundw
      case rel =>
        have hLl := HLl.out
        exact ⟨k + 1, L.set k m, by omega, by go_num, HF.out.2.2.set k m (by omega), labTo_succ HO.out.2 (by omega) (HF.out.2.1.lst HM.out.1 HM.out.2), (hbr.trans (hbl.mono hbs)).setCell (Nat.le_refl _) _⟩
      case measure => simp [intOf]; omega
    · have e : k = N := by omega
      subst e
      have hlab2 : Hid (L = labs k rs) := Lib.hid (labs_eq ⟨by have := HLl.out; omega, fun i h0 h1 => hlab i h0 h1⟩)
      clear how hlab
      go_wp2_with fail
      go_ret
      exact ⟨.slice (some ⟨wb.heap.size, 0, none⟩) k k, rfl, wb.heap.size, k, by rw [← hlab2.out]; have := HLl.out; rw [this]; simp, hBw, by rw [← hlab2.out]; have := HLl.out; rw [this, Nat.mul_one]; exact HO.out.1, hB0.trans (hbr.mono hBw)⟩
theorem iLinked_no (n : Int) (p : Option Addr) (c : Nat) (rs : List Rn) (w : World) (h : Runs w p rs) (hl : rs.length ≤ 4000000000000000000) (hn : nOk n rs = false) :
    Calls Try.prog 69 #[.int .i64 n, .slice p rs.length c] w fun e w' => (∃ q, e = .returned (.slice q 0 0)) ∧ Below w.heap.size w w' := by
  have H := Lib.hid h
  have c1 := fun w h => Lib.hid (iValid n p c rs false w h hl hn)
  clear h hn
  go_enter Try.func69, Try.ntmps69
  go_wp2_with ((go_at_call 28; (with_reducible refine ((c1 _ ?_).out).mono ?_); (focus ((exact H.out); done)); rintro e wa ⟨rfl, hb_wa⟩; have hs_wa := hb_wa.size; (try simp at hs_wa)))
  go_ret
  exact ⟨⟨_, rfl⟩, (by repeat (first | assumption | exact Below.refl _ _ | (refine below_chain ?_ (by assumption) (by first | omega | (simp <;> omega) | simp)) | (refine Below.alloc ?_ (by first | omega | (simp <;> omega) | simp) _) | (apply below_drewN) | (apply below_drew) | (refine Below.setCell ?_ (by first | omega | (simp <;> omega) | simp) _)))⟩
end Go.Proofs.Ytjfbkafekkbcdaa
