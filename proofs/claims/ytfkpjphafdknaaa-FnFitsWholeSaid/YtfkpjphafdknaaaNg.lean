/-
  What NetBack answers, in both programs; a clone of a list of runs.
-/
import Derived.Test.YtfkpjphafdknaaaNl
import Derived.Test.YtfkpjphafdknaaaNf
import Derived.Test.YtfkpjphafdknaaaApp
import Derived.Laws.Cover3
namespace Go.Proofs.Ytfkpjphafdknaaa
open Go.RowKit
set_option linter.unusedVariables false

theorem runs_not_nil (a : Addr) (l c : Nat) (w : World) : (binOp .eql 23 (.slice (some a) l c) (.slice none 0 0)).run Try.prog w = .ok (.bool false) w := by
  have h := run_equal_slice_nil (P := Try.prog) w 23 30 (some a) l c Try.underlying23
  simp [binOp, h]
def turnR (r : Rn) : Rn := ⟨r.t, r.f, -r.s, r.g⟩
theorem turned_is (f t s g : Int) (w : World) (h1 : -100000 ≤ s) (h2 : s ≤ 100000) :
    Calls Try.prog 54 #[.agg #[.int .i64 f, .int .i64 t, .int .i64 s, .int .i64 g]] w fun e w' => e = .returned (.agg #[.int .i64 t, .int .i64 f, .int .i64 (-s), .int .i64 g]) ∧ Below w.heap.size w w' := by
  go_enter Try.func54, Try.ntmps54
  go_wp2
  exact bodyPost_ret (v := .agg #[.int .i64 t, .int .i64 f, .int .i64 (-s), .int .i64 g]) (by simp [results, Try.results54, go_sem]) rfl ⟨rfl, (by repeat (first | assumption | exact Below.refl _ _ | (refine below_chain ?_ (by assumption) (by first | omega | (simp <;> omega) | simp)) | (refine Below.alloc ?_ (by first | omega | (simp <;> omega) | simp) _) | (apply below_drewN) | (apply below_drew) | (refine Below.setCell ?_ (by first | omega | (simp <;> omega) | simp) _)))⟩

theorem runs_cells {w : World} {B o : Nat} {rs : List Rn} (h : Runs w (some ⟨B, o, none⟩) rs) : ∀ (j : Nat) (z : Int), (flat rs)[j]? = some z → w.cell? ((⟨B, o, none⟩ : Addr).add j) = some (.int .i64 z) := by
  rcases h with rfl | ⟨B', o', e, hB, hc⟩
  · intro j z h; simp [flat] at h
  · simp at e
    obtain ⟨rfl, rfl⟩ := e
    intro j z hj
    rw [Go.WideShapes.add_plain]
    have hlt : j < rs.length * 4 := by have := (List.getElem?_eq_some_iff.1 hj).1; rw [flat_len] at this; exact this
    have hi : j / 4 < rs.length := by omega
    obtain ⟨x0, x1, x2, x3⟩ := hc (j / 4) _ (List.getElem?_eq_getElem hi)
    obtain ⟨y0, y1, y2, y3⟩ := flat_at (List.getElem?_eq_getElem hi)
    rcases (show j % 4 = 0 ∨ j % 4 = 1 ∨ j % 4 = 2 ∨ j % 4 = 3 by omega) with e | e | e | e
    · have ej : j = j / 4 * 4 := by omega
      rw [ej] at hj ⊢; rw [y0] at hj; cases hj; exact x0
    · have ej : j = j / 4 * 4 + 1 := by omega
      rw [ej] at hj ⊢; rw [y1] at hj; cases hj; exact x1
    · have ej : j = j / 4 * 4 + 2 := by omega
      rw [ej] at hj ⊢; rw [y2] at hj; cases hj; exact x2
    · have ej : j = j / 4 * 4 + 3 := by omega
      rw [ej] at hj ⊢; rw [y3] at hj; cases hj; exact x3

/-- the answer of a call that makes a new list of runs -/
def NewRuns (w : World) (rs : List Rn) (v : Value) (w' : World) : Prop :=
  ∃ g cap, v = .slice (some ⟨g, 0, none⟩) rs.length cap ∧ w.heap.size ≤ g ∧ Own w' g 30 4 rs.length cap (flat rs) ∧ Below w.heap.size w w'
set_option maxHeartbeats 1000000 in
theorem clone_is (B o c : Nat) (rs : List Rn) (w : World) (h : Runs w (some ⟨B, o, none⟩) rs) (hl : rs.length ≤ 4194304) :
    Calls Try.prog 53 #[.slice (some ⟨B, o, none⟩) rs.length c] w fun e w' => ∃ v, e = .returned v ∧ NewRuns w rs v w' := by
  have H := Lib.hid h
  clear h
  have hnn := fun w => runs_not_nil ⟨B, o, none⟩ rs.length c w
  go_enter Try.func53, Try.ntmps53
  go_wp2_with (at_builtin; refine wp_append _ rfl _ _ 23 rfl 30 _ 4 32 Try.underlying23 info_run rfl (by decide) (by decide) _ 0 0 [] rfl (Own.empty w _ 4) _ _ _ (flat rs) rfl (flat_len rs) (runs_cells (H.out.alloc _)) (by omega) ?_; intro g' cap' w' hown hg hloc hsz)
  simp only [Nat.zero_add, List.nil_append] at hown
  have HO := Lib.hid (And.intro hown (And.intro hg hloc))
  clear hown hg hloc
  go_wp2_with fail
  go_ret
  obtain ⟨hown, hg, hloc⟩ := HO.out
  exact ⟨_, rfl, g', cap', by simp, by rcases hloc with rfl | rfl <;> simp, hown, below_gr ((Below.refl _ _).alloc (Nat.le_refl _) _) hg (Nat.le_refl _) (by simp)⟩

theorem hasRun_nat {rs : List Rn} {k : Int} (h : 0 ≤ k ∧ k < rs.length) : ∃ (j : Nat) (r : Rn), k = (j : Int) ∧ j < rs.length ∧ rs[j]? = some r :=
  ⟨k.toNat, rs[k.toNat]'(by omega), by omega, by omega, List.getElem?_eq_getElem (by omega)⟩

set_option maxHeartbeats 2000000 in
theorem iBack_yes (n : Int) (p : Option Addr) (c : Nat) (rs : List Rn) (j : Nat) (r : Rn) (w : World) (h : Runs w p rs) (h1 : nOk n rs = true) (hr : rs[j]? = some r) :
    Calls Try.prog 23 #[.int .i64 n, .slice p rs.length c, .int .i64 j] w fun e w' => ∃ v, e = .returned (.tuple #[v, .bool true]) ∧ NewRuns w (rs.set j (turnR r)) v w' := by
  have hj := (List.getElem?_eq_some_iff.1 hr).1
  obtain ⟨-, -, hl12, hall⟩ := nOk_true h1
  obtain ⟨-, -, -, -, -, s1, s2, -, -⟩ := rOk_true (hall _ _ hr)
  have c1 := fun w h => Lib.hid (iValid n p c rs true w h (by omega) h1)
  have c2 := fun w => Lib.hid (nHasRun p rs.length c j true w (by simp; omega))
  have HR := Lib.hid hr
  clear h1 hr hall
  obtain ⟨B, o, rfl⟩ : ∃ B o, p = some ⟨B, o, none⟩ := by
    obtain ⟨B, o, _, e, _⟩ := h.at hj
    exact ⟨B, o, e⟩
  have H := Lib.hid h
  clear h
  have hjl : (j : Int) < (rs.length : Int) := by omega
  go_enter Try.func23, Try.ntmps23
  go_wp2_with (first | (go_at_call 34; (with_reducible refine ((c1 _ ?_).out).mono ?_); (focus ((exact H.out); done)); rintro e wa ⟨rfl, hb_wa⟩; have hs_wa := hb_wa.size; (try simp at hs_wa)) | (go_at_call 52; (with_reducible refine ((c2 _).out).mono ?_); rintro e w' ⟨rfl, rfl⟩) | (go_at_call 53; (with_reducible refine (clone_is B o c rs _ ?_ (by omega)).mono ?_); (focus (exact H.out.below (by repeat (first | assumption | exact Below.refl _ _ | (refine below_chain ?_ (by assumption) (by first | omega | (simp <;> omega) | simp)) | (refine Below.alloc ?_ (by first | omega | (simp <;> omega) | simp) _) | (apply below_drewN) | (apply below_drew) | (refine Below.setCell ?_ (by first | omega | (simp <;> omega) | simp) _))); done)); rintro e wb ⟨v, rfl, g, cap, rfl, hgw, hown, hb_wb⟩; have hs_wb := hb_wb.size; have hlo := hown.lt; obtain ⟨x0, x1, x2, x3⟩ := hown.runAt HR.out; have hf0 := hown.frozen (j * 4); have hf1 := hown.frozen (j * 4 + 1); have hf2 := hown.frozen (j * 4 + 2); have hf3 := hown.frozen (j * 4 + 3); have HO := Lib.hid hown; clear hown) | ((go_at_call 54; (with_reducible refine (turned_is _ _ _ _ _ s1 s2).mono ?_); rintro e wt ⟨rfl, hb_wt⟩; have hs_wt := hb_wt.size; (try simp at hs_wt)); obtain ⟨hcn, hfn⟩ := bcell hb_wt))
  refine bodyPost_ret (v := .tuple #[.slice (some ⟨g, 0, none⟩) rs.length cap, .bool true]) (by simp [results, Try.results23, go_sem]) rfl ⟨_, rfl, g, cap, by simp, by omega, ?_, ?_⟩
  · have := (HO.out.below hb_wt).set4 hj (turnR r)
    simpa [turnR] using this
  · exact (by repeat (first | assumption | exact Below.refl _ _ | (refine below_chain ?_ (by assumption) (by first | omega | (simp <;> omega) | simp)) | (refine Below.alloc ?_ (by first | omega | (simp <;> omega) | simp) _) | (apply below_drewN) | (apply below_drew) | (refine Below.setCell ?_ (by first | omega | (simp <;> omega) | simp) _)))

set_option maxHeartbeats 1000000 in
theorem iBack_no (n k : Int) (p : Option Addr) (c : Nat) (rs : List Rn) (w : World) (h : Runs w p rs) (hl : rs.length ≤ 4000000000000000000) (hno : ¬ (nOk n rs = true ∧ 0 ≤ k ∧ k < rs.length)) :
    Calls Try.prog 23 #[.int .i64 n, .slice p rs.length c, .int .i64 k] w fun e w' => e = .returned (.tuple #[.slice none 0 0, .bool false]) ∧ Below w.heap.size w w' := by
  have H := Lib.hid h
  clear h
  obtain ⟨b, hb⟩ : ∃ b, nOk n rs = b := ⟨_, rfl⟩
  have c1 := fun w h => Lib.hid (iValid n p c rs b w h hl hb)
  cases b
  · clear hb hno
    go_enter Try.func23, Try.ntmps23
    go_wp2_with ((go_at_call 34; (with_reducible refine ((c1 _ ?_).out).mono ?_); (focus ((exact H.out); done)); rintro e wa ⟨rfl, hb_wa⟩; have hs_wa := hb_wa.size; (try simp at hs_wa)))
    exact bodyPost_ret (v := .tuple #[.slice none 0 0, .bool false]) (by simp [results, Try.results23, go_sem]) rfl ⟨rfl, (by repeat (first | assumption | exact Below.refl _ _ | (refine below_chain ?_ (by assumption) (by first | omega | (simp <;> omega) | simp)) | (refine Below.alloc ?_ (by first | omega | (simp <;> omega) | simp) _) | (apply below_drewN) | (apply below_drew) | (refine Below.setCell ?_ (by first | omega | (simp <;> omega) | simp) _)))⟩
  · have c2 := fun w => Lib.hid (nHasRun p rs.length c k false w (by simp [hb] at hno; simp; omega))
    clear hb hno
    go_enter Try.func23, Try.ntmps23
    go_wp2_with (first | (go_at_call 34; (with_reducible refine ((c1 _ ?_).out).mono ?_); (focus ((exact H.out); done)); rintro e wa ⟨rfl, hb_wa⟩; have hs_wa := hb_wa.size; (try simp at hs_wa)) | (go_at_call 52; (with_reducible refine ((c2 _).out).mono ?_); rintro e w' ⟨rfl, rfl⟩))
    exact bodyPost_ret (v := .tuple #[.slice none 0 0, .bool false]) (by simp [results, Try.results23, go_sem]) rfl ⟨rfl, (by repeat (first | assumption | exact Below.refl _ _ | (refine below_chain ?_ (by assumption) (by first | omega | (simp <;> omega) | simp)) | (refine Below.alloc ?_ (by first | omega | (simp <;> omega) | simp) _) | (apply below_drewN) | (apply below_drew) | (refine Below.setCell ?_ (by first | omega | (simp <;> omega) | simp) _)))⟩
set_option maxHeartbeats 1000000 in
theorem sBack_no (n k : Int) (p : Option Addr) (c : Nat) (rs : List Rn) (w : World) (h : Runs w p rs) (hl : rs.length ≤ 4000000000000000000) (hno : ¬ (nOk n rs = true ∧ 0 ≤ k ∧ k < rs.length)) :
    Calls Try.prog 24 #[.int .i64 n, .slice p rs.length c, .int .i64 k] w fun e w' => (∃ q, e = .returned (.tuple #[.slice q 0 0, .bool false])) ∧ Below w.heap.size w w' := by
  have H := Lib.hid h
  clear h
  obtain ⟨b, hb⟩ : ∃ b, nOk n rs = b := ⟨_, rfl⟩
  have c1 := fun w h => Lib.hid (sValid n p c rs b w h hl hb)
  cases b
  · clear hb hno
    go_enter Try.func24, Try.ntmps24
    go_wp2_with ((go_at_call 32; (with_reducible refine ((c1 _ ?_).out).mono ?_); (focus ((exact H.out); done)); rintro e wa ⟨rfl, hb_wa⟩; have hs_wa := hb_wa.size; (try simp at hs_wa)))
    exact bodyPost_ret (v := .tuple #[.slice (some ⟨wa.heap.size, 0, none⟩) 0 0, .bool false]) (by simp [results, Try.results24, go_sem]) rfl ⟨⟨_, rfl⟩, (by repeat (first | assumption | exact Below.refl _ _ | (refine below_chain ?_ (by assumption) (by first | omega | (simp <;> omega) | simp)) | (refine Below.alloc ?_ (by first | omega | (simp <;> omega) | simp) _) | (apply below_drewN) | (apply below_drew) | (refine Below.setCell ?_ (by first | omega | (simp <;> omega) | simp) _)))⟩
  · have c2 := fun w => Lib.hid (nIn k 0 (rs.length - 1) false w (by simp [hb] at hno; simp; omega))
    clear hb hno
    go_enter Try.func24, Try.ntmps24
    go_wp2_with (first | (go_at_call 32; (with_reducible refine ((c1 _ ?_).out).mono ?_); (focus ((exact H.out); done)); rintro e wa ⟨rfl, hb_wa⟩; have hs_wa := hb_wa.size; (try simp at hs_wa)) | (go_at_call 55; (with_reducible refine ((c2 _).out).mono ?_); rintro e w' ⟨rfl, rfl⟩))
    exact bodyPost_ret (v := .tuple #[.slice (some ⟨wa.heap.size, 0, none⟩) 0 0, .bool false]) (by simp [results, Try.results24, go_sem]) rfl ⟨⟨_, rfl⟩, (by repeat (first | assumption | exact Below.refl _ _ | (refine below_chain ?_ (by assumption) (by first | omega | (simp <;> omega) | simp)) | (refine Below.alloc ?_ (by first | omega | (simp <;> omega) | simp) _) | (apply below_drewN) | (apply below_drew) | (refine Below.setCell ?_ (by first | omega | (simp <;> omega) | simp) _)))⟩
set_option maxHeartbeats 2000000 in
theorem sBack_yes (n : Int) (p : Option Addr) (c : Nat) (rs : List Rn) (j : Nat) (r : Rn) (w : World) (h : Runs w p rs) (h1 : nOk n rs = true) (hr : rs[j]? = some r) :
    Calls Try.prog 24 #[.int .i64 n, .slice p rs.length c, .int .i64 j] w fun e w' => ∃ v, e = .returned (.tuple #[v, .bool true]) ∧ NewRuns w (rs.set j (turnR r)) v w' := by
  have hj := (List.getElem?_eq_some_iff.1 hr).1
  obtain ⟨-, -, hl12, hall⟩ := nOk_true h1
  obtain ⟨-, -, -, -, -, s1, s2, -, -⟩ := rOk_true (hall _ _ hr)
  have c1 := fun w h => Lib.hid (sValid n p c rs true w h (by omega) h1)
  have c2 := fun w => Lib.hid (nIn j 0 (rs.length - 1) true w (by simp; omega))
  have HR := Lib.hid hr
  clear h1 hr hall
  obtain ⟨B, o, rfl⟩ : ∃ B o, p = some ⟨B, o, none⟩ := by
    obtain ⟨B, o, _, e, _⟩ := h.at hj
    exact ⟨B, o, e⟩
  have H := Lib.hid h
  have hBw := h.lt (by intro e; rw [e] at hj; simp at hj)
  clear h
  have hjl : (j : Int) < (rs.length : Int) := by omega
  go_enter Try.func24, Try.ntmps24
  go_wp2_with (first | (go_at_call 32; (with_reducible refine ((c1 _ ?_).out).mono ?_); (focus ((exact H.out); done)); rintro e wa ⟨rfl, hb_wa⟩; have hs_wa := hb_wa.size; (try simp at hs_wa)) | (go_at_call 55; (with_reducible refine ((c2 _).out).mono ?_); rintro e w' ⟨rfl, rfl⟩) | (at_builtin; refine wp_append _ rfl _ _ 23 rfl 30 _ 4 32 Try.underlying23 info_run rfl (by decide) (by decide) _ 0 0 [] rfl (Own.empty _ _ 4) _ _ _ (flat rs) rfl (flat_len rs) (runs_cells ((H.out.below hb_wa).alloc _)) (by omega) ?_; intro g cap wb hown hg hloc hsz; simp only [Nat.zero_add, List.nil_append] at hown ⊢; have hgw : wa.heap.size ≤ g := (by rcases hloc with rfl | rfl <;> simp); have hb_wb : Below wa.heap.size wa wb := below_gr ((Below.refl _ _).alloc (Nat.le_refl _) _) hg (Nat.le_refl _) (by simp); have hs_wb := hb_wb.size; have hlo := hown.lt; obtain ⟨x0, x1, x2, x3⟩ := hown.runAt HR.out; have hf0 := hown.frozen (j * 4); have hf1 := hown.frozen (j * 4 + 1); have hf2 := hown.frozen (j * 4 + 2); have hf3 := hown.frozen (j * 4 + 3); have HO := Lib.hid (And.intro hown (And.intro hg hloc)); clear hown hg hloc; have hBb : B < wb.heap.size := (by omega); obtain ⟨B', o', r', e', hr', hB', y0, y1, y2, y3⟩ := ((H.out.below hb_wa).below hb_wb).at hj; simp at e'; obtain ⟨rfl, rfl⟩ := e'; (obtain rfl : r = r' := (by have := HR.out; rw [hr'] at this; cases this; rfl)); clear hr'))
  refine bodyPost_ret (v := .tuple #[.slice (some ⟨g, 0, none⟩) rs.length cap, .bool true]) (by simp [results, Try.results24, go_sem]) rfl ⟨_, rfl, g, cap, by simp, by omega, ?_, ?_⟩
  · have := (HO.out.1.set4 hj (turnR r)).alloc (.cells #[.int .i64 r.f, .int .i64 r.t, .int .i64 r.s, .int .i64 r.g] 30)
    simpa [turnR] using this
  · exact (by repeat (first | assumption | exact Below.refl _ _ | (refine below_chain ?_ (by assumption) (by first | omega | (simp <;> omega) | simp)) | (refine Below.alloc ?_ (by first | omega | (simp <;> omega) | simp) _) | (apply below_drewN) | (apply below_drew) | (refine Below.setCell ?_ (by first | omega | (simp <;> omega) | simp) _)))
end Go.Proofs.Ytfkpjphafdknaaa
