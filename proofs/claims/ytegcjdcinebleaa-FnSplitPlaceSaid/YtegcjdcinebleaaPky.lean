/-
  The reference model: how a parcel is split, and which share the first part has.
-/
import Derived.Test.YtegcjdcinebleaaYsp
import Derived.Test.YtegcjdcinebleaaPkp
import Derived.Test.YtegcjdcinebleaaYdr
import Derived.Test.YtegcjdcinebleaaQz
namespace Go.Proofs.Ytegcjdcinebleaa
open Go.RowKit Poly
set_option linter.unusedVariables false

section
variable {p : Option Addr} {c : Nat} {L : List P2} {w : World}
/-- the list's second way round is refused -/
theorem in_of {x lo hi : Int} {b : Bool} (w : World) (h : decide (lo ≤ x ∧ x ≤ hi) = b) : Calls Try.prog 86 #[.int .i64 x, .int .i64 lo, .int .i64 hi] w fun e w' => e = .returned (.bool b) ∧ w = w' := in_is x lo hi b w h
set_option maxHeartbeats 2000000 in
theorem sSplit_off (h : Ints w p (fl L)) (hl : L.length ≤ 4000000000000000000) (i j : Int) (hno : (parV L && inJ L i j) = false) :
    Calls Try.prog 39 #[.slice p L.length c, .int .i64 i, .int .i64 j] w fun e w' => ∃ g1 g2 : Nat, e = .returned (.tuple #[.slice (some ⟨g1, 0, none⟩) 0 0, .slice (some ⟨g2, 0, none⟩) 0 0, .bool false]) ∧ (g1 < w'.heap.size ∧ g2 < w'.heap.size) ∧ Below w.heap.size w w' := by
  have H := Lib.hid h
  obtain ⟨b, hb⟩ : ∃ b, parV L = b := ⟨_, rfl⟩
  have c1 := fun w h => Lib.hid (sParcelValid_is (p := p) (c := c) (L := L) (w := w) h hl hb)
  rw [hb] at hno
  cases b
  · clear h hb hno
    go_enter Try.func39, Try.ntmps39
    go_wp2_with ((go_at_call 35; (with_reducible refine ((c1 _ ?_).out).mono ?_); (focus ((exact H.out.below (by repeat (first | assumption | exact Below.refl _ _ | (refine below_chain ?_ (by assumption) (by first | omega | (simp <;> omega) | simp)) | (refine Below.alloc ?_ (by first | omega | (simp <;> omega) | simp) _) | (apply below_drewN) | (apply below_drew) | (refine Below.setCell ?_ (by first | omega | (simp <;> omega) | simp) _)))); done)); rintro e wa ⟨rfl, hb_wa⟩; have hs_wa := hb_wa.size; (try simp at hs_wa)))
    refine bodyPost_ret (v := .tuple #[.slice (some ⟨wa.heap.size, 0, none⟩) 0 0, .slice (some ⟨wa.heap.size + 1, 0, none⟩) 0 0, .bool false]) (by simp [results, Try.results39, go_sem]) rfl ⟨_, _, rfl, ⟨by simp; omega, by simp⟩, (by repeat (first | assumption | exact Below.refl _ _ | (refine below_chain ?_ (by assumption) (by first | omega | (simp <;> omega) | simp)) | (refine Below.alloc ?_ (by first | omega | (simp <;> omega) | simp) _) | (apply below_drewN) | (apply below_drew) | (refine Below.setCell ?_ (by first | omega | (simp <;> omega) | simp) _)))⟩
  · rw [Bool.true_and] at hno
    unfold inJ at hno
    rw [decide_eq_false_iff_not] at hno
    by_cases hj : 0 ≤ j ∧ j ≤ (L.length : Int) - 1
    · have hi : ¬ (0 ≤ i ∧ i ≤ j - 1) := by omega
      have c2 := fun w => Lib.hid (in_of (x := j) (lo := 0) (hi := (L.length : Int) - 1) (b := true) w (decide_eq_true hj))
      have c3 := fun w => Lib.hid (in_of (x := i) (lo := 0) (hi := j - 1) (b := false) w (decide_eq_false hi))
      clear h hb hno
      go_enter Try.func39, Try.ntmps39
      go_wp2_with (first | ((go_at_call 35; (with_reducible refine ((c1 _ ?_).out).mono ?_); (focus ((exact H.out.below (by repeat (first | assumption | exact Below.refl _ _ | (refine below_chain ?_ (by assumption) (by first | omega | (simp <;> omega) | simp)) | (refine Below.alloc ?_ (by first | omega | (simp <;> omega) | simp) _) | (apply below_drewN) | (apply below_drew) | (refine Below.setCell ?_ (by first | omega | (simp <;> omega) | simp) _)))); done)); rintro e wa ⟨rfl, hb_wa⟩; have hs_wa := hb_wa.size; (try simp at hs_wa))) | (go_at_call 86; (with_reducible refine ((c2 _).out).mono ?_); rintro e w' ⟨rfl, rfl⟩) | (go_at_call 86; (with_reducible refine ((c3 _).out).mono ?_); rintro e w' ⟨rfl, rfl⟩))
      refine bodyPost_ret (v := .tuple #[.slice (some ⟨wa.heap.size, 0, none⟩) 0 0, .slice (some ⟨wa.heap.size + 1, 0, none⟩) 0 0, .bool false]) (by simp [results, Try.results39, go_sem]) rfl ⟨_, _, rfl, ⟨by simp; omega, by simp⟩, (by repeat (first | assumption | exact Below.refl _ _ | (refine below_chain ?_ (by assumption) (by first | omega | (simp <;> omega) | simp)) | (refine Below.alloc ?_ (by first | omega | (simp <;> omega) | simp) _) | (apply below_drewN) | (apply below_drew) | (refine Below.setCell ?_ (by first | omega | (simp <;> omega) | simp) _)))⟩
    · have c2 := fun w => Lib.hid (in_of (x := j) (lo := 0) (hi := (L.length : Int) - 1) (b := false) w (decide_eq_false hj))
      clear h hb hno
      go_enter Try.func39, Try.ntmps39
      go_wp2_with (first | ((go_at_call 35; (with_reducible refine ((c1 _ ?_).out).mono ?_); (focus ((exact H.out.below (by repeat (first | assumption | exact Below.refl _ _ | (refine below_chain ?_ (by assumption) (by first | omega | (simp <;> omega) | simp)) | (refine Below.alloc ?_ (by first | omega | (simp <;> omega) | simp) _) | (apply below_drewN) | (apply below_drew) | (refine Below.setCell ?_ (by first | omega | (simp <;> omega) | simp) _)))); done)); rintro e wa ⟨rfl, hb_wa⟩; have hs_wa := hb_wa.size; (try simp at hs_wa))) | (go_at_call 86; (with_reducible refine ((c2 _).out).mono ?_); rintro e w' ⟨rfl, rfl⟩))
      refine bodyPost_ret (v := .tuple #[.slice (some ⟨wa.heap.size, 0, none⟩) 0 0, .slice (some ⟨wa.heap.size + 1, 0, none⟩) 0 0, .bool false]) (by simp [results, Try.results39, go_sem]) rfl ⟨_, _, rfl, ⟨by simp; omega, by simp⟩, (by repeat (first | assumption | exact Below.refl _ _ | (refine below_chain ?_ (by assumption) (by first | omega | (simp <;> omega) | simp)) | (refine Below.alloc ?_ (by first | omega | (simp <;> omega) | simp) _) | (apply below_drewN) | (apply below_drew) | (refine Below.setCell ?_ (by first | omega | (simp <;> omega) | simp) _)))⟩
set_option maxHeartbeats 8000000 in
theorem sSplit_in (h : Ints w p (fl L)) (hv : parV L = true) (hc : L.length ≤ c) (i j : Nat) (hij : i < j) (hj : j < L.length) {b1 b2 : Bool} (h1 : parV (splA L i j) = b1) (h2 : parV (splB L i j) = b2) :
    Calls Try.prog 39 #[.slice p L.length c, .int .i64 i, .int .i64 j] w fun e w' => ∃ g1 n1 d1 g2 n2 d2 : Nat, e = .returned (.tuple #[.slice (some ⟨g1, 0, none⟩) n1 d1, .slice (some ⟨g2, 0, none⟩) n2 d2, .bool (b1 && b2)]) ∧
      (((b1 && b2) = true ∧ n1 = j - i + 1 ∧ n2 = L.length - j + i + 1 ∧ w.heap.size ≤ g1 ∧ w.heap.size ≤ g2 ∧ Own w' g1 31 2 n1 d1 (fl (splA L i j)) ∧ Own w' g2 31 2 n2 d2 (fl (splB L i j))) ∨ ((b1 && b2) = false ∧ n1 = 0 ∧ n2 = 0 ∧ g1 < w'.heap.size ∧ g2 < w'.heap.size)) ∧ Below w.heap.size w w' := by
  have hok := parV_ok hv
  obtain ⟨l3, l12⟩ := okP_len hok
  have c1 := fun w h => Lib.hid (sParcelValid_is (p := p) (c := c) (L := L) (w := w) h (by omega) hv)
  have hlA := splA_len (L := L) hij hj
  have hlB := splB_len (L := L) hij hj
  have H := Lib.hid h
  obtain ⟨B, o, e, hBw, -⟩ := h.pt (i := 0) (by omega)
  obtain ⟨n, hnl⟩ : ∃ n, L.length = n := ⟨_, rfl⟩
  rw [hnl] at c1 hlB hj l12 hc ⊢
  have hTl : (L.take (i + 1)).length = i + 1 := by rw [List.length_take]; omega
  have hDl : (L.drop j).length = n - j := by rw [List.length_drop, hnl]
  have c2 := fun w => Lib.hid (in_of (x := (j : Int)) (lo := 0) (hi := (n : Int) - 1) (b := true) w (decide_eq_true (by omega)))
  have c3 := fun w => Lib.hid (in_of (x := (i : Int)) (lo := 0) (hi := (j : Int) - 1) (b := true) w (decide_eq_true (by omega)))
  have HL := Lib.hid (And.intro hnl (And.intro hTl (And.intro hDl (And.intro hlA (And.intro hlB (And.intro h1 h2))))))
  subst e
  have hA1 : j + 1 - i = j - i + 1 := by omega
  have u1 : (j : Int) + 1 ≤ (c : Int) := by omega
  have u2 : (i : Int) ≤ (j : Int) + 1 := by omega
  have u3 : (j : Int) ≤ (n : Int) := by omega
  have u4 : (n : Int) ≤ (c : Int) := by omega
  have u5 : (0 : Int) ≤ (i : Int) + 1 := by omega
  have u6 : (i : Int) + 1 ≤ (c : Int) := by omega
  have u7 : ¬ c = i := by omega
  have u8 : ¬ c = j := by omega
  have u9 : ¬ c = 0 := by omega
  have qj : IntKind.i64.wrap ((j : Int) + 1) = (j : Int) + 1 := by rw [IntKind.wrap_i64]; omega
  have qi : IntKind.i64.wrap ((i : Int) + 1) = (i : Int) + 1 := by rw [IntKind.wrap_i64]; omega
  clear h hv hok hnl hTl hDl hlA hlB h1 h2
  go_enter Try.func39, Try.ntmps39
  go_upto_region 3 with (first | ((go_at_call 35; (with_reducible refine ((c1 _ ?_).out).mono ?_); (focus ((exact H.out.below (by repeat (first | assumption | exact Below.refl _ _ | (refine below_chain ?_ (by assumption) (by first | omega | (simp <;> omega) | simp)) | (refine Below.alloc ?_ (by first | omega | (simp <;> omega) | simp) _) | (apply below_drewN) | (apply below_drew) | (refine Below.setCell ?_ (by first | omega | (simp <;> omega) | simp) _)))); done)); rintro e wa ⟨rfl, hb_wa⟩; have hs_wa := hb_wa.size; (try simp at hs_wa))) | (go_at_call 86; (with_reducible refine ((c2 _).out).mono ?_); rintro e w' ⟨rfl, rfl⟩) | (go_at_call 86; (with_reducible refine ((c3 _).out).mono ?_); rintro e w' ⟨rfl, rfl⟩))
  have hBa : B < wa.heap.size := by omega
  have HI := Lib.hid (H.out.below hb_wa)
  have hba := Lib.hid hb_wa
  clear hb_wa c1 c2 c3
  go_upto_region 4 with (at_builtin; refine wp_append _ rfl _ _ 23 rfl 31 _ 2 16 Try.underlying23 info_point rfl (by decide) (by decide) wa.heap.size 0 0 [] rfl (Own.empty wa _ 2) ⟨B, o + i * 2, none⟩ (j - i + 1) (c - i) (fl (splA L i j)) rfl (by rw [fl_len, HL.out.2.2.2.1]) (fun t z ht => by rw [Go.WideShapes.add_plain]; unfold splA at ht; rw [fl_take, List.getElem?_take] at ht; split at ht; (rw [fl_drop, List.getElem?_drop] at ht; have := pts_cell HI.out ht; rw [Nat.add_assoc]; exact cell_alloc_keep _ this); cases ht) (by omega) ?_; intro g1 d1 w1 hO1 hg1 hl1 hlt1)
  rw [Nat.zero_add, List.nil_append] at hO1
  have hg1w : wa.heap.size ≤ g1 := by
    rcases hl1 with e | e
    · omega
    · simp at e; omega
  have hb1 : Below wa.heap.size wa w1 := below_gb ((Below.refl _ _).alloc (Nat.le_refl _) _) hg1 (Nat.le_refl _) (by simp)
  have hI1 := HI.out.below hb1
  have hs1 := hb1.size
  have hB1 : B < w1.heap.size := by omega
  have hg1l := hO1.lt
  have HI1 := Lib.hid hI1
  have H1 := Lib.hid (And.intro hO1 hb1)
  clear hO1 hg1 hl1 hlt1 hb1 hI1
  go_region_law (first
    | (refine step_app0 _ (by rfl) _ _ _ (by rfl) 31 _ 2 16 Try.underlying23 info_point rfl (by decide) (by decide) w1.heap.size 0 0 [] (by rfl) (Own.empty w1 _ 2) ⟨B, o + j * 2, none⟩ (n - j) (c - j) (fl (L.drop j)) (by rfl) (by rw [fl_len, HL.out.2.2.1]) (fun t z hz => by rw [Go.WideShapes.add_plain]; rw [fl_drop, List.getElem?_drop] at hz; have := pts_cell HI1.out hz; rw [Nat.add_assoc]; exact cell_adD _ this) (by omega) ?_; intro g2 d2 w2 hO2 hg2 hl2 hlt2; rw [Nat.zero_add, List.nil_append] at hO2)
    | (refine step_app0 _ (by rfl) _ _ _ (by rfl) 31 _ 2 16 Try.underlying23 info_point rfl (by decide) (by decide) g2 (n - j) d2 _ (by rfl) hO2 ⟨B, o, none⟩ (i + 1) c (fl (L.take (i + 1))) (by rfl) (by rw [fl_len, HL.out.2.1]) (fun t z hz => by rw [Go.WideShapes.add_plain]; rw [fl_take, List.getElem?_take] at hz; split at hz; (have h1 := cell_adD (.cells #[] 31) (pts_cell HI1.out hz); have hB := World.block_lt_of_cell? w1 _ (pts_cell HI1.out hz); have h2 := hg2.cell_far (a := ⟨B, o + t, none⟩) (by simp; simp at hB; omega) (by simp at hB ⊢; omega); exact h2.trans h1); cases hz) (by omega) ?_; intro g3 d3 w3 hO3 hg3 hl3 hlt3))
  have hs2 := hg2.size
  simp at hs2
  have hg2w : w1.heap.size ≤ g2 := by
    rcases hl2 with e | e
    · omega
    · simp at e; omega
  have hg3w : w1.heap.size ≤ g3 := by
    rcases hl3 with e | e <;> omega
  have hb1d : Below w1.heap.size w1 (w1.alloc (.cells #[] 31)).drew := below_drew ((Below.refl _ _).alloc (Nat.le_refl _) _)
  have hb2 := below_gb (below_gb hb1d hg2 (Nat.le_refl _) (by simp)) hg3 hg2w (by omega)
  have hbw : Below w.heap.size w w3 := hba.out.trans ((H1.out.2.trans (hb2.mono hs1)).mono hs_wa)
  have e3 : n - j + (i + 1) = n - j + i + 1 := by omega
  rw [e3, ← fl_append] at hO3
  have hO3' : Own w3 g3 31 2 (n - j + i + 1) d3 (fl (splB L i j)) := hO3
  have HN := Lib.hid (And.intro (H1.out.1.below hb2) (And.intro hO3' hbw))
  have hs3 := hb2.size
  have hg3l := hO3.lt
  have d1' := fun w h => Lib.hid (sParcelValid_n (p := some ⟨g1, 0, none⟩) (c := d1) (L := splA L i j) (n := j - i + 1) (w := w) h HL.out.2.2.2.1 (by omega) HL.out.2.2.2.2.2.1)
  have d2' := fun w h => Lib.hid (sParcelValid_n (p := some ⟨g3, 0, none⟩) (c := d3) (L := splB L i j) (n := n - j + i + 1) (w := w) h HL.out.2.2.2.2.1 (by omega) HL.out.2.2.2.2.2.2)
  clear hO2 hg2 hl2 hO3 hO3' hg3 hl3 hb1d hb2 hbw hs2 hlt2 hlt3 HI1 HI
  cases b1
  · go_wp2_with ((go_at_call 35; (with_reducible refine ((d1' _ ?_).out).mono ?_); (focus ((exact HN.out.1.pts); done)); rintro e wc ⟨rfl, hb_wc⟩; have hs_wc := hb_wc.size; (try simp at hs_wc)))
    refine bodyPost_ret (v := .tuple #[.slice (some ⟨wc.heap.size, 0, none⟩) 0 0, .slice (some ⟨wc.heap.size + 1, 0, none⟩) 0 0, .bool false]) (by simp [results, Try.results39, go_sem]) rfl ⟨wc.heap.size, 0, 0, wc.heap.size + 1, 0, 0, by simp, .inr ⟨rfl, rfl, rfl, by simp; omega, by simp⟩, ?_⟩
    exact ((HN.out.2.2.trans (hb_wc.mono (by omega))).alloc (by omega) _).alloc (by simp; omega) _
  · cases b2
    · go_wp2_with (first | (go_at_call 35; (with_reducible refine ((d1' _ ?_).out).mono ?_); (focus ((exact HN.out.1.pts); done)); rintro e wc ⟨rfl, hb_wc⟩; have hs_wc := hb_wc.size; (try simp at hs_wc)) | (go_at_call 35; (with_reducible refine ((d2' _ ?_).out).mono ?_); (focus ((exact (HN.out.2.1.below hb_wc).pts); done)); rintro e wd ⟨rfl, hb_wd⟩; have hs_wd := hb_wd.size; (try simp at hs_wd)))
      refine bodyPost_ret (v := .tuple #[.slice (some ⟨wd.heap.size, 0, none⟩) 0 0, .slice (some ⟨wd.heap.size + 1, 0, none⟩) 0 0, .bool false]) (by simp [results, Try.results39, go_sem]) rfl ⟨wd.heap.size, 0, 0, wd.heap.size + 1, 0, 0, by simp, .inr ⟨rfl, rfl, rfl, by simp; omega, by simp⟩, ?_⟩
      exact (((HN.out.2.2.trans (hb_wc.mono (by omega))).trans (hb_wd.mono (by omega))).alloc (by omega) _).alloc (by simp; omega) _
    · go_wp2_with (first | (go_at_call 35; (with_reducible refine ((d1' _ ?_).out).mono ?_); (focus ((exact HN.out.1.pts); done)); rintro e wc ⟨rfl, hb_wc⟩; have hs_wc := hb_wc.size; (try simp at hs_wc)) | (go_at_call 35; (with_reducible refine ((d2' _ ?_).out).mono ?_); (focus ((exact (HN.out.2.1.below hb_wc).pts); done)); rintro e wd ⟨rfl, hb_wd⟩; have hs_wd := hb_wd.size; (try simp at hs_wd)))
      refine bodyPost_ret (v := .tuple #[.slice (some ⟨g1, 0, none⟩) (j - i + 1) d1, .slice (some ⟨g3, 0, none⟩) (n - j + i + 1) d3, .bool true]) (by simp [results, Try.results39, go_sem]) rfl ⟨g1, _, d1, g3, _, d3, rfl, .inl ⟨rfl, rfl, rfl, by omega, by omega, (HN.out.1.below hb_wc).below hb_wd, (HN.out.2.1.below hb_wc).below hb_wd⟩, (HN.out.2.2.trans (hb_wc.mono (by omega))).trans (hb_wd.mono (by omega))⟩
theorem splOk_nat {L : List P2} {i j : Int} (h : splOk L i j = true) : ∃ I' J' : Nat, i = I' ∧ j = J' ∧ I' < J' ∧ J' < L.length ∧ parV L = true ∧ parV (splA L I' J') = true ∧ parV (splB L I' J') = true := by
  unfold splOk at h
  rw [Bool.and_eq_true, Bool.and_eq_true] at h
  obtain ⟨⟨hv, hij⟩, hs⟩ := h
  unfold inJ at hij
  rw [decide_eq_true_eq] at hij
  unfold splV at hs
  rw [Bool.and_eq_true] at hs
  exact ⟨i.toNat, j.toNat, by omega, by omega, by omega, by omega, hv, hs.1, hs.2⟩
/-- the split that is refused, in each way -/
theorem sSplit_no (h : Ints w p (fl L)) (hc : L.length ≤ c) (hl : L.length ≤ 4000000000000000000) (i j : Int) (hno : splOk L i j = false) :
    Calls Try.prog 39 #[.slice p L.length c, .int .i64 i, .int .i64 j] w fun e w' => ∃ g1 d1 g2 d2 : Nat, e = .returned (.tuple #[.slice (some ⟨g1, 0, none⟩) 0 d1, .slice (some ⟨g2, 0, none⟩) 0 d2, .bool false]) ∧ (g1 < w'.heap.size ∧ g2 < w'.heap.size) ∧ Below w.heap.size w w' := by
  cases h1 : (parV L && inJ L i j)
  · refine (sSplit_off h hl i j h1).mono ?_
    rintro e w' ⟨g1, g2, rfl, hg, hb⟩
    exact ⟨g1, 0, g2, 0, rfl, hg, hb⟩
  · have h1' := h1
    rw [Bool.and_eq_true] at h1'
    obtain ⟨hv, hij⟩ := h1'
    unfold inJ at hij
    rw [decide_eq_true_eq] at hij
    obtain ⟨I', rfl⟩ : ∃ I' : Nat, i = I' := ⟨i.toNat, by omega⟩
    obtain ⟨J', rfl⟩ : ∃ J' : Nat, j = J' := ⟨j.toNat, by omega⟩
    unfold splOk at hno
    rw [h1, Bool.true_and] at hno
    have hno' : (parV (splA L I' J') && parV (splB L I' J')) = false := by simpa [splV] using hno
    refine (sSplit_in h hv hc I' J' (by omega) (by omega) rfl rfl).mono ?_
    rintro e w' ⟨g1, n1, d1, g2, n2, d2, rfl, hcase, hb⟩
    rcases hcase with ⟨h2, -⟩ | ⟨-, rfl, rfl, hg1, hg2⟩
    · rw [hno'] at h2; cases h2
    · exact ⟨g1, d1, g2, d2, by rw [hno'], ⟨hg1, hg2⟩, hb⟩
theorem sSplit_yes (h : Ints w p (fl L)) (hv : parV L = true) (hc : L.length ≤ c) (i j : Nat) (hij : i < j) (hj : j < L.length) (h1 : parV (splA L i j) = true) (h2 : parV (splB L i j) = true) :
    Calls Try.prog 39 #[.slice p L.length c, .int .i64 i, .int .i64 j] w fun e w' => ∃ g1 d1 g2 d2 : Nat, e = .returned (.tuple #[.slice (some ⟨g1, 0, none⟩) (j - i + 1) d1, .slice (some ⟨g2, 0, none⟩) (L.length - j + i + 1) d2, .bool true]) ∧
      (w.heap.size ≤ g1 ∧ w.heap.size ≤ g2) ∧ (Own w' g1 31 2 (j - i + 1) d1 (fl (splA L i j)) ∧ Own w' g2 31 2 (L.length - j + i + 1) d2 (fl (splB L i j))) ∧ Below w.heap.size w w' := by
  refine (sSplit_in h hv hc i j hij hj h1 h2).mono ?_
  rintro e w' ⟨g1, n1, d1, g2, n2, d2, rfl, hcase, hb⟩
  rcases hcase with ⟨-, rfl, rfl, k1, k2, k3, k4⟩ | ⟨h3, -⟩
  · exact ⟨g1, d1, g2, d2, rfl, ⟨k1, k2⟩, ⟨k3, k4⟩, hb⟩
  · cases h3
set_option maxHeartbeats 2000000 in
theorem sShare_no (h : Ints w p (fl L)) (hc : L.length ≤ c) (hl : L.length ≤ 4000000000000000000) (i j : Int) (hno : splOk L i j = false) :
    Calls Try.prog 45 #[.slice p L.length c, .int .i64 i, .int .i64 j] w fun e w' => e = .returned (.tuple #[.agg #[.int .i64 0, .int .i64 0], .bool false]) ∧ Below w.heap.size w w' := by
  have c1 := fun w h => Lib.hid (sSplit_no (p := p) (c := c) (L := L) (w := w) h hc hl i j hno)
  have H := Lib.hid h
  clear h hno
  go_enter Try.func45, Try.ntmps45
  go_wp2_with ((go_at_call 39; (with_reducible refine ((c1 _ ?_).out).mono ?_); (focus ((exact H.out.below (by repeat (first | assumption | exact Below.refl _ _ | (refine below_chain ?_ (by assumption) (by first | omega | (simp <;> omega) | simp)) | (refine Below.alloc ?_ (by first | omega | (simp <;> omega) | simp) _) | (apply below_drewN) | (apply below_drew) | (refine Below.setCell ?_ (by first | omega | (simp <;> omega) | simp) _)))); done)); rintro e wa ⟨g1, d1, g2, d2, rfl, -, hb_wa⟩; have hs_wa := hb_wa.size; (try simp at hs_wa)); obtain ⟨hc_wa, hf_wa⟩ := bcell hb_wa; (have z6 : w.heap.size < wa.heap.size := by omega))
  have e0 : wa.cell? ⟨w.heap.size, 0, none⟩ = some (.int .i64 0) := by (repeat (first | with_reducible assumption | (with_reducible refine cell_below_keep (by with_reducible assumption) ?_) | (with_reducible refine cell_gb_keep (by with_reducible assumption) (by omega) ?_) | (simp [go_sem]; done) | (with_reducible refine cell_alloc_keep _ ?_) | (with_reducible refine cell_drew_keep ?_) | (with_reducible refine cell_drewN_keep _ ?_) | (with_reducible refine cell_set_keep _ (by first | (simp; omega) | omega) ?_)))
  have e1 : wa.cell? ⟨w.heap.size, 1, none⟩ = some (.int .i64 0) := by (repeat (first | with_reducible assumption | (with_reducible refine cell_below_keep (by with_reducible assumption) ?_) | (with_reducible refine cell_gb_keep (by with_reducible assumption) (by omega) ?_) | (simp [go_sem]; done) | (with_reducible refine cell_alloc_keep _ ?_) | (with_reducible refine cell_drew_keep ?_) | (with_reducible refine cell_drewN_keep _ ?_) | (with_reducible refine cell_set_keep _ (by first | (simp; omega) | omega) ?_)))
  refine bodyPost_ret (v := .tuple #[.agg #[.int .i64 0, .int .i64 0], .bool false]) (by simp [results, Try.results45, go_sem, *]) rfl ⟨rfl, (by repeat (first | assumption | exact Below.refl _ _ | (refine below_chain ?_ (by assumption) (by first | omega | (simp <;> omega) | simp)) | (refine Below.alloc ?_ (by first | omega | (simp <;> omega) | simp) _) | (apply below_drewN) | (apply below_drew) | (refine Below.setCell ?_ (by first | omega | (simp <;> omega) | simp) _)))⟩
theorem sArea_n {n : Nat} {a : Int} (h : Ints w p (fl L)) (hok : okP L = true) (hn : L.length = n) (ha : areaL L = a) :
    Calls Try.prog 74 #[.slice p n c] w fun e w' => e = .returned (.int .i64 a) ∧ Below w.heap.size w w' := by
  subst hn; subst ha; exact sArea h hok
set_option maxHeartbeats 2000000 in
theorem sShare_yes (h : Ints w p (fl L)) (hv : parV L = true) (hc : L.length ≤ c) (i j : Nat) (hij : i < j) (hj : j < L.length) (h1 : parV (splA L i j) = true) (h2 : parV (splB L i j) = true) :
    Calls Try.prog 45 #[.slice p L.length c, .int .i64 i, .int .i64 j] w fun e w' => e = .returned (.tuple #[.agg #[.int .i64 (Quo.rT (areaL (splA L i j)) (areaL L)), .int .i64 (Quo.rL (areaL (splA L i j)) (areaL L))], .bool (Quo.rOk (areaL (splA L i j)) (areaL L))]) ∧ Below w.heap.size w w' := by
  have H := Lib.hid h
  obtain ⟨a, ha⟩ : ∃ a, areaL (splA L i j) = a := ⟨_, rfl⟩
  obtain ⟨b, hb⟩ : ∃ b, areaL L = b := ⟨_, rfl⟩
  have c1 := fun w h => Lib.hid (sSplit_yes (p := p) (c := c) (L := L) (w := w) h hv hc i j hij hj h1 h2)
  have c2 := fun g d w h => Lib.hid (sArea_n (p := some ⟨g, 0, none⟩) (c := d) (L := splA L i j) (w := w) h (parV_ok h1) (splA_len hij hj) ha)
  have c3 := fun w h => Lib.hid (sArea_n (p := p) (c := c) (L := L) (w := w) h (parV_ok hv) rfl hb)
  have c4 := fun w => Lib.hid (sof_any a b w)
  rw [ha, hb]
  generalize Quo.rT a b = rt at *
  generalize Quo.rL a b = rl at *
  generalize Quo.rOk a b = ro at *
  clear h hv hij hj h1 h2 ha hb
  go_enter Try.func45, Try.ntmps45
  go_wp2_with (first
    | ((go_at_call 39; (with_reducible refine ((c1 _ ?_).out).mono ?_); (focus ((exact H.out.below (by repeat (first | assumption | exact Below.refl _ _ | (refine below_chain ?_ (by assumption) (by first | omega | (simp <;> omega) | simp)) | (refine Below.alloc ?_ (by first | omega | (simp <;> omega) | simp) _) | (apply below_drewN) | (apply below_drew) | (refine Below.setCell ?_ (by first | omega | (simp <;> omega) | simp) _)))); done)); rintro e wa ⟨g1, d1, g2, d2, rfl, hg, ho, hb_wa⟩; have hs_wa := hb_wa.size; (try simp at hs_wa)); obtain ⟨hc_wa, hf_wa⟩ := bcell hb_wa; (have z6 : w.heap.size < wa.heap.size := by omega); have HO := Lib.hid ho; clear ho)
    | ((go_at_call 74; (with_reducible refine ((c2 _ _ _ ?_).out).mono ?_); (focus ((exact HO.out.1.pts); done)); rintro e wb ⟨rfl, hb_wb⟩; have hs_wb := hb_wb.size; (try simp at hs_wb)); obtain ⟨hc_wb, hf_wb⟩ := bcell hb_wb; (have z7 : w.heap.size < wb.heap.size := by omega))
    | ((go_at_call 74; (with_reducible refine ((c3 _ ?_).out).mono ?_); (focus ((exact H.out.below (by repeat (first | assumption | exact Below.refl _ _ | (refine below_chain ?_ (by assumption) (by first | omega | (simp <;> omega) | simp)) | (refine Below.alloc ?_ (by first | omega | (simp <;> omega) | simp) _) | (apply below_drewN) | (apply below_drew) | (refine Below.setCell ?_ (by first | omega | (simp <;> omega) | simp) _)))); done)); rintro e wd ⟨rfl, hb_wd⟩; have hs_wd := hb_wd.size; (try simp at hs_wd)); obtain ⟨hc_wd, hf_wd⟩ := bcell hb_wd; (have z8 : w.heap.size < wd.heap.size := by omega))
    | ((go_at_call 92; (with_reducible refine ((c4 _).out).mono ?_); rintro e we ⟨rfl, hb_we⟩; have hs_we := hb_we.size; (try simp at hs_we)); obtain ⟨hc_we, hf_we⟩ := bcell hb_we; (have z9 : w.heap.size < we.heap.size := by omega)))
  have e0 : we.cell? ⟨w.heap.size, 0, none⟩ = some (.int .i64 0) := by (repeat (first | with_reducible assumption | (with_reducible refine cell_below_keep (by with_reducible assumption) ?_) | (with_reducible refine cell_gb_keep (by with_reducible assumption) (by omega) ?_) | (simp [go_sem]; done) | (with_reducible refine cell_alloc_keep _ ?_) | (with_reducible refine cell_drew_keep ?_) | (with_reducible refine cell_drewN_keep _ ?_) | (with_reducible refine cell_set_keep _ (by first | (simp; omega) | omega) ?_)))
  have e1 : we.cell? ⟨w.heap.size, 1, none⟩ = some (.int .i64 0) := by (repeat (first | with_reducible assumption | (with_reducible refine cell_below_keep (by with_reducible assumption) ?_) | (with_reducible refine cell_gb_keep (by with_reducible assumption) (by omega) ?_) | (simp [go_sem]; done) | (with_reducible refine cell_alloc_keep _ ?_) | (with_reducible refine cell_drew_keep ?_) | (with_reducible refine cell_drewN_keep _ ?_) | (with_reducible refine cell_set_keep _ (by first | (simp; omega) | omega) ?_)))
  have m1 : ((we.setCell ⟨w.heap.size, 0, none⟩ (.int .i64 rt)).setCell ⟨w.heap.size, 1, none⟩ (.int .i64 rl)).cell? ⟨w.heap.size, 1, none⟩ = some (.int .i64 rl) := World.cell?_setCell_same' _ _ _ (by rw [World.cell?_setCell_other _ _ _ _ (by simp), e1]; rfl)
  have m0 : ((we.setCell ⟨w.heap.size, 0, none⟩ (.int .i64 rt)).setCell ⟨w.heap.size, 1, none⟩ (.int .i64 rl)).cell? ⟨w.heap.size, 0, none⟩ = some (.int .i64 rt) := by rw [World.cell?_setCell_other _ _ _ _ (by simp)]; exact World.cell?_setCell_same' _ _ _ (by rw [e0]; rfl)
  refine bodyPost_ret (v := .tuple #[.agg #[.int .i64 rt, .int .i64 rl], .bool ro]) (by simp [results, Try.results45, go_sem, m0, m1]) rfl ⟨rfl, ?_⟩
  have hB : Below w.heap.size w we := (by repeat (first | assumption | exact Below.refl _ _ | (refine below_chain ?_ (by assumption) (by first | omega | (simp <;> omega) | simp)) | (refine Below.alloc ?_ (by first | omega | (simp <;> omega) | simp) _) | (apply below_drewN) | (apply below_drew) | (refine Below.setCell ?_ (by first | omega | (simp <;> omega) | simp) _)))
  exact (hB.setCell (p := ⟨w.heap.size, 0, none⟩) (Nat.le_refl _) _).setCell (p := ⟨w.heap.size, 1, none⟩) (Nat.le_refl _) _
end
end Go.Proofs.Ytegcjdcinebleaa
