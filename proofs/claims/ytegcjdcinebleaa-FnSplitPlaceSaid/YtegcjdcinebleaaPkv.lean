/-
  What the program's ParcelSplit and ParcelShare answer.
-/
import Derived.Test.YtegcjdcinebleaaPkz
import Derived.Test.YtegcjdcinebleaaQz
namespace Go.Proofs.Ytegcjdcinebleaa
open Go.RowKit Poly
set_option linter.unusedVariables false

/-- a new list of points -/
def NewP (V : World) (T : List P2) (n g d : Nat) (W : World) : Prop := V.heap.size ≤ g ∧ Own W g 31 2 n d (fl T)
section
variable {p q : Option Addr} {c d : Nat} {L : List P2} {w : World}
theorem iSplit_not {n₀ : Nat} {A : Nat → Nat} (hR : RingB n₀ A L w) (hn : n₀ ≤ w.heap.size) (hok : okP L = true) (i j : Int) (hno : (inJ L i j && splV L i.toNat j.toNat) = false) :
    Calls Try.prog 85 #[.agg #[.pointer (some ⟨A 0, 0, none⟩)], .int .i64 i, .int .i64 j] w fun e w' => ∃ q1 q2 : Option Addr, e = .returned (.tuple #[.agg #[.pointer q1], .agg #[.pointer q2], .bool false]) ∧ Below w.heap.size w w' := by
  cases hij : inJ L i j
  · refine (iSplit_bad hR hn hok i j hij).mono ?_
    rintro e w' ⟨rfl, hb⟩
    exact ⟨none, none, rfl, hb⟩
  · have h0 := hij
    unfold inJ at h0
    rw [decide_eq_true_eq] at h0
    obtain ⟨I', rfl⟩ : ∃ I' : Nat, i = I' := ⟨i.toNat, by omega⟩
    obtain ⟨J', rfl⟩ : ∃ J' : Nat, j = J' := ⟨j.toNat, by omega⟩
    have h1 : I' < J' := by omega
    have h2 : J' < L.length := by omega
    rw [hij, Bool.true_and] at hno
    refine (iSplit_any hR hn hok I' J' h1 h2 rfl rfl).mono ?_
    rintro e w' ⟨q1, q2, ⟨rfl, -, -⟩, hb⟩
    refine ⟨q1, q2, ?_, hb⟩
    have : (parV (splA L I' J') && parV (splB L I' J')) = false := by simpa [splV] using hno
    rw [this]
set_option maxHeartbeats 2000000 in
theorem iParcelSplit_no (h : Ints w p (fl L)) (hc : L.length ≤ c) (hl : L.length ≤ 4000000000000000000) (i j : Int) (hno : splOk L i j = false) :
    Calls Try.prog 38 #[.slice p L.length c, .int .i64 i, .int .i64 j] w fun e w' => e = .returned (.tuple #[.slice none 0 0, .slice none 0 0, .bool false]) ∧ Below w.heap.size w w' := by
  have H := Lib.hid h
  cases hv : parV L
  · have c1 := fun w h => Lib.hid (iParcelOf_no (p := p) (c := c) (L := L) (w := w) h hc hl hv)
    clear h hv hno
    go_enter Try.func38, Try.ntmps38
    go_wp2_with ((go_at_call 81; (with_reducible refine ((c1 _ ?_).out).mono ?_); (focus ((exact H.out.below (by repeat (first | assumption | exact Below.refl _ _ | (refine below_chain ?_ (by assumption) (by first | omega | (simp <;> omega) | simp)) | (refine Below.alloc ?_ (by first | omega | (simp <;> omega) | simp) _) | (apply below_drewN) | (apply below_drew) | (refine Below.setCell ?_ (by first | omega | (simp <;> omega) | simp) _)))); done)); rintro e wa ⟨rfl, hb_wa⟩; have hs_wa := hb_wa.size; (try simp at hs_wa)))
    refine bodyPost_ret (v := .tuple #[.slice none 0 0, .slice none 0 0, .bool false]) (by simp [results, Try.results38, go_sem]) rfl ⟨rfl, (by repeat (first | assumption | exact Below.refl _ _ | (refine below_chain ?_ (by assumption) (by first | omega | (simp <;> omega) | simp)) | (refine Below.alloc ?_ (by first | omega | (simp <;> omega) | simp) _) | (apply below_drewN) | (apply below_drew) | (refine Below.setCell ?_ (by first | omega | (simp <;> omega) | simp) _)))⟩
  · have hok := parV_ok hv
    have hno' : (inJ L i j && splV L i.toNat j.toNat) = false := by unfold splOk at hno; rw [hv, Bool.true_and] at hno; exact hno
    have c1 := fun w h => Lib.hid (iParcelOf_yes (p := p) (c := c) (L := L) (w := w) h hc hv)
    have c2 := fun (A : Nat → Nat) (n₀ : Nat) w h hn => Lib.hid (iSplit_not (n₀ := n₀) (A := A) (L := L) (w := w) h hn hok i j hno')
    clear h hv hno hok hno'
    go_enter Try.func38, Try.ntmps38
    go_wp2_with (first | ((go_at_call 81; (with_reducible refine ((c1 _ ?_).out).mono ?_); (focus ((exact H.out.below (by repeat (first | assumption | exact Below.refl _ _ | (refine below_chain ?_ (by assumption) (by first | omega | (simp <;> omega) | simp)) | (refine Below.alloc ?_ (by first | omega | (simp <;> omega) | simp) _) | (apply below_drewN) | (apply below_drew) | (refine Below.setCell ?_ (by first | omega | (simp <;> omega) | simp) _)))); done)); rintro e wa ⟨A, ⟨rfl, hR⟩, hb_wa⟩; have hs_wa := hb_wa.size; (try simp at hs_wa))) | ((go_at_call 85; (with_reducible refine ((c2 A wa.heap.size _ ?_ ?_).out).mono ?_); (focus ((exact hR.below ((Below.refl _ _).alloc (Nat.le_refl _) _)); done)); (focus (((simp <;> omega)); done)); rintro e wb ⟨q1, q2, rfl, hb_wb⟩; have hs_wb := hb_wb.size; (try simp at hs_wb))))
    refine bodyPost_ret (v := .tuple #[.slice none 0 0, .slice none 0 0, .bool false]) (by simp [results, Try.results38, go_sem]) rfl ⟨rfl, (by repeat (first | assumption | exact Below.refl _ _ | (refine below_chain ?_ (by assumption) (by first | omega | (simp <;> omega) | simp)) | (refine Below.alloc ?_ (by first | omega | (simp <;> omega) | simp) _) | (apply below_drewN) | (apply below_drew) | (refine Below.setCell ?_ (by first | omega | (simp <;> omega) | simp) _)))⟩
theorem iPoints_n {n₀ n : Nat} {A : Nat → Nat} {T : List P2} {w : World} (hR : RingB n₀ A T w) (hn : n₀ ≤ w.heap.size) (hok : okP T = true) (hT : T.length = n) :
    Calls Try.prog 69 #[.agg #[.pointer (some ⟨A 0, 0, none⟩)]] w fun e w' => ∃ g cap : Nat, e = .returned (.slice (some ⟨g, 0, none⟩) n cap) ∧ w.heap.size ≤ g ∧ Own w' g 31 2 n cap (fl T) ∧ Below w.heap.size w w' := by
  subst hT; exact iPoints hR hn hok
set_option maxHeartbeats 4000000 in
theorem iParcelSplit_yes (h : Ints w p (fl L)) (hc : L.length ≤ c) (hv : parV L = true) (i j : Nat) (hij : i < j) (hj : j < L.length) (hA : parV (splA L i j) = true) (hB : parV (splB L i j) = true) :
    Calls Try.prog 38 #[.slice p L.length c, .int .i64 i, .int .i64 j] w fun e w' => ∃ g1 d1 g2 d2, e = .returned (.tuple #[.slice (some ⟨g1, 0, none⟩) (j - i + 1) d1, .slice (some ⟨g2, 0, none⟩) (L.length - j + i + 1) d2, .bool true]) ∧ NewP w (splA L i j) (j - i + 1) g1 d1 w' ∧ NewP w (splB L i j) (L.length - j + i + 1) g2 d2 w' ∧ g1 ≠ g2 ∧ Below w.heap.size w w' := by
  have H := Lib.hid h
  have hok := parV_ok hv
  have c1 := fun w h => Lib.hid (iParcelOf_yes (p := p) (c := c) (L := L) (w := w) h hc hv)
  have c2 := fun (A : Nat → Nat) (n₀ : Nat) w h hn => Lib.hid (iSplit_any (n₀ := n₀) (A := A) (L := L) (w := w) h hn hok i j hij hj hA hB)
  have c3 := fun (A : Nat → Nat) (n₀ : Nat) w h hn => Lib.hid (iPoints_n (n₀ := n₀) (A := A) (T := splA L i j) (w := w) h hn (parV_ok hA) (splA_len hij hj))
  have c4 := fun (A : Nat → Nat) (n₀ : Nat) w h hn => Lib.hid (iPoints_n (n₀ := n₀) (A := A) (T := splB L i j) (w := w) h hn (parV_ok hB) (splB_len hij hj))
  generalize L.length - j + i + 1 = m2 at *
  generalize j - i + 1 = m1 at *
  generalize splA L i j = T at *
  generalize splB L i j = U at *
  clear h hv hok hij hj hA hB
  go_enter Try.func38, Try.ntmps38
  go_upto_region 7 with (first | ((go_at_call 81; (with_reducible refine ((c1 _ ?_).out).mono ?_); (focus ((exact H.out.below (by repeat (first | assumption | exact Below.refl _ _ | (refine below_chain ?_ (by assumption) (by first | omega | (simp <;> omega) | simp)) | (refine Below.alloc ?_ (by first | omega | (simp <;> omega) | simp) _) | (apply below_drewN) | (apply below_drew) | (refine Below.setCell ?_ (by first | omega | (simp <;> omega) | simp) _)))); done)); rintro e wa ⟨A, ⟨rfl, hR⟩, hb_wa⟩; have hs_wa := hb_wa.size; (try simp at hs_wa))) | ((go_at_call 85; (with_reducible refine ((c2 A wa.heap.size _ ?_ ?_).out).mono ?_); (focus ((exact hR.below ((Below.refl _ _).alloc (Nat.le_refl _) _)); done)); (focus (((simp <;> omega)); done)); rintro e wb ⟨q1, q2, ⟨rfl, hq1, hq2⟩, hb_wb⟩; have hs_wb := hb_wb.size; (try simp at hs_wb))))
  obtain ⟨A1, eq1, hR1⟩ := hq1 trivial
  obtain ⟨A2, eq2, hR2⟩ := hq2 trivial
  obtain ⟨V, hV⟩ : ∃ V, V = (wb.alloc (.cells #[.pointer q1] 80)).alloc (.cells #[.pointer q2] 80) := ⟨_, rfl⟩
  obtain ⟨X, hX⟩ : ∃ X, X = wb.heap.size := ⟨_, rfl⟩
  obtain ⟨Y, hY⟩ : ∃ Y, Y = wb.heap.size + 1 := ⟨_, rfl⟩
  have k1 : V.cell? ⟨X, 0, none⟩ = some (.pointer q1) := by rw [hV, hX]; simp [go_sem]
  have k2 : V.cell? ⟨Y, 0, none⟩ = some (.pointer q2) := by rw [hV, hY]; simp [go_sem]
  have hsV : V.heap.size = X + 2 := by rw [hV, hX]; simp
  have hYX : Y = X + 1 := by rw [hY, hX]
  have hbV : Below wb.heap.size wb V := by rw [hV]; exact ((Below.refl _ wb).alloc (Nat.le_refl _) _).alloc (by simp) _
  have hr1 : RingB X A1 T V := by rw [hX]; exact hR1.below hbV
  have hr2 : RingB X A2 U V := by rw [hX]; exact hR2.below hbV
  have hbw : Below w.heap.size w V := (by repeat (first | assumption | exact Below.refl _ _ | (refine below_chain ?_ (by assumption) (by first | omega | (simp <;> omega) | simp)) | (refine Below.alloc ?_ (by first | omega | (simp <;> omega) | simp) _) | (apply below_drewN) | (apply below_drew) | (refine Below.setCell ?_ (by first | omega | (simp <;> omega) | simp) _)))
  have d3 := fun w h hn => Lib.hid (show Calls Try.prog 69 #[.agg #[.pointer q1]] w fun e w' => ∃ g cap : Nat, e = .returned (.slice (some ⟨g, 0, none⟩) m1 cap) ∧ w.heap.size ≤ g ∧ Own w' g 31 2 m1 cap (fl T) ∧ Below w.heap.size w w' from by rw [eq1]; exact (c3 A1 X w h hn).out)
  have d4 := fun w h hn => Lib.hid (show Calls Try.prog 69 #[.agg #[.pointer q2]] w fun e w' => ∃ g cap : Nat, e = .returned (.slice (some ⟨g, 0, none⟩) m2 cap) ∧ w.heap.size ≤ g ∧ Own w' g 31 2 m2 cap (fl U) ∧ Below w.heap.size w w' from by rw [eq2]; exact (c4 A2 X w h hn).out)
  rw [← hV, ← hY, ← hX]
  have HV := Lib.hid (And.intro hr1 (And.intro hr2 hbw))
  have HS := Lib.hid (And.intro hsV hYX)
  have lX : X < V.heap.size := by omega
  have lY : Y < V.heap.size := by omega
  have lXV : X ≤ V.heap.size := by omega
  clear hV hX hY hq1 hq2 hR hR1 hR2 hb_wa hb_wb hs_wa hs_wb eq1 eq2 hsV hYX hbV hr1 hr2 hbw c1 c2 c3 c4
  go_region_held3 (fun W => W.cell? ⟨X, 0, none⟩ = some (.pointer q1) ∧ W.cell? ⟨Y, 0, none⟩ = some (.pointer q2)) (((try dsimp only); (try go_split_ands); refine ⟨?_, ?_⟩ <;> (first | ((repeat (first | with_reducible assumption | (with_reducible refine cell_below_keep (by with_reducible assumption) ?_) | (simp [go_sem]; done) | (with_reducible refine cell_alloc_keep _ ?_) | (with_reducible refine cell_drew_keep ?_) | (with_reducible refine cell_drewN_keep _ ?_) | (with_reducible refine cell_set_keep _ (by first | (simp; omega) | omega) ?_))); done) | (simp [*, go_sem]; done)))) (first
    | (go_at_call 69; (with_reducible refine ((d3 _ ?_ ?_).out).mono ?_); (focus (first | exact HV.out.1.below (below_drew (Below.refl _ _)) | exact HV.out.1.below (hV2.mono lXV))); (focus (first | (simp; omega) | (have := hV2.size; omega))); rintro e wg ⟨g1, d1, rfl, hg1, ho1, hb_wg⟩; have hs_wg := hb_wg.size; (first | (have hV3 : Below V.heap.size V wg := hV2.trans (hb_wg.mono hV2.size)) | (have hV1 : Below V.heap.size V wg := (below_drew (Below.refl V.heap.size V)).trans hb_wg)))
    | (go_at_call 69; (with_reducible refine ((d4 _ ?_ ?_).out).mono ?_); (focus (first | exact HV.out.2.1.below (below_drew (Below.refl _ _)) | exact HV.out.2.1.below (hV1.mono lXV))); (focus (first | (simp; omega) | (have := hV1.size; omega))); rintro e wh ⟨g2, d2, rfl, hg2, ho2, hb_wh⟩; have hs_wh := hb_wh.size; (first | (have hV3 : Below V.heap.size V wh := hV1.trans (hb_wh.mono hV1.size)) | (have hV2 : Below V.heap.size V wh := (below_drew (Below.refl V.heap.size V)).trans hb_wh))))
  have hw1 : w.heap.size ≤ V.heap.size := HV.out.2.2.size
  have hw2 := hV1.size
  have hl1 := ho1.lt
  have hgV : V.heap.size ≤ g1 := hg1
  have HF := Lib.hid (And.intro (ho1.below hb_wh) (And.intro ho2 (HV.out.2.2.trans (hV3.mono hw1))))
  clear ho1 ho2 hV1 hV3 hb_wg hb_wh
  go_wp2_with fail
  refine bodyPost_ret (v := .tuple #[.slice (some ⟨g1, 0, none⟩) m1 d1, .slice (some ⟨g2, 0, none⟩) m2 d2, .bool true]) (by simp [results, Try.results38, go_sem]) rfl ⟨g1, d1, g2, d2, rfl, ⟨by omega, HF.out.1⟩, ⟨by omega, HF.out.2.1⟩, by omega, HF.out.2.2⟩
theorem iArea_n {n₀ : Nat} {A : Nat → Nat} {T : List P2} {w : World} {a : Int} (hR : RingB n₀ A T w) (hn : n₀ ≤ w.heap.size) (hok : okP T = true) (ha : areaL T = a) :
    Calls Try.prog 70 #[.agg #[.pointer (some ⟨A 0, 0, none⟩)]] w fun e w' => e = .returned (.int .i64 a) ∧ Below w.heap.size w w' := by
  subst ha; exact iArea hR hn hok
set_option maxHeartbeats 2000000 in
theorem iParcelShare_no (h : Ints w p (fl L)) (hc : L.length ≤ c) (hl : L.length ≤ 4000000000000000000) (i j : Int) (hno : splOk L i j = false) :
    Calls Try.prog 44 #[.slice p L.length c, .int .i64 i, .int .i64 j] w fun e w' => e = .returned (.tuple #[.agg #[.int .i64 0, .int .i64 0], .bool false]) ∧ Below w.heap.size w w' := by
  have H := Lib.hid h
  cases hv : parV L
  · have c1 := fun w h => Lib.hid (iParcelOf_no (p := p) (c := c) (L := L) (w := w) h hc hl hv)
    clear h hv hno
    go_enter Try.func44, Try.ntmps44
    go_wp2_with ((go_at_call 81; (with_reducible refine ((c1 _ ?_).out).mono ?_); (focus ((exact H.out.below (by repeat (first | assumption | exact Below.refl _ _ | (refine below_chain ?_ (by assumption) (by first | omega | (simp <;> omega) | simp)) | (refine Below.alloc ?_ (by first | omega | (simp <;> omega) | simp) _) | (apply below_drewN) | (apply below_drew) | (refine Below.setCell ?_ (by first | omega | (simp <;> omega) | simp) _)))); done)); rintro e wa ⟨rfl, hb_wa⟩; have hs_wa := hb_wa.size; (try simp at hs_wa)); obtain ⟨hc_wa, hf_wa⟩ := bcell hb_wa; (have z6 : w.heap.size < wa.heap.size := by omega))
    have e0 : wa.cell? ⟨w.heap.size, 0, none⟩ = some (.int .i64 0) := by (repeat (first | with_reducible assumption | (with_reducible refine cell_below_keep (by with_reducible assumption) ?_) | (with_reducible refine cell_gb_keep (by with_reducible assumption) (by omega) ?_) | (simp [go_sem]; done) | (with_reducible refine cell_alloc_keep _ ?_) | (with_reducible refine cell_drew_keep ?_) | (with_reducible refine cell_drewN_keep _ ?_) | (with_reducible refine cell_set_keep _ (by first | (simp; omega) | omega) ?_)))
    have e1 : wa.cell? ⟨w.heap.size, 1, none⟩ = some (.int .i64 0) := by (repeat (first | with_reducible assumption | (with_reducible refine cell_below_keep (by with_reducible assumption) ?_) | (with_reducible refine cell_gb_keep (by with_reducible assumption) (by omega) ?_) | (simp [go_sem]; done) | (with_reducible refine cell_alloc_keep _ ?_) | (with_reducible refine cell_drew_keep ?_) | (with_reducible refine cell_drewN_keep _ ?_) | (with_reducible refine cell_set_keep _ (by first | (simp; omega) | omega) ?_)))
    refine bodyPost_ret (v := .tuple #[.agg #[.int .i64 0, .int .i64 0], .bool false]) (by simp [results, Try.results44, go_sem, *]) rfl ⟨rfl, (by repeat (first | assumption | exact Below.refl _ _ | (refine below_chain ?_ (by assumption) (by first | omega | (simp <;> omega) | simp)) | (refine Below.alloc ?_ (by first | omega | (simp <;> omega) | simp) _) | (apply below_drewN) | (apply below_drew) | (refine Below.setCell ?_ (by first | omega | (simp <;> omega) | simp) _)))⟩
  · have hok := parV_ok hv
    have hno' : (inJ L i j && splV L i.toNat j.toNat) = false := by unfold splOk at hno; rw [hv, Bool.true_and] at hno; exact hno
    have c1 := fun w h => Lib.hid (iParcelOf_yes (p := p) (c := c) (L := L) (w := w) h hc hv)
    have c2 := fun (A : Nat → Nat) (n₀ : Nat) w h hn => Lib.hid (iSplit_not (n₀ := n₀) (A := A) (L := L) (w := w) h hn hok i j hno')
    clear h hv hno hok hno'
    go_enter Try.func44, Try.ntmps44
    go_wp2_with (first | ((go_at_call 81; (with_reducible refine ((c1 _ ?_).out).mono ?_); (focus ((exact H.out.below (by repeat (first | assumption | exact Below.refl _ _ | (refine below_chain ?_ (by assumption) (by first | omega | (simp <;> omega) | simp)) | (refine Below.alloc ?_ (by first | omega | (simp <;> omega) | simp) _) | (apply below_drewN) | (apply below_drew) | (refine Below.setCell ?_ (by first | omega | (simp <;> omega) | simp) _)))); done)); rintro e wa ⟨A, ⟨rfl, hR⟩, hb_wa⟩; have hs_wa := hb_wa.size; (try simp at hs_wa)); obtain ⟨hc_wa, hf_wa⟩ := bcell hb_wa; (have z6 : w.heap.size < wa.heap.size := by omega)) | ((go_at_call 85; (with_reducible refine ((c2 A wa.heap.size _ ?_ ?_).out).mono ?_); (focus ((exact hR.below ((Below.refl _ _).alloc (Nat.le_refl _) _)); done)); (focus (((simp <;> omega)); done)); rintro e wb ⟨q1, q2, rfl, hb_wb⟩; have hs_wb := hb_wb.size; (try simp at hs_wb)); obtain ⟨hc_wb, hf_wb⟩ := bcell hb_wb; (have z7 : w.heap.size < wb.heap.size := by omega)))
    have e0 : wb.cell? ⟨w.heap.size, 0, none⟩ = some (.int .i64 0) := by (repeat (first | with_reducible assumption | (with_reducible refine cell_below_keep (by with_reducible assumption) ?_) | (with_reducible refine cell_gb_keep (by with_reducible assumption) (by omega) ?_) | (simp [go_sem]; done) | (with_reducible refine cell_alloc_keep _ ?_) | (with_reducible refine cell_drew_keep ?_) | (with_reducible refine cell_drewN_keep _ ?_) | (with_reducible refine cell_set_keep _ (by first | (simp; omega) | omega) ?_)))
    have e1 : wb.cell? ⟨w.heap.size, 1, none⟩ = some (.int .i64 0) := by (repeat (first | with_reducible assumption | (with_reducible refine cell_below_keep (by with_reducible assumption) ?_) | (with_reducible refine cell_gb_keep (by with_reducible assumption) (by omega) ?_) | (simp [go_sem]; done) | (with_reducible refine cell_alloc_keep _ ?_) | (with_reducible refine cell_drew_keep ?_) | (with_reducible refine cell_drewN_keep _ ?_) | (with_reducible refine cell_set_keep _ (by first | (simp; omega) | omega) ?_)))
    refine bodyPost_ret (v := .tuple #[.agg #[.int .i64 0, .int .i64 0], .bool false]) (by simp [results, Try.results44, go_sem, *]) rfl ⟨rfl, (by repeat (first | assumption | exact Below.refl _ _ | (refine below_chain ?_ (by assumption) (by first | omega | (simp <;> omega) | simp)) | (refine Below.alloc ?_ (by first | omega | (simp <;> omega) | simp) _) | (apply below_drewN) | (apply below_drew) | (refine Below.setCell ?_ (by first | omega | (simp <;> omega) | simp) _)))⟩
set_option maxHeartbeats 8000000 in
theorem iParcelShare_yes (h : Ints w p (fl L)) (hc : L.length ≤ c) (hv : parV L = true) (i j : Nat) (hij : i < j) (hj : j < L.length) (hA : parV (splA L i j) = true) (hB : parV (splB L i j) = true) :
    Calls Try.prog 44 #[.slice p L.length c, .int .i64 i, .int .i64 j] w fun e w' => e = .returned (.tuple #[.agg #[.int .i64 (Quo.rT (areaL (splA L i j)) (areaL L)), .int .i64 (Quo.rL (areaL (splA L i j)) (areaL L))], .bool (Quo.rOk (areaL (splA L i j)) (areaL L))]) ∧ Below w.heap.size w w' := by
  have H := Lib.hid h
  have hok := parV_ok hv
  obtain ⟨a, ha⟩ : ∃ a, areaL (splA L i j) = a := ⟨_, rfl⟩
  obtain ⟨b, hb⟩ : ∃ b, areaL L = b := ⟨_, rfl⟩
  have c1 := fun w h => Lib.hid (iParcelOf_yes (p := p) (c := c) (L := L) (w := w) h hc hv)
  have c2 := fun (A : Nat → Nat) (n₀ : Nat) w h hn => Lib.hid (iSplit_any (n₀ := n₀) (A := A) (L := L) (w := w) h hn hok i j hij hj hA hB)
  have c3 := fun (A : Nat → Nat) (n₀ : Nat) w h hn => Lib.hid (iArea_n (n₀ := n₀) (A := A) (T := splA L i j) (w := w) h hn (parV_ok hA) ha)
  have c4 := fun (A : Nat → Nat) (n₀ : Nat) w h hn => Lib.hid (iArea_n (n₀ := n₀) (A := A) (T := L) (w := w) h hn hok hb)
  have c5 := fun w => Lib.hid (iof_any a b w)
  rw [ha, hb]
  generalize Quo.rT a b = rt at *
  generalize Quo.rL a b = rl at *
  generalize Quo.rOk a b = ro at *
  generalize splA L i j = T at *
  generalize splB L i j = U at *
  clear h hv hok hij hj hA hB ha hb
  go_enter Try.func44, Try.ntmps44
  go_upto_region 7 with (first | ((go_at_call 81; (with_reducible refine ((c1 _ ?_).out).mono ?_); (focus ((exact H.out.below (by repeat (first | assumption | exact Below.refl _ _ | (refine below_chain ?_ (by assumption) (by first | omega | (simp <;> omega) | simp)) | (refine Below.alloc ?_ (by first | omega | (simp <;> omega) | simp) _) | (apply below_drewN) | (apply below_drew) | (refine Below.setCell ?_ (by first | omega | (simp <;> omega) | simp) _)))); done)); rintro e wa ⟨A, ⟨rfl, hR⟩, hb_wa⟩; have hs_wa := hb_wa.size; (try simp at hs_wa)); obtain ⟨hc_wa, hf_wa⟩ := bcell hb_wa; (have z6 : w.heap.size < wa.heap.size := by omega)) | ((go_at_call 85; (with_reducible refine ((c2 A wa.heap.size _ ?_ ?_).out).mono ?_); (focus ((exact hR.below ((Below.refl _ _).alloc (Nat.le_refl _) _)); done)); (focus (((simp <;> omega)); done)); rintro e wb ⟨q1, q2, ⟨rfl, hq1, hq2⟩, hb_wb⟩; have hs_wb := hb_wb.size; (try simp at hs_wb)); obtain ⟨hc_wb, hf_wb⟩ := bcell hb_wb; (have z7 : w.heap.size < wb.heap.size := by omega)))
  obtain ⟨A1, eq1, hR1⟩ := hq1 trivial
  obtain ⟨V, hV⟩ : ∃ V, V = (wb.alloc (.cells #[.pointer q1] 80)).alloc (.cells #[.pointer q2] 80) := ⟨_, rfl⟩
  obtain ⟨X, hX⟩ : ∃ X, X = wb.heap.size := ⟨_, rfl⟩
  obtain ⟨Z, hZ⟩ : ∃ Z, Z = wa.heap.size := ⟨_, rfl⟩
  obtain ⟨G, hG⟩ : ∃ G, G = w.heap.size := ⟨_, rfl⟩
  obtain ⟨qa, hqa⟩ : ∃ qa : Option Addr, qa = some ⟨A 0, 0, none⟩ := ⟨_, rfl⟩
  have hbV : Below wb.heap.size wb V := by rw [hV]; exact ((Below.refl _ wb).alloc (Nat.le_refl _) _).alloc (by simp) _
  have k1 : V.cell? ⟨X, 0, none⟩ = some (.pointer q1) := by rw [hV, hX]; simp [go_sem]
  have k2 : V.cell? ⟨Z, 0, none⟩ = some (.pointer qa) := by
    rw [hbV.cell (p := ⟨Z, 0, none⟩) (show Z < wb.heap.size by omega), hc_wb Z 0 (by simp; omega), hZ, hqa]; simp [go_sem]
  have k3 : V.cell? ⟨G, 0, none⟩ = some (.int .i64 0) := by
    rw [hbV.cell (p := ⟨G, 0, none⟩) (show G < wb.heap.size by omega), hc_wb G 0 (by simp; omega), cell_alloc_keep _ (show wa.cell? ⟨G, 0, none⟩ = some (.int .i64 0) from by rw [hc_wa G 0 (by simp; omega), hG]; simp [go_sem])]
  have k4 : V.cell? ⟨G, 1, none⟩ = some (.int .i64 0) := by
    rw [hbV.cell (p := ⟨G, 1, none⟩) (show G < wb.heap.size by omega), hc_wb G 1 (by simp; omega), cell_alloc_keep _ (show wa.cell? ⟨G, 1, none⟩ = some (.int .i64 0) from by rw [hc_wa G 1 (by simp; omega), hG]; simp [go_sem])]
  have k5 : V.frozen? ⟨G, 0, none⟩ = false := by
    rw [hbV.frozen (p := ⟨G, 0, none⟩) (show G < wb.heap.size by omega), hf_wb G 0 (by simp; omega), ((Below.refl wa.heap.size wa).alloc (Nat.le_refl _) _).frozen (p := ⟨G, 0, none⟩) (show G < wa.heap.size by omega), hf_wa G 0 (by simp; omega), hG]; simp [go_sem]
  have k6 : V.frozen? ⟨G, 1, none⟩ = false := by
    rw [hbV.frozen (p := ⟨G, 1, none⟩) (show G < wb.heap.size by omega), hf_wb G 1 (by simp; omega), ((Below.refl wa.heap.size wa).alloc (Nat.le_refl _) _).frozen (p := ⟨G, 1, none⟩) (show G < wa.heap.size by omega), hf_wa G 1 (by simp; omega), hG]; simp [go_sem]
  have hr1 : RingB X A1 T V := by rw [hX]; exact hR1.below hbV
  have hr2 : RingB Z A L V := by rw [hZ]; exact ((hR.below ((Below.refl _ _).alloc (Nat.le_refl _) _)).below (hb_wb.mono (by simp))).below (hbV.mono (by omega))
  have hbw : Below w.heap.size w V := (by repeat (first | assumption | exact Below.refl _ _ | (refine below_chain ?_ (by assumption) (by first | omega | (simp <;> omega) | simp)) | (refine Below.alloc ?_ (by first | omega | (simp <;> omega) | simp) _) | (apply below_drewN) | (apply below_drew) | (refine Below.setCell ?_ (by first | omega | (simp <;> omega) | simp) _)))
  have hZV : Z < V.heap.size := by have := hbV.size; omega
  have hXV : X < V.heap.size := by rw [hV, hX]; simp; omega
  have hGZ : G < Z := by omega
  have hGX : G < X := by omega
  have hGV : G < V.heap.size := by omega
  have d3 := fun w h hn => Lib.hid (show Calls Try.prog 70 #[.agg #[.pointer q1]] w fun e w' => e = .returned (.int .i64 a) ∧ Below w.heap.size w w' from by rw [eq1]; exact (c3 A1 X w h hn).out)
  have d4 := fun w h hn => Lib.hid (show Calls Try.prog 70 #[.agg #[.pointer qa]] w fun e w' => e = .returned (.int .i64 b) ∧ Below w.heap.size w w' from by rw [hqa]; exact (c4 A Z w h hn).out)
  rw [← hV, ← hX, ← hZ, ← hqa, ← hG]
  rw [← hG] at hbw
  have HV := Lib.hid (And.intro hr1 (And.intro hr2 (And.intro hbw hG)))
  clear hV hX hZ hq1 hq2 hR hR1 hb_wa hb_wb hs_wa hs_wb eq1 hbV hr1 hr2 hbw c1 c2 c3 c4 hc_wa hf_wa hc_wb hf_wb z6 z7 hqa hG
  have hXG : ¬ X = G := by omega
  have hZG : ¬ Z = G := by omega
  have hGX' : ¬ G = X := by omega
  have hGZ' : ¬ G = Z := by omega
  have hXVl : X ≤ V.heap.size := Nat.le_of_lt hXV
  have hZVl : Z ≤ V.heap.size := Nat.le_of_lt hZV
  go_region_held3 (fun W => W.cell? ⟨X, 0, none⟩ = some (.pointer q1) ∧ W.cell? ⟨Z, 0, none⟩ = some (.pointer qa)) (((try dsimp only); (try go_split_ands); refine ⟨?_, ?_⟩ <;> (first | ((repeat (first | with_reducible assumption | (with_reducible refine cell_below_keep (by with_reducible assumption) ?_) | (simp [go_sem]; done) | (with_reducible refine cell_alloc_keep _ ?_) | (with_reducible refine cell_drew_keep ?_) | (with_reducible refine cell_drewN_keep _ ?_) | (with_reducible refine cell_set_keep _ (by first | (simp; omega) | omega) ?_))); done) | (simp [*, go_sem]; done)))) (first
    | (go_at_call 70; (with_reducible refine ((d3 _ ?_ ?_).out).mono ?_); (focus (first | exact HV.out.1.below (below_drew (Below.refl _ _)) | exact HV.out.1.below (hVh.mono hXVl))); (focus (first | (simp; omega) | (have := hVh.size; omega))); rintro e wg ⟨rfl, hb_wg⟩; have hs_wg := hb_wg.size; (try simp at hs_wg); obtain ⟨hc_wg, hf_wg⟩ := bcell hb_wg; (try simp only [World.size_drew, World.cell?_drew, World.frozen?_drew] at hc_wg hf_wg); (first | (have hVz : Below V.heap.size V wg := hVh.trans (hb_wg.mono hVh.size); have lg_wg : G < wg.heap.size := by (have := hVz.size; omega)) | (have hVg : Below V.heap.size V wg := (below_drew (Below.refl V.heap.size V)).trans hb_wg; have lg_wg : G < wg.heap.size := by (have := hVg.size; omega))))
    | (go_at_call 70; (with_reducible refine ((d4 _ ?_ ?_).out).mono ?_); (focus (first | exact HV.out.2.1.below (below_drew (Below.refl _ _)) | exact HV.out.2.1.below (hVg.mono hZVl))); (focus (first | (simp; omega) | (have := hVg.size; omega))); rintro e wh ⟨rfl, hb_wh⟩; have hs_wh := hb_wh.size; (try simp at hs_wh); obtain ⟨hc_wh, hf_wh⟩ := bcell hb_wh; (try simp only [World.size_drew, World.cell?_drew, World.frozen?_drew] at hc_wh hf_wh); (first | (have hVz : Below V.heap.size V wh := hVg.trans (hb_wh.mono hVg.size); have lg_wh : G < wh.heap.size := by (have := hVz.size; omega)) | (have hVh : Below V.heap.size V wh := (below_drew (Below.refl V.heap.size V)).trans hb_wh; have lg_wh : G < wh.heap.size := by (have := hVh.size; omega))))
    | (go_at_call 91; (with_reducible refine ((c5 _).out).mono ?_); rintro e wi ⟨rfl, hb_wi⟩; have hs_wi := hb_wi.size; obtain ⟨hc_wi, hf_wi⟩ := bcell hb_wi; have hVi : Below V.heap.size V wi := hVz.trans (hb_wi.mono hVz.size); have lg_wi : G < wi.heap.size := by (have := hVi.size; omega)))
  go_wp2_with fail
  have j0 : wi.cell? ⟨G, 0, none⟩ = some (.int .i64 0) := by rw [hc_wi _ _ (by omega)]; first | (rw [hc_wh _ _ (by omega), hc_wg _ _ hGV]; exact k3) | (rw [hc_wg _ _ (by omega), hc_wh _ _ hGV]; exact k3)
  have j1 : wi.cell? ⟨G, 1, none⟩ = some (.int .i64 0) := by rw [hc_wi _ _ (by omega)]; first | (rw [hc_wh _ _ (by omega), hc_wg _ _ hGV]; exact k4) | (rw [hc_wg _ _ (by omega), hc_wh _ _ hGV]; exact k4)
  have m1 : ((wi.setCell ⟨G, 0, none⟩ (.int .i64 rt)).setCell ⟨G, 1, none⟩ (.int .i64 rl)).cell? ⟨G, 1, none⟩ = some (.int .i64 rl) := World.cell?_setCell_same' _ _ _ (by rw [World.cell?_setCell_other _ _ _ _ (by simp), j1]; rfl)
  have m0 : ((wi.setCell ⟨G, 0, none⟩ (.int .i64 rt)).setCell ⟨G, 1, none⟩ (.int .i64 rl)).cell? ⟨G, 0, none⟩ = some (.int .i64 rt) := by rw [World.cell?_setCell_other _ _ _ _ (by simp)]; exact World.cell?_setCell_same' _ _ _ (by rw [j0]; rfl)
  have hwV : w.heap.size ≤ V.heap.size := by have := HV.out.2.2.2; omega
  have hB : Below w.heap.size w wi := by have := HV.out.2.2.1; rw [HV.out.2.2.2] at this; exact this.trans (hVi.mono hwV)
  refine bodyPost_ret (v := .tuple #[.agg #[.int .i64 rt, .int .i64 rl], .bool ro]) (by simp [results, Try.results44, go_sem, m0, m1]) rfl ⟨rfl, (hB.setCell (p := ⟨G, 0, none⟩) (by have := HV.out.2.2.2; simp; omega) _).setCell (p := ⟨G, 1, none⟩) (by have := HV.out.2.2.2; simp; omega) _⟩
end
end Go.Proofs.Ytegcjdcinebleaa
