/-
  For every code the law FnMarks returns true: impl.ParcelMarks answers as the reference model does; its answer is a parcel of the same area, with as many points inside and on its sides, none of its corners lies on the line between its neighbors, and ParcelMarks of it is itself. No condition: every list of bytes is taken.
-/
import Derived.Test.YtegcjdcinebleaaPka
import Derived.Test.YtegcjdcinebleaaPkd
import Derived.Test.YtegcjdcinebleaaPkx
import Derived.Test.YtegcjdcinebleaaCode
namespace Go.Proofs.Ytegcjdcinebleaa.fnMarks
open Go.ChangeShapes Go.WideShapes Go.ChangeAt Go.RowKit Poly
set_option linter.unusedVariables false

theorem marks_own {p : Option Addr} {c n m : Nat} {L O : List P2} {w : World} (h : Ints w p (fl L)) (hn : L.length = n) (hc : n ≤ c) (hv : parV L = true) (hO : marksL L = O) (hm : O.length = m) :
    Calls Try.prog 49 #[.slice p n c] w fun e w' => ∃ g cap : Nat, e = .returned (.tuple #[.slice (some ⟨g, 0, none⟩) m cap, .bool true]) ∧ w.heap.size ≤ g ∧ Own w' g 31 2 m cap (fl O) ∧ Below w.heap.size w w' := by
  subst hn hO hm
  refine (iParcelMarks_yes (p := p) (c := c) (w := w) (L := L) h hc hv).mono ?_
  rintro e w' ⟨v, rfl, hL, hb⟩
  rcases hL with ⟨h0, -⟩ | ⟨g, cap, rfl, hg, ho⟩
  · have := (okP_len (parV_ok (marks_parV hv).1)).1; rw [h0] at this; simp at this
  · exact ⟨g, cap, rfl, hg, ho, hb⟩
theorem marks_ref {p : Option Addr} {c m : Nat} {L O : List P2} {w : World} (h : Ints w p (fl L)) (hv : parV L = true) (hO : marksL L = O) (hm : O.length = m) :
    Calls Try.prog 50 #[.slice p L.length c] w fun e w' => ∃ g cap : Nat, e = .returned (.tuple #[.slice (some ⟨g, 0, none⟩) m cap, .bool true]) ∧ w.heap.size ≤ g ∧ Own w' g 31 2 m cap (fl O) ∧ Below w.heap.size w w' := by
  subst hO hm; exact sParcelMarks_yes h hv
theorem not_on {O : List P2} {i : Nat} (h : markB O i = true) : onP (cy O (i + O.length - 1)) (cy O (i + 1)) (cy O i) = false := by
  cases e : onP (cy O (i + O.length - 1)) (cy O (i + 1)) (cy O i) with
  | false => rfl
  | true =>
    exfalso
    have h1 := ((onP_iff _ _ _).1 e).1
    unfold markB at h
    have h2 : ¬ sd (cy O (i + O.length - 1)) (cy O i) (cy O (i + 1)) = 0 := by simpa using h
    apply h2
    rw [sd_zero]
    rw [crs_def] at h1 ⊢
    grind
theorem on_false {a b q : P2} (ha : pvP a = true) (hb : pvP b = true) (hq : pvP q = true) (h : onP a b q = false) (w : World) :
    Calls Try.prog 51 #[.agg #[.int .i64 a.1, .int .i64 a.2], .agg #[.int .i64 b.1, .int .i64 b.2], .agg #[.int .i64 q.1, .int .i64 q.2]] w fun e w' => e = .returned (.bool false) ∧ Below w.heap.size w w' := by
  have := iOnP ha hb hq w
  rw [h] at this
  exact this
set_option maxHeartbeats 16000000 in
set_option maxRecDepth 100000 in
theorem walk (len cap : Nat) (p : Option Addr) (w : World) (hl : len ≤ 1048576) (h : Hid (Code' w (.slice p len cap))) :
    Calls Try.prog 10 #[.slice p len cap] w fun e w' => e = .returned (.bool true) ∧ Below w.heap.size w w' := by
  have hl' : ¬ (1048576 : Int) < (len : Int) := by omega
  go_enter Try.func10, Try.ntmps10
  go_upto_region 4 with (go_at_call 48; (with_reducible refine (drawParcelMarks_is _ _ h).mono ?_); rintro e wd ⟨L, q, c, rfl, hc, h12, hI, hb_wd⟩; have hs_wd := hb_wd.size)
  clear h
  have H := Lib.hid hI
  cases hv : parV L
  · have c1 := fun w h => Lib.hid (iParcelMarks_no (p := q) (c := c) (w := w) (L := L) h hc (by omega) hv)
    have c2 := fun w h => Lib.hid (sParcelMarks_no (p := q) (c := c) (w := w) (L := L) h (by omega) hv)
    clear hI hv
    go_wp2_with (first | (go_at_call 49; (with_reducible refine ((c1 _ ?_).out).mono ?_); (focus ((exact H.out); done)); rintro e wi ⟨rfl, hb_wi⟩; have hs_wi := hb_wi.size; (try simp at hs_wi)) | (go_at_call 50; (with_reducible refine ((c2 _ ?_).out).mono ?_); (focus ((exact H.out.below hb_wi); done)); rintro e ws ⟨gs, rfl, hgs, hb_ws⟩; have hs_ws := hb_ws.size; (try simp at hs_ws)) | (go_at_call 40; (with_reducible refine (samePts_nil _ _ _ _ _).mono ?_); rintro e we ⟨rfl, hb_we⟩; have hs_we := hb_we.size; (try simp at hs_we)))
    go_ret
    exact ⟨rfl, (by repeat (first | assumption | exact Below.refl _ _ | (refine below_chain ?_ (by assumption) (by first | omega | (simp <;> omega) | simp)) | (refine Below.alloc ?_ (by first | omega | (simp <;> omega) | simp) _) | (apply below_drewN) | (apply below_drew) | (refine Below.setCell ?_ (by first | omega | (simp <;> omega) | simp) _)))⟩
  · obtain ⟨O, hO⟩ : ∃ O, marksL L = O := ⟨_, rfl⟩
    obtain ⟨m, hm⟩ : ∃ m, O.length = m := ⟨_, rfl⟩
    obtain ⟨A, hA⟩ : ∃ A, areaL L = A := ⟨_, rfl⟩
    obtain ⟨T, hT⟩ : ∃ T, insideL L = T := ⟨_, rfl⟩
    obtain ⟨E, hE⟩ : ∃ E, edgeL L = E := ⟨_, rfl⟩
    have hg := marks_parV hv
    rw [hO, hA, hT, hE] at hg
    obtain ⟨gv, ga, ge, gi, gm, gall⟩ := hg
    obtain ⟨m3, m12⟩ := okP_len (parV_ok gv)
    rw [hm] at m3 m12
    have c1 := fun w h => Lib.hid (marks_own (p := q) (c := c) (w := w) (L := L) h rfl hc hv hO hm)
    have c2 := fun w h => Lib.hid (marks_ref (p := q) (c := c) (w := w) (L := L) h hv hO hm)
    have c3 := fun w h => Lib.hid (iArea_l (p := q) (c := c) (w := w) (L := L) h rfl hc (parV_ok hv) hA)
    have c4 := fun g cp w h hcp => Lib.hid (iArea_l (p := some ⟨g, 0, none⟩) (c := cp) (n := m) (w := w) (L := O) h hm hcp (parV_ok gv) ga)
    have c5 := fun g cp w h hcp => Lib.hid (marks_own (p := some ⟨g, 0, none⟩) (c := cp) (n := m) (w := w) (L := O) h hm hcp gv gm hm)
    have c6 := fun g cp w h hcp => Lib.hid (iParcel_l (p := some ⟨g, 0, none⟩) (c := cp) (n := m) (w := w) (L := O) h hm hcp (by omega) gv)
    have c7 := fun g cp w h hcp => Lib.hid (iInside_l (p := some ⟨g, 0, none⟩) (c := cp) (n := m) (w := w) (L := O) h hm hcp (parV_poly gv) gi)
    have c8 := fun w h => Lib.hid (iInside_l (p := q) (c := c) (w := w) (L := L) h rfl hc (parV_poly hv) hT)
    have c9 := fun g cp w h hcp => Lib.hid (iEdge_l (p := some ⟨g, 0, none⟩) (c := cp) (n := m) (w := w) (L := O) h hm hcp (parV_poly gv) ge)
    have c10 := fun w h => Lib.hid (iEdge_l (p := q) (c := c) (w := w) (L := L) h rfl hc (parV_poly hv) hE)
    have HO := Lib.hid (And.intro hm (And.intro gall (parV_ok gv)))
    clear hI hv hO hm hA hT hE gv ga ge gi gm gall
    go_upto_region 6 with (first | ((go_at_call 49; (with_reducible refine ((c1 _ ?_).out).mono ?_); (focus ((exact H.out); done)); rintro e wi ⟨g1, k1, rfl, hg1, o1, hb_wi⟩; have hs_wi := hb_wi.size; (try simp at hs_wi)); have hcap := own_le o1; have O1 := Lib.hid o1; have hl1 := o1.lt; clear o1) | ((go_at_call 50; (with_reducible refine ((c2 _ ?_).out).mono ?_); (focus ((exact H.out.below hb_wi); done)); rintro e ws ⟨g2, k2, rfl, hg2, o2, hb_ws⟩; have hs_ws := hb_ws.size; (try simp at hs_ws)); have O2 := Lib.hid o2; clear o2))
    go_upto_region 12 with (first | (go_at_call 40; (with_reducible refine (samePts _ _ m _ _ O _ ?_ ?_ HO.out.1 (by omega)).mono ?_); (focus ((exact (O1.out.below hb_ws).pts); done)); (focus ((exact O2.out.pts); done)); rintro e we ⟨rfl, hb_we⟩; have hs_we := hb_we.size; (try simp at hs_we)) | (go_at_call 22; (with_reducible refine ((c3 _ ?_).out).mono ?_); (focus ((exact H.out.below (by repeat (first | assumption | exact Below.refl _ _ | (refine below_chain ?_ (by assumption) (by first | omega | (simp <;> omega) | simp)) | (refine Below.alloc ?_ (by first | omega | (simp <;> omega) | simp) _) | (apply below_drewN) | (apply below_drew) | (refine Below.setCell ?_ (by first | omega | (simp <;> omega) | simp) _)))); done)); rintro e wa ⟨rfl, hb_wa⟩; have hs_wa := hb_wa.size; (try simp at hs_wa)) | (go_at_call 22; (with_reducible refine ((c4 _ _ _ ?_ hcap).out).mono ?_); (focus ((exact (O1.out.below (by repeat (first | assumption | exact Below.refl _ _ | (refine below_chain ?_ (by assumption) (by first | omega | (simp <;> omega) | simp)) | (refine Below.alloc ?_ (by first | omega | (simp <;> omega) | simp) _) | (apply below_drewN) | (apply below_drew) | (refine Below.setCell ?_ (by first | omega | (simp <;> omega) | simp) _)))).pts); done)); rintro e wb ⟨rfl, hb_wb⟩; have hs_wb := hb_wb.size; (try simp at hs_wb)) | ((go_at_call 49; (with_reducible refine ((c5 _ _ _ ?_ hcap).out).mono ?_); (focus ((exact (O1.out.below (by repeat (first | assumption | exact Below.refl _ _ | (refine below_chain ?_ (by assumption) (by first | omega | (simp <;> omega) | simp)) | (refine Below.alloc ?_ (by first | omega | (simp <;> omega) | simp) _) | (apply below_drewN) | (apply below_drew) | (refine Below.setCell ?_ (by first | omega | (simp <;> omega) | simp) _)))).pts); done)); rintro e wx ⟨g3, k3, rfl, hg3, o3, hb_wx⟩; have hs_wx := hb_wx.size; (try simp at hs_wx)); have O3 := Lib.hid o3; clear o3))
    have hIX : Below wi.heap.size wi wx := (by repeat (first | assumption | exact Below.refl _ _ | (refine below_chain ?_ (by assumption) (by first | omega | (simp <;> omega) | simp)) | (refine Below.alloc ?_ (by first | omega | (simp <;> omega) | simp) _) | (apply below_drewN) | (apply below_drew) | (refine Below.setCell ?_ (by first | omega | (simp <;> omega) | simp) _)))
    have OX := Lib.hid (O1.out.below (w' := wx) hIX)
    have hBX : Below w.heap.size w wx := (hb_wd.trans (hb_wi.mono hs_wd)).trans (hIX.mono (Nat.le_trans hs_wd hs_wi))
    have hHX := Lib.hid (H.out.below (w' := wx) (hb_wi.trans (hIX.mono hs_wi)))
    clear hIX
    have hgl := OX.out.lt
    have hwx := hBX.size
    clear c1 c2 c3 c4 c5 O1 O2 hb_wi hb_ws hb_we hb_wa hb_wb hb_wx hs_wi hs_ws hs_we hs_wa hs_wb hs_wx
    have HB := Lib.hid hBX
    clear hBX
    go_wp2_with fail
    go_loopw [15] (fun i wr => ∃ k : Nat, k ≤ m ∧ i = .int .i64 k ∧ Below wx.heap.size wx wr) (fun i _ => m - (intOf i).toNat)
    case atStart => exact ⟨0, Nat.zero_le _, rfl, Below.refl _ _⟩
    case round =>
      obtain ⟨k, hk, rfl, hb⟩ := hrel
      rename World => wr
      have hbs := hb.size
      by_cases hlt : k < m
      · have hlt' : (k : Int) < (m : Int) := by omega
        have hIr := (OX.out.below hb).pts
        obtain ⟨B, o, e0, hB, x0, x1⟩ := hIr.pt (i := k) (by rw [HO.out.1]; exact hlt)
        simp at e0
        obtain ⟨rfl, rfl⟩ := e0
        obtain ⟨m0, hm0⟩ : ∃ m0, (k + m - 1) % m = m0 := ⟨_, rfl⟩
        obtain ⟨m1, hm1⟩ : ∃ m1, (k + 1) % m = m1 := ⟨_, rfl⟩
        have hml0 : m0 < m := by rw [← hm0]; exact Nat.mod_lt _ (by omega)
        have hml1 : m1 < m := by rw [← hm1]; exact Nat.mod_lt _ (by omega)
        have hrem0 := rem_prev hlt
        have hrem1 := rem_next hlt
        rw [hm0] at hrem0
        rw [hm1] at hrem1
        obtain ⟨B0, o0, e0, hB0, z0, z1⟩ := hIr.pt (i := m0) (by rw [HO.out.1]; exact hml0)
        simp at e0
        obtain ⟨rfl, rfl⟩ := e0
        obtain ⟨B1, o1, e0, hB1, y0, y1⟩ := hIr.pt (i := m1) (by rw [HO.out.1]; exact hml1)
        simp at e0
        obtain ⟨rfl, rfl⟩ := e0
        have hcz : cy O m0 = cy O (k + m - 1) := by rw [← hm0, ← HO.out.1, cy_mod]
        have hcy : cy O m1 = cy O (k + 1) := by rw [← hm1, ← HO.out.1, cy_mod]
        have hno := not_on (HO.out.2.1 k (by rw [HO.out.1]; exact hlt))
        rw [HO.out.1, ← hcz, ← hcy] at hno
        have hv := okP_at HO.out.2.2
        have cc := fun w => Lib.hid (on_false (hv m0) (hv m1) (hv k) hno w)
        have hml1' : (m1 : Int) < (m : Int) := by omega
        have hml0' : (m0 : Int) < (m : Int) := by omega
        have hn1 : -1000000 ≤ (k : Int) + (m : Int) - 1 := by omega
        simp only [Nat.zero_add] at x0 x1 y0 y1 z0 z1
        have hgr : g1 < wr.heap.size := by omega
        have HK := Lib.hid hb
        clear hv hno hcz hcy hm0 hm1 hIr hb hB hB0 hB1
        go_upto_region 15 with fail
        (refine wp_region_grows (by kernel_rfl) (by kernel_rfl) ?_; intro W_wg hWc_wg hWs_wg hWe_wg; (repeat (go_big_quiet_step ((go_at_call 51; with_reducible exact Ext.call ((cc _).out))))); with_reducible refine wpQuiet_nil ?_; clear hWe_wg hWs_wg hWc_wg W_wg; intro wg hb_wg; obtain ⟨hc_wg, hf_wg⟩ := bcell hb_wg; (try simp only [World.size_drew, World.cell?_drew, World.frozen?_drew, World.heap_drewN, World.cell?_drewN, World.frozen?_drewN] at hc_wg hf_wg); have hs_wg := hb_wg.size; (try simp at hs_wg))
        go_wp2_with fail
        go_roundw
        case rel => exact ⟨k + 1, by omega, by go_num, HK.out.trans (hb_wg.mono hbs)⟩
        case measure => simp [intOf]; omega
      · have e : k = m := by omega
        subst e
        have hlt' : ¬ (k : Int) < (k : Int) := by omega
        have OR := Lib.hid (OX.out.below hb)
        have O3R := Lib.hid (O3.out.below hb)
        have HR := Lib.hid (hHX.out.below hb)
        have HBR := Lib.hid (HB.out.trans (hb.mono hwx))
        have hwr : w.heap.size ≤ wr.heap.size := by omega
        clear hb
        go_wp2_with (first | (go_at_call 40; (with_reducible refine (samePts _ _ k _ _ O _ ?_ ?_ HO.out.1 (by omega)).mono ?_); (focus ((exact O3R.out.pts); done)); (focus ((exact OR.out.pts); done)); rintro e wf ⟨rfl, hb_wf⟩; have hs_wf := hb_wf.size; (try simp at hs_wf)) | (go_at_call 34; (with_reducible refine ((c6 _ _ _ ?_ hcap).out).mono ?_); (focus ((exact (OR.out.below (by repeat (first | assumption | exact Below.refl _ _ | (refine below_chain ?_ (by assumption) (by first | omega | (simp <;> omega) | simp)) | (refine Below.alloc ?_ (by first | omega | (simp <;> omega) | simp) _) | (apply below_drewN) | (apply below_drew) | (refine Below.setCell ?_ (by first | omega | (simp <;> omega) | simp) _)))).pts); done)); rintro e wj ⟨rfl, hb_wj⟩; have hs_wj := hb_wj.size; (try simp at hs_wj)) | (go_at_call 26; (with_reducible refine ((c7 _ _ _ ?_ hcap).out).mono ?_); (focus ((exact (OR.out.below (by repeat (first | assumption | exact Below.refl _ _ | (refine below_chain ?_ (by assumption) (by first | omega | (simp <;> omega) | simp)) | (refine Below.alloc ?_ (by first | omega | (simp <;> omega) | simp) _) | (apply below_drewN) | (apply below_drew) | (refine Below.setCell ?_ (by first | omega | (simp <;> omega) | simp) _)))).pts); done)); rintro e wk ⟨rfl, hb_wk⟩; have hs_wk := hb_wk.size; (try simp at hs_wk)) | (go_at_call 26; (with_reducible refine ((c8 _ ?_).out).mono ?_); (focus ((exact HR.out.below (by repeat (first | assumption | exact Below.refl _ _ | (refine below_chain ?_ (by assumption) (by first | omega | (simp <;> omega) | simp)) | (refine Below.alloc ?_ (by first | omega | (simp <;> omega) | simp) _) | (apply below_drewN) | (apply below_drew) | (refine Below.setCell ?_ (by first | omega | (simp <;> omega) | simp) _)))); done)); rintro e wl ⟨rfl, hb_wl⟩; have hs_wl := hb_wl.size; (try simp at hs_wl)) | (go_at_call 28; (with_reducible refine ((c9 _ _ _ ?_ hcap).out).mono ?_); (focus ((exact (OR.out.below (by repeat (first | assumption | exact Below.refl _ _ | (refine below_chain ?_ (by assumption) (by first | omega | (simp <;> omega) | simp)) | (refine Below.alloc ?_ (by first | omega | (simp <;> omega) | simp) _) | (apply below_drewN) | (apply below_drew) | (refine Below.setCell ?_ (by first | omega | (simp <;> omega) | simp) _)))).pts); done)); rintro e wm ⟨rfl, hb_wm⟩; have hs_wm := hb_wm.size; (try simp at hs_wm)) | (go_at_call 28; (with_reducible refine ((c10 _ ?_).out).mono ?_); (focus ((exact HR.out.below (by repeat (first | assumption | exact Below.refl _ _ | (refine below_chain ?_ (by assumption) (by first | omega | (simp <;> omega) | simp)) | (refine Below.alloc ?_ (by first | omega | (simp <;> omega) | simp) _) | (apply below_drewN) | (apply below_drew) | (refine Below.setCell ?_ (by first | omega | (simp <;> omega) | simp) _)))); done)); rintro e wn ⟨rfl, hb_wn⟩; have hs_wn := hb_wn.size; (try simp at hs_wn)))
        go_ret
        exact ⟨rfl, HBR.out.trans ((show Below wr.heap.size wr wn from (by repeat (first | assumption | exact Below.refl _ _ | (refine below_chain ?_ (by assumption) (by first | omega | (simp <;> omega) | simp)) | (refine Below.alloc ?_ (by first | omega | (simp <;> omega) | simp) _) | (apply below_drewN) | (apply below_drew) | (refine Below.setCell ?_ (by first | omega | (simp <;> omega) | simp) _)))).mono hwr)⟩

set_option maxRecDepth 100000 in
theorem walk_long (len cap : Nat) (p : Option Addr) (w : World) (hl : 1048576 < len) :
    Calls Try.prog 10 #[.slice p len cap] w fun e w' => e = .returned (.bool true) ∧ Below w.heap.size w w' := by
  have hl' : (1048576 : Int) < (len : Int) := by omega
  go_enter Try.func10, Try.ntmps10
  go_wp2
  go_ret
  exact ⟨rfl, Below.refl _ _⟩

set_option maxRecDepth 100000 in
theorem lifted (os : Os) (started : os.Started) (H : Type) (enc : TypeId × Value → H) :
    ReturnsInHanded {} Try.checked os 10 .any (Rows.fnMarksSpec.pre6 enc Try.prog Try.f10 Rows.fnMarksRow.domain false) (Rows.fnMarksSpec.post enc Try.prog Try.f10 false true false false) := by
  refine returnsInHanded_of_change (C := Try.checked) own started (by kernel_rfl) Try.func10
    (ChangeSpec.witness6 (enc := enc) (C := Try.checked) false ⟨#[], #[.slice none 0 0], []⟩ 8 (by kernel_rfl) (by kernel_rfl) (by kernel_rfl) (by kernel_rfl)) ?_
  intro W base args ds gs before hval0 hW hcnd _
  have hval : ∀ (j : Nat) t v, Try.f10.params[j]? = some t → args[j]? = some v → Value.okWide Try.prog W .any base t v := hval0
  have hW' := hW
  obtain ⟨p, q, hA0, hV, rfl, hfz, hnd⟩ := hW
  have hA : DataW.TrodAll enc Try.prog W 0 (fun _ => true) true Try.f10.params.toList args.toList ds p := hA0
  rw [Try.params10] at hA hval
  obtain ⟨v0, vs0, d0, ds0, p0, q0, hargs, rfl, rfl, h0, r0⟩ := trodAll_cons hA
  obtain ⟨rfl, rfl, rfl⟩ := trodAll_nil r0
  obtain rfl : args = #[v0] := by cases args; simp_all
  obtain ⟨rfl, rfl⟩ := trodVars_none hV
  obtain ⟨a0, len0, cap0, rfl⟩ := okWide_slice Try.underlying22 (hval 0 22 v0 rfl rfl)
  have k0 := h0
  have lt0 : ∀ x ∈ p0, x.block < W.heap.size := by obtain ⟨m, hm⟩ := k0; exact DataW.trod_lt m _ _ _ hm
  obtain ⟨z0, w0⟩ : ∃ zs, IsRow .u8 W a0 len0 cap0 zs := by
    obtain ⟨fuel, hf⟩ := h0
    rcases open_ints Try.underlying22 Try.underlying5 (by kernel_rfl) hf with ⟨hcs, _⟩ | ⟨x, l, c, zs, hcs, _, hl, hm, hz, _, hcell, hwz⟩
    · simp [Value.cells] at hcs
      obtain ⟨rfl, rfl, rfl⟩ := hcs
      exact ⟨[], .inl ⟨rfl, rfl, rfl, rfl⟩⟩
    · simp [Value.cells] at hcs
      obtain ⟨rfl, rfl, rfl⟩ := hcs
      exact ⟨zs, .inr ⟨_, rfl, hl, hm, by simpa using hz, hcell, hwz⟩⟩
  clear hA0 hval0
  have hw : Calls Try.prog 10 #[.slice a0 len0 cap0] W fun e w' => e = .returned (.bool true) ∧ Below W.heap.size W w' := by
    by_cases hl : len0 ≤ 1048576
    · exact walk len0 cap0 a0 W hl (Lib.hid (code_of_row w0 hl))
    · exact walk_long len0 cap0 a0 W (by omega)
  refine hw.mono fun e W' ⟨he, bel⟩ => ?_
  subst he
  exact ⟨_, rfl, _, _, _, [], _, [], hW', trodAll_mk1 (shut_bool Try.underlying4 _), (trodAll_cons_mk (Below.trod laidOut (by kernel_rfl) (of_decide_eq_true (by kernel_rfl)) k0 bel lt0) trodAll_mk0), rfl, bel.frame _, fun h => by cases h⟩

theorem over : Rows.fnMarksRow.holds Try.pinned (OpenSpec.ofChange Rows.fnMarksSpec) :=
  OpenClaim.holds_of_wide 10 Try.f10 rfl rfl rfl rfl rfl rfl rfl ⟨rfl, rfl, rfl, rfl, rfl⟩ rfl rfl rfl rfl rfl (by kernel_rfl) Try.func10 (by unfold joinedFacts; rw [seat_enter, seat_lift, seat_make]; kernel_rfl)
    (of_decide_eq_true (by kernel_rfl)) (by unfold Func.isWrapper; first | (rw [if_pos (by decide +kernel)]; kernel_rfl) | (rw [if_neg (by decide +kernel)]; exact ⟨rfl, rfl⟩))
    (fun os started H enc _ => lifted os started H enc)

theorem proved : Rows.FnMarksSaid := over
end Go.Proofs.Ytegcjdcinebleaa.fnMarks

