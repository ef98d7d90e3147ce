/-
  For every code the law FnParcel returns true: impl.ParcelValid answers as the reference model does; a parcel is a simple polygon with an area above 0, the corners the other way round are no parcel, and the corners three further both ways are one, if they are points. No condition: every list of bytes is taken.
-/
import Derived.Test.YtegcjdcinebleaaPka
import Derived.Test.YtegcjdcinebleaaPkd
import Derived.Test.YtegcjdcinebleaaCode
namespace Go.Proofs.Ytegcjdcinebleaa.fnParcel
open Go.ChangeShapes Go.WideShapes Go.ChangeAt Go.RowKit Poly
set_option linter.unusedVariables false

theorem back_n {p : Option Addr} {c n : Nat} {L M : List P2} {w : World} (h : Ints w p (fl L)) (hn : L.length = n) (hc : n ≤ c) (hok : okP L = true) (hM : backL L = M) :
    Calls Try.prog 21 #[.slice p n c] w fun e w' => ∃ g cap : Nat, e = .returned (.tuple #[.slice (some ⟨g, 0, none⟩) n cap, .bool true]) ∧ w.heap.size ≤ g ∧ Own w' g 31 2 n cap (fl M) ∧ Below w.heap.size w w' := by
  subst hn hM
  exact iPolyBack_yes h hc hok
/-- all of the first corners are points when they are three further -/
def goodTo (L : List P2) (k : Nat) : Bool := (List.range k).all (fun i => pvP (shP (cy L i)))
theorem goodTo_succ (L : List P2) (k : Nat) : goodTo L (k + 1) = (goodTo L k && pvP (shP (cy L k))) := by
  unfold goodTo; rw [List.range_succ, List.all_append]; simp
theorem goodTo_at {L : List P2} {k i : Nat} (h : goodTo L k = true) (hi : i < k) : pvP (shP (cy L i)) = true := by
  unfold goodTo at h
  rw [List.all_eq_true] at h
  exact h i (List.mem_range.2 hi)
theorem sh_take {L : List P2} {k : Nat} (hk : k < L.length) : shL (L.take (k + 1)) = shL (L.take k) ++ [shP (cy L k)] := by
  unfold shL
  rw [List.take_add_one, cy_lt hk]
  simp
set_option maxHeartbeats 16000000 in
set_option maxRecDepth 100000 in
theorem walk (len cap : Nat) (p : Option Addr) (w : World) (hl : len ≤ 1048576) (h : Hid (Code' w (.slice p len cap))) :
    Calls Try.prog 6 #[.slice p len cap] w fun e w' => e = .returned (.bool true) ∧ Below w.heap.size w w' := by
  have hl' : ¬ (1048576 : Int) < (len : Int) := by omega
  go_enter Try.func6, Try.ntmps6
  go_upto_region 4 with (go_at_call 33; (with_reducible refine (drawParcelValid_is _ _ h).mono ?_); rintro e wd ⟨L, q, c, rfl, hc, h12, hI, hb_wd⟩; have hs_wd := hb_wd.size)
  clear h
  have H := Lib.hid hI
  cases hv : parV L
  · have c1 := fun w h => Lib.hid (iParcel_l (p := q) (c := c) (w := w) (L := L) h rfl hc (by omega) hv)
    have c2 := fun w h => Lib.hid (sParcelValid_is (p := q) (c := c) (w := w) (L := L) h (by omega) hv)
    clear hI hv
    go_wp2_with (first | (go_at_call 34; (with_reducible refine ((c1 _ ?_).out).mono ?_); (focus ((exact H.out); done)); rintro e wi ⟨rfl, hb_wi⟩; have hs_wi := hb_wi.size; (try simp at hs_wi)) | (go_at_call 35; (with_reducible refine ((c2 _ ?_).out).mono ?_); (focus ((exact H.out.below hb_wi); done)); rintro e ws ⟨rfl, hb_ws⟩; have hs_ws := hb_ws.size; (try simp at hs_ws)))
    go_ret
    exact ⟨rfl, (by repeat (first | assumption | exact Below.refl _ _ | (refine below_chain ?_ (by assumption) (by first | omega | (simp <;> omega) | simp)) | (refine Below.alloc ?_ (by first | omega | (simp <;> omega) | simp) _) | (apply below_drewN) | (apply below_drew) | (refine Below.setCell ?_ (by first | omega | (simp <;> omega) | simp) _)))⟩
  · have hok := parV_ok hv
    have hl3 := (okP_len hok).1
    obtain ⟨A, hA⟩ : ∃ A, areaL L = A := ⟨_, rfl⟩
    obtain ⟨M, hM⟩ : ∃ M, backL L = M := ⟨_, rfl⟩
    have hA0 := parV_area hv
    rw [hA] at hA0
    have hMl : M.length = L.length := by rw [← hM, back_len]
    have hMv : parV M = false := by rw [← hM]; exact parV_back hv
    have c1 := fun w h => Lib.hid (iParcel_l (p := q) (c := c) (w := w) (L := L) h rfl hc (by omega) hv)
    have c2 := fun w h => Lib.hid (sParcelValid_is (p := q) (c := c) (w := w) (L := L) h (by omega) hv)
    have c3 := fun w h => Lib.hid (back_n (p := q) (c := c) (w := w) (L := L) h rfl hc hok hM)
    have c4 := fun w h => Lib.hid (iArea_l (p := q) (c := c) (w := w) (L := L) h rfl hc hok hA)
    have c5 := fun w h => Lib.hid (iPoly_l (p := q) (c := c) (w := w) (L := L) h rfl hc (parV_poly hv))
    have c6 := fun g cp w h hcp => Lib.hid (iParcel_l (p := some ⟨g, 0, none⟩) (c := cp) (n := L.length) (w := w) (L := M) h hMl hcp (by omega) hMv)
    have hS : goodTo L L.length = true → parV (shL L) = true := fun hg => parV_sh hv (okP_shift hl3 h12 (fun i hi => goodTo_at hg hi))
    have c7 := fun g cp w h hcp hg => Lib.hid (iParcel_l (p := some ⟨g, 0, none⟩) (c := cp) (n := L.length) (w := w) (L := shL L) h (sh_len L) hcp (by omega) (hS hg))
    have HS := Lib.hid hok
    obtain ⟨Bq, o, rfl, hBq, -, -⟩ := hI.pt (i := 0) (by omega)
    clear hI hv hok hA hM hMl hMv hS
    go_upto_region 12 with (first | (go_at_call 34; (with_reducible refine ((c1 _ ?_).out).mono ?_); (focus ((exact H.out); done)); rintro e wi ⟨rfl, hb_wi⟩; have hs_wi := hb_wi.size; (try simp at hs_wi)) | (go_at_call 35; (with_reducible refine ((c2 _ ?_).out).mono ?_); (focus ((exact H.out.below hb_wi); done)); rintro e ws ⟨rfl, hb_ws⟩; have hs_ws := hb_ws.size; (try simp at hs_ws)) | ((go_at_call 21; (with_reducible refine ((c3 _ ?_).out).mono ?_); (focus ((exact H.out.below (by repeat (first | assumption | exact Below.refl _ _ | (refine below_chain ?_ (by assumption) (by first | omega | (simp <;> omega) | simp)) | (refine Below.alloc ?_ (by first | omega | (simp <;> omega) | simp) _) | (apply below_drewN) | (apply below_drew) | (refine Below.setCell ?_ (by first | omega | (simp <;> omega) | simp) _)))); done)); rintro e wa ⟨g1, k1, rfl, hg1, o1, hb_wa⟩; have hs_wa := hb_wa.size; (try simp at hs_wa)); have hcap := own_le o1; have O1 := Lib.hid o1; clear o1) | (go_at_call 22; (with_reducible refine ((c4 _ ?_).out).mono ?_); (focus ((exact H.out.below (by repeat (first | assumption | exact Below.refl _ _ | (refine below_chain ?_ (by assumption) (by first | omega | (simp <;> omega) | simp)) | (refine Below.alloc ?_ (by first | omega | (simp <;> omega) | simp) _) | (apply below_drewN) | (apply below_drew) | (refine Below.setCell ?_ (by first | omega | (simp <;> omega) | simp) _)))); done)); rintro e wb ⟨rfl, hb_wb⟩; have hs_wb := hb_wb.size; (try simp at hs_wb)))
    have hIB : Below wi.heap.size wi wb := (by repeat (first | assumption | exact Below.refl _ _ | (refine below_chain ?_ (by assumption) (by first | omega | (simp <;> omega) | simp)) | (refine Below.alloc ?_ (by first | omega | (simp <;> omega) | simp) _) | (apply below_drewN) | (apply below_drew) | (refine Below.setCell ?_ (by first | omega | (simp <;> omega) | simp) _)))
    have hDB : Below wd.heap.size wd wb := hb_wi.trans (hIB.mono hs_wi)
    have HB := Lib.hid (H.out.below hDB)
    have HBB := Lib.hid (hb_wd.trans (hDB.mono hs_wd))
    have O1B := Lib.hid (O1.out.below hb_wb)
    have hwb := HBB.out.size
    have hdb := hDB.size
    clear O1 c1 c2 c3 c4 hb_wi hb_ws hb_wa hb_wb hs_wi hs_ws hs_wa hs_wb hIB hDB
    have HE := Lib.hid (Own.empty wb 31 2)
    go_wp2_with fail
    go_loopw [10, 11, 12] (fun x gd i wr => ∃ k g cp : Nat, k ≤ L.length ∧ i = .int .i64 k ∧ x = .slice (some ⟨g, 0, none⟩) k cp ∧ gd = .bool (goodTo L k) ∧ wb.heap.size ≤ g ∧ Own wr g 31 2 k cp (fl (shL (L.take k))) ∧ Below wb.heap.size wb wr) (fun _ _ i _ => L.length - (intOf i).toNat)
    case atStart => exact ⟨0, wb.heap.size, 0, Nat.zero_le _, rfl, rfl, rfl, Nat.le_refl _, HE.out, (Below.refl _ _).alloc (Nat.le_refl _) _⟩
    case round =>
      clear HE
      obtain ⟨k, g, cp, hk, rfl, rfl, rfl, hg, ho, hb⟩ := hrel
      rename World => wr
      have hbs := hb.size
      by_cases hlt : k < L.length
      · have hlt' : (k : Int) < (L.length : Int) := by omega
        obtain ⟨B', o', e0, hB', x0, x1⟩ := (HB.out.below hb).pt hlt
        simp at e0
        obtain ⟨rfl, rfl⟩ := e0
        have hp := pvP_true (okP_at HS.out k)
        have HO := Lib.hid (And.intro ho hb)
        have hgw := ho.lt
        have hsh : Hid (shP (cy L k) = ((cy L k).1 + 3, (cy L k).2 + 3)) := Lib.hid rfl
        have qx : IntKind.i64.wrap ((cy L k).1 + 3) = (cy L k).1 + 3 := by rw [IntKind.wrap_i64]; omega
        have qy : IntKind.i64.wrap ((cy L k).2 + 3) = (cy L k).2 + 3 := by rw [IntKind.wrap_i64]; omega
        clear ho hb
        go_upto_region 15 with fail
        go_region_held3 (fun W => W.cell? ⟨Bq, o + k * 2, none⟩ = some (.int .i64 (cy L k).1) ∧ W.cell? ⟨Bq, o + k * 2 + 1, none⟩ = some (.int .i64 (cy L k).2)) (first | (go_keep; done) | (simp [*, go_sem]; done)) (fail)
        obtain ⟨V, hV⟩ : ∃ V, V = (wr.alloc (.cells #[.int .i64 ((cy L k).1 + 3), .int .i64 ((cy L k).2 + 3)] 31)).drew := ⟨_, rfl⟩
        obtain ⟨D, hD⟩ : ∃ D, D = wr.heap.size := ⟨_, rfl⟩
        have v0 : V.cell? ⟨D, 0, none⟩ = some (.int .i64 ((cy L k).1 + 3)) := by rw [hV, hD]; simp [go_sem]
        have v1 : V.cell? ⟨D, 1, none⟩ = some (.int .i64 ((cy L k).2 + 3)) := by rw [hV, hD]; simp [go_sem]
        have hbV : Below wr.heap.size wr V := by rw [hV]; exact below_drew ((Below.refl _ wr).alloc (Nat.le_refl _) _)
        have hoV := HO.out.1.below hbV
        have hbbV : Below wb.heap.size wb V := HO.out.2.trans (hbV.mono hbs)
        have hDV : D < V.heap.size := World.block_lt_of_cell? V _ v0
        have hgV := hoV.lt
        rw [← hV, ← hD]
        have HV := Lib.hid (And.intro hoV hbbV)
        have hsV := hbbV.size
        obtain ⟨pv, hpv⟩ : ∃ b, pvP (shP (cy L k)) = b := ⟨_, rfl⟩
        have cpv := fun w => Lib.hid (ipv_is ((cy L k).1 + 3) ((cy L k).2 + 3) pv w hpv)
        have HPV := Lib.hid hpv
        clear hV hD hbV hoV hbbV HO x0 x1 qx qy hpv
        obtain ⟨gd, hgd⟩ : ∃ b, goodTo L k = b := ⟨_, rfl⟩
        rw [hgd]
        cases gd
        · have hOV : Own (V.alloc (.cells #[.int .i64 ((cy L k).1 + 3), .int .i64 ((cy L k).2 + 3)] 31)) g 31 2 k cp (fl (shL (L.take k))) := HV.out.1.alloc _
          have HOV := Lib.hid hOV
          have HGD := Lib.hid hgd
          clear hOV hgd
          go_wp2_with (at_builtin; refine wp_append _ rfl _ _ 23 rfl 31 _ 2 16 Try.underlying23 info_point rfl (by decide) (by decide) g k cp _ rfl HOV.out _ 1 1 [(cy L k).1 + 3, (cy L k).2 + 3] rfl rfl (two_cells V _ _ _) (by omega) ?_; intro g' cap' w' hown hgr hloc hlt2; have HN := Lib.hid (And.intro hown (And.intro hgr hloc)); clear hown hgr hloc)
          go_roundw
          case rel =>
            have hgd := HGD.out
            have hpv := HPV.out
            have hloc := HN.out.2.2
            have hgr := HN.out.2.1
            have hsz := HV.out.2.size
            have hbA := (HV.out.2).alloc hsz (.cells #[.int .i64 ((cy L k).1 + 3), .int .i64 ((cy L k).2 + 3)] 31)
            refine ⟨k + 1, g', cap', by omega, by go_num, rfl, ?_, ?_, ?_, ?_⟩
            · rw [goodTo_succ, hgd]; simp [hpv]
            · rcases hloc with h | h <;> (rw [h]; first | omega | (simp; omega))
            · rw [sh_take hlt, fl_append]
              have := HN.out.1
              rw [hsh.out]
              exact this
            · exact below_gr hbA hgr hg (by simp; omega)
          case measure => simp [intOf]; omega
        · have HGD := Lib.hid hgd
          clear hgd
          go_upto_region 17 with ((go_at_call 36; (with_reducible refine ((cpv _).out).mono ?_); rintro e wv ⟨rfl, hb_wv⟩; have hs_wv := hb_wv.size; (try simp at hs_wv)))
          have v0' := (hb_wv.cell (p := ⟨D, 0, none⟩) hDV).trans v0
          have v1' := (hb_wv.cell (p := ⟨D, 1, none⟩) hDV).trans v1
          have hoW := HV.out.1.below hb_wv
          have hbW := HV.out.2.trans (hb_wv.mono hsV)
          have hDW : D < wv.heap.size := by omega
          have hgW := hoW.lt
          have hOV : Own (wv.alloc (.cells #[.int .i64 ((cy L k).1 + 3), .int .i64 ((cy L k).2 + 3)] 31)) g 31 2 k cp (fl (shL (L.take k))) := hoW.alloc _
          have HOV := Lib.hid hOV
          have HBW := Lib.hid hbW
          have hsW := hbW.size
          clear hOV hoW hbW v0 v1 hb_wv
          go_wp2_with (at_builtin; refine wp_append _ rfl _ _ 23 rfl 31 _ 2 16 Try.underlying23 info_point rfl (by decide) (by decide) g k cp _ rfl HOV.out _ 1 1 [(cy L k).1 + 3, (cy L k).2 + 3] rfl rfl (two_cells wv _ _ _) (by omega) ?_; intro g' cap' w' hown hgr hloc hlt2; have HN := Lib.hid (And.intro hown (And.intro hgr hloc)); clear hown hgr hloc)
          go_roundw
          case rel =>
            have hgd := HGD.out
            have hpv := HPV.out
            have hloc := HN.out.2.2
            have hgr := HN.out.2.1
            have hsz := HBW.out.size
            have hbA := (HBW.out).alloc hsz (.cells #[.int .i64 ((cy L k).1 + 3), .int .i64 ((cy L k).2 + 3)] 31)
            refine ⟨k + 1, g', cap', by omega, by go_num, rfl, ?_, ?_, ?_, ?_⟩
            · rw [goodTo_succ, hgd]; simp [hpv]
            · rcases hloc with h | h <;> (rw [h]; first | omega | (simp; omega))
            · rw [sh_take hlt, fl_append]
              have := HN.out.1
              rw [hsh.out]
              exact this
            · exact below_gr hbA hgr hg (by simp; omega)
          case measure => simp [intOf]; omega
      · have e : k = L.length := by omega
        subst e
        have hlt' : ¬ (L.length : Int) < (L.length : Int) := by omega
        rw [List.take_length] at ho
        have hle := own_le ho
        have OX := Lib.hid ho
        have HR := Lib.hid (HB.out.below hb)
        have O1R := Lib.hid (O1B.out.below hb)
        have HBR := Lib.hid (HBB.out.trans (hb.mono hwb))
        have hwr : w.heap.size ≤ wr.heap.size := by omega
        obtain ⟨gd, hgd⟩ : ∃ b, goodTo L L.length = b := ⟨_, rfl⟩
        rw [hgd]
        have HGD := Lib.hid hgd
        clear hb ho hgd
        cases gd
        · go_wp2_with (first | (go_at_call 19; (with_reducible refine ((c5 _ ?_).out).mono ?_); (focus ((exact HR.out); done)); rintro e w1 ⟨rfl, hb_w1⟩; have hs_w1 := hb_w1.size; (try simp at hs_w1)) | (go_at_call 34; (with_reducible refine ((c6 _ _ _ ?_ hcap).out).mono ?_); (focus ((exact (O1R.out.below hb_w1).pts); done)); rintro e w2 ⟨rfl, hb_w2⟩; have hs_w2 := hb_w2.size; (try simp at hs_w2)))
          go_ret
          exact ⟨rfl, HBR.out.trans ((show Below wr.heap.size wr w2 from (by repeat (first | assumption | exact Below.refl _ _ | (refine below_chain ?_ (by assumption) (by first | omega | (simp <;> omega) | simp)) | (refine Below.alloc ?_ (by first | omega | (simp <;> omega) | simp) _) | (apply below_drewN) | (apply below_drew) | (refine Below.setCell ?_ (by first | omega | (simp <;> omega) | simp) _)))).mono hwr)⟩
        · have c7' := fun w h => (c7 g cp w h hle HGD.out)
          go_wp2_with (first | (go_at_call 19; (with_reducible refine ((c5 _ ?_).out).mono ?_); (focus ((exact HR.out); done)); rintro e w1 ⟨rfl, hb_w1⟩; have hs_w1 := hb_w1.size; (try simp at hs_w1)) | (go_at_call 34; (with_reducible refine ((c6 _ _ _ ?_ hcap).out).mono ?_); (focus ((exact (O1R.out.below hb_w1).pts); done)); rintro e w2 ⟨rfl, hb_w2⟩; have hs_w2 := hb_w2.size; (try simp at hs_w2)) | (go_at_call 34; (with_reducible refine ((c7' _ ?_).out).mono ?_); (focus ((exact ((OX.out.below hb_w1).below hb_w2).pts); done)); rintro e w3 ⟨rfl, hb_w3⟩; have hs_w3 := hb_w3.size; (try simp at hs_w3)))
          go_ret
          exact ⟨rfl, HBR.out.trans ((show Below wr.heap.size wr w3 from (by repeat (first | assumption | exact Below.refl _ _ | (refine below_chain ?_ (by assumption) (by first | omega | (simp <;> omega) | simp)) | (refine Below.alloc ?_ (by first | omega | (simp <;> omega) | simp) _) | (apply below_drewN) | (apply below_drew) | (refine Below.setCell ?_ (by first | omega | (simp <;> omega) | simp) _)))).mono hwr)⟩

set_option maxRecDepth 100000 in
theorem walk_long (len cap : Nat) (p : Option Addr) (w : World) (hl : 1048576 < len) :
    Calls Try.prog 6 #[.slice p len cap] w fun e w' => e = .returned (.bool true) ∧ Below w.heap.size w w' := by
  have hl' : (1048576 : Int) < (len : Int) := by omega
  go_enter Try.func6, Try.ntmps6
  go_wp2
  go_ret
  exact ⟨rfl, Below.refl _ _⟩

set_option maxRecDepth 100000 in
theorem lifted (os : Os) (started : os.Started) (H : Type) (enc : TypeId × Value → H) :
    ReturnsInHanded {} Try.checked os 6 .any (Rows.fnParcelSpec.pre6 enc Try.prog Try.f6 Rows.fnParcelRow.domain false) (Rows.fnParcelSpec.post enc Try.prog Try.f6 false true false false) := by
  refine returnsInHanded_of_change (C := Try.checked) own started (by kernel_rfl) Try.func6
    (ChangeSpec.witness6 (enc := enc) (C := Try.checked) false ⟨#[], #[.slice none 0 0], []⟩ 8 (by kernel_rfl) (by kernel_rfl) (by kernel_rfl) (by kernel_rfl)) ?_
  intro W base args ds gs before hval0 hW hcnd _
  have hval : ∀ (j : Nat) t v, Try.f6.params[j]? = some t → args[j]? = some v → Value.okWide Try.prog W .any base t v := hval0
  have hW' := hW
  obtain ⟨p, q, hA0, hV, rfl, hfz, hnd⟩ := hW
  have hA : DataW.TrodAll enc Try.prog W 0 (fun _ => true) true Try.f6.params.toList args.toList ds p := hA0
  rw [Try.params6] at hA hval
  obtain ⟨v0, vs0, d0, ds0, p0, q0, hargs, rfl, rfl, h0, r0⟩ := trodAll_cons hA
  obtain ⟨rfl, rfl, rfl⟩ := trodAll_nil r0
  obtain rfl : args = #[v0] := by cases args; simp_all
  obtain ⟨rfl, rfl⟩ := trodVars_none hV
  obtain ⟨a0, len0, cap0, rfl⟩ := okWide_slice Try.underlying22 (hval 0 22 v0 rfl rfl)
  have k0 := h0
  have lt0 : ∀ x ∈ p0, x.block < W.heap.size := by obtain ⟨m, hm⟩ := k0; exact DataW.trod_lt m _ _ _ hm
  obtain ⟨z0, w0⟩ : ∃ zs, IsRow .u8 W a0 len0 cap0 zs := by
    obtain ⟨fuel, hf⟩ := h0
    rcases open_ints Try.underlying22 Try.underlying5 (by kernel_rfl) hf with ⟨hcs, _⟩ | ⟨x, l, c, zs, hcs, _, hl, hm, hz, _, hcell, hwz⟩
    · simp [Value.cells] at hcs
      obtain ⟨rfl, rfl, rfl⟩ := hcs
      exact ⟨[], .inl ⟨rfl, rfl, rfl, rfl⟩⟩
    · simp [Value.cells] at hcs
      obtain ⟨rfl, rfl, rfl⟩ := hcs
      exact ⟨zs, .inr ⟨_, rfl, hl, hm, by simpa using hz, hcell, hwz⟩⟩
  clear hA0 hval0
  have hw : Calls Try.prog 6 #[.slice a0 len0 cap0] W fun e w' => e = .returned (.bool true) ∧ Below W.heap.size W w' := by
    by_cases hl : len0 ≤ 1048576
    · exact walk len0 cap0 a0 W hl (Lib.hid (code_of_row w0 hl))
    · exact walk_long len0 cap0 a0 W (by omega)
  refine hw.mono fun e W' ⟨he, bel⟩ => ?_
  subst he
  exact ⟨_, rfl, _, _, _, [], _, [], hW', trodAll_mk1 (shut_bool Try.underlying4 _), (trodAll_cons_mk (Below.trod laidOut (by kernel_rfl) (of_decide_eq_true (by kernel_rfl)) k0 bel lt0) trodAll_mk0), rfl, bel.frame _, fun h => by cases h⟩

theorem over : Rows.fnParcelRow.holds Try.pinned (OpenSpec.ofChange Rows.fnParcelSpec) :=
  OpenClaim.holds_of_wide 6 Try.f6 rfl rfl rfl rfl rfl rfl rfl ⟨rfl, rfl, rfl, rfl, rfl⟩ rfl rfl rfl rfl rfl (by kernel_rfl) Try.func6 (by unfold joinedFacts; rw [seat_enter, seat_lift, seat_make]; kernel_rfl)
    (of_decide_eq_true (by kernel_rfl)) (by unfold Func.isWrapper; first | (rw [if_pos (by decide +kernel)]; kernel_rfl) | (rw [if_neg (by decide +kernel)]; exact ⟨rfl, rfl⟩))
    (fun os started H enc _ => lifted os started H enc)

theorem proved : Rows.FnParcelSaid := over
end Go.Proofs.Ytegcjdcinebleaa.fnParcel

