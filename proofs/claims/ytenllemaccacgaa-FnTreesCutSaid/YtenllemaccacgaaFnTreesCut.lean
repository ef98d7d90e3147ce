/-
  For every code the law FnTreesCut returns true: impl.NetMerge answers as the reference model does; impl.NetTrees of the net is that of the net without the run and its weight times that of the merged net. No condition: every list of bytes is taken.
-/
import Derived.Test.YtenllemaccacgaaZn
import Derived.Test.YtenllemaccacgaaZp
import Derived.Test.YtenllemaccacgaaCode
import Derived.Test.YtenllemaccacgaaNz
import Derived.Test.YtenllemaccacgaaZf
import Derived.Deep.RegionHeld3
namespace Go.Proofs.Ytenllemaccacgaa.fnTreesCut
open Go.ChangeShapes Go.WideShapes Go.ChangeAt Go.RowKit
set_option linter.unusedVariables false

theorem two_ends {r : Rn} (h : r.f ≠ r.t) : ∃ lo hi : Int, lo < hi ∧ Ends2 r lo hi := by
  by_cases e : r.f < r.t
  · exact ⟨r.f, r.t, e, .inl ⟨rfl, rfl⟩⟩
  · exact ⟨r.t, r.f, by omega, .inr ⟨rfl, rfl⟩⟩
theorem mrg_len (lo hi : Int) (rs : List Rn) : (mrg lo hi rs).length ≤ rs.length := by
  refine Nat.le_trans (List.length_filter_le _ _) ?_
  rw [List.length_map]; exact Nat.le_refl _
set_option maxHeartbeats 8000000 in
set_option maxRecDepth 100000 in
theorem walk (len cap : Nat) (p : Option Addr) (w : World) (hl : len ≤ 1048576) (h : Hid (Code' w (.slice p len cap))) :
    Calls Try.prog 17 #[.slice p len cap] w fun e w' => e = .returned (.bool true) ∧ Below w.heap.size w w' := by
  have hl' : ¬ (1048576 : Int) < (len : Int) := by omega
  go_enter Try.func17, Try.ntmps17
  go_upto_region 4 with (go_at_call 54; (with_reducible refine (drawMerge_is _ _ h).mono ?_); rintro e wd ⟨N, m, rs, B, k, ⟨c, hmc, rfl⟩, hmm, ⟨⟨hN2, hN6⟩, hl8, hR, hb_wd⟩, hk1, hk2⟩; have hs_wd := hb_wd.size; have HR := Lib.hid hR; have HM := Lib.hid hmm; clear hR)
  have hm8 : m ≤ 8 := by omega
  clear h hl8 hmm
  by_cases hy : nOk (N : Int) rs = true ∧ 0 ≤ k ∧ k < m ∧ 3 ≤ (N : Int)
  · obtain ⟨j, r, rfl, hj, hr⟩ := hasRun_nat (rs := rs) (k := k) ⟨hy.2.1, by have := HM.out; omega⟩
    have hn := hy.1
    have hN3 : 3 ≤ N := by have := hy.2.2.2; omega
    obtain ⟨n, hNn⟩ : ∃ n, N = n + 1 := ⟨N - 1, by omega⟩
    obtain ⟨M, hnM⟩ : ∃ M, n = M + 1 := ⟨n - 1, by omega⟩
    have hro := rOk_true ((nOk_true hn).2.2.2 j r hr)
    obtain ⟨lo, hi, hlh, he⟩ := two_ends hro.2.2.2.2.1
    have hjm : j < m := by have := hy.2.2.1; omega
    have hjm' : (j : Int) < (m : Int) := by omega
    have hok2 : nOk (n : Int) (mrg lo hi rs) = true := mrg_ok (M := n) (by rw [← hNn]; exact hn) (by omega) hr hlh he
    have hok3 := erase_ok hn j
    obtain ⟨q, hq⟩ : ∃ q, (mrg lo hi rs).length = q := ⟨_, rfl⟩
    have hq8 : q ≤ 8 := by have := mrg_len lo hi rs; have := HM.out; omega
    have hel : (rs.eraseIdx j).length = m - 1 := by rw [List.length_eraseIdx, if_pos hj, HM.out]
    obtain ⟨ms, hms⟩ : ∃ ms, mrg lo hi rs = ms := ⟨_, rfl⟩
    obtain ⟨es, hes⟩ : ∃ es, rs.eraseIdx j = es := ⟨_, rfl⟩
    have hdet : det n (lap0 rs) = det n (lap0 es) + r.g * det M (lap0 ms) := by
      subst hnM
      rw [← hms, ← hes]
      exact det_cutM (by rw [← hNn]; exact hn) (by omega) hr hlh he
    have c1 := fun w h => Lib.hid (iMerge_yes N n (some ⟨B, 0, none⟩) c m rs j r lo hi w h hn hN3 hNn HM.out hr hlh he)
    have c2 := fun w h => Lib.hid (sMerge_yes N n (some ⟨B, 0, none⟩) c m rs j r lo hi w h hn hN3 hNn HM.out hr hlh he)
    have c3 := fun w h => Lib.hid (iWithout_yes N (some ⟨B, 0, none⟩) c m rs j w h hn HM.out hjm hmc)
    have c4 := fun w h => Lib.hid (iTrees_yes N n (some ⟨B, 0, none⟩) c m rs w h hn HM.out hNn)
    rw [hms] at c1 c2 hq hok2
    rw [hes] at c3 hok3 hel
    have c1 := fun w h => Lib.hid ((c1 w h).out.mono (fun e w' ⟨v, he, hv⟩ => (⟨v, he, hv.p hq⟩ : ∃ v, e = Ending.returned (.tuple #[.int .i64 n, v, .bool true]) ∧ NewP w q ms v w')))
    have c2 := fun w h => Lib.hid ((c2 w h).out.mono (fun e w' ⟨v, he, hv⟩ => (⟨v, he, hv.q hq⟩ : ∃ v, e = Ending.returned (.tuple #[.int .i64 n, v, .bool true]) ∧ NewQ w q ms v w')))
    have c3 := fun w h => Lib.hid ((c3 w h).out.mono (fun e w' ⟨v, he, hv⟩ => (⟨v, he, hv.p hel⟩ : ∃ v, e = Ending.returned (.tuple #[v, .bool true]) ∧ NewP w (m - 1) es v w')))
    have c5 := fun p c w h => Lib.hid (iTrees_yes N n p c (m - 1) es w h hok3 hel hNn)
    have c6 := fun p c w h => Lib.hid (iTrees_yes n M p c q ms w h hok2 hq hnM)
    have c7 := fun p c w h => Lib.hid (by have := iValid n p c ms true w h (by omega) hok2; rw [hq] at this; exact this)
    have hG : ∃ cl, cl = wd.cell? ⟨B, j * 4 + 3, none⟩ := ⟨_, rfl⟩
    obtain ⟨B', o', r', heq, hr', hBl, -, -, -, hG4⟩ := HR.out.at (i := j) hj
    cases heq
    obtain rfl : r = r' := by rw [hr] at hr'; cases hr'; rfl
    rw [Nat.zero_add] at hG4
    have hd1 := lap_det_low (n := n) (rs := es) (by omega) (fun x hx => ⟨(ok_runs hok3 x hx).1, (ok_runs hok3 x hx).2.1, (ok_runs hok3 x hx).2.2.1⟩) (nOk_true hok3).2.2.1
    have hd2 := lap_det_low (n := M) (rs := ms) (by omega) (fun x hx => ⟨(ok_runs hok2 x hx).1, (ok_runs hok2 x hx).2.1, (ok_runs hok2 x hx).2.2.1⟩) (nOk_true hok2).2.2.1
    obtain ⟨D, hD⟩ : ∃ D, det n (lap0 rs) = D := ⟨_, rfl⟩
    obtain ⟨E, hE⟩ : ∃ E, det n (lap0 es) = E := ⟨_, rfl⟩
    obtain ⟨F, hF⟩ : ∃ F, det M (lap0 ms) = F := ⟨_, rfl⟩
    rw [hD] at c4 hdet
    rw [hE] at c5 hdet hd1
    rw [hF] at c6 hdet hd2
    have bP := abs_mul (a := r.g) (b := F) (x := 9) (y := 2000000000000) (by omega) (by omega)
    obtain ⟨P, hP⟩ : ∃ P, r.g * F = P := ⟨_, rfl⟩
    rw [hP] at bP hdet
    obtain ⟨P1, P2⟩ := bP
    obtain ⟨E1, E2⟩ := hd1
    have w1 : IntKind.i64.wrap (r.g * F) = P := by rw [hP, IntKind.wrap_i64]; omega
    have w2 : IntKind.i64.wrap (E + P) = E + P := by rw [IntKind.wrap_i64]; omega
    have hNi : (N : Int) - 1 = (n : Int) := by omega
    have wN : IntKind.i64.wrap ((N : Int) - 1) = (n : Int) := by rw [hNi, IntKind.wrap_i64]; omega
    have wN' : IntKind.i64.wrap (n : Int) = (n : Int) := by rw [IntKind.wrap_i64]; omega
    have HK := Lib.hid (And.intro hq hel)
    clear hy hr hn hNn hnM he hok2 hok3 hq hel hms hes hD hE hF hP hG hd2 hr'
    go_upto_region 6 with (first
      | ((go_at_call 40; (with_reducible refine ((c1 _ ?_).out).mono ?_); (focus ((exact HR.out); done)); rintro e wi ⟨v, rfl, pi, ci, rfl, oi, hb_wi⟩; have hs_wi := hb_wi.size; (try simp at hs_wi)); have OI := Lib.hid oi; clear oi)
      | ((go_at_call 55; (with_reducible refine ((c2 _ ?_).out).mono ?_); (focus ((exact HR.out.below hb_wi); done)); rintro e ws ⟨v, rfl, gs, cs, rfl, hgs, os, hb_ws⟩; have hs_ws := hb_ws.size; (try simp at hs_ws)); have OS := Lib.hid os; have hls := os.lt; clear os))
    go_upto_region 9 with (first
      | ((go_at_call 56; (with_reducible refine (sameRuns_is _ _ _ _ q ms _ ?_ ?_ HK.out.1 (by omega)).mono ?_); (focus ((exact (OI.out.below hb_ws).runs); done)); (focus ((exact OS.out.runs); done)); rintro e wt ⟨rfl, hb_wt⟩; have hs_wt := hb_wt.size; (try simp at hs_wt)))
      | ((go_at_call 29; (with_reducible refine ((c3 _ ?_).out).mono ?_); (focus ((exact HR.out.below (by repeat (first | assumption | exact Below.refl _ _ | (refine below_chain ?_ (by assumption) (by first | omega | (simp <;> omega) | simp)) | (refine Below.alloc ?_ (by first | omega | (simp <;> omega) | simp) _) | (apply below_drewN) | (apply below_drew) | (refine Below.setCell ?_ (by first | omega | (simp <;> omega) | simp) _)))); done)); rintro e wo ⟨v, rfl, po, co, rfl, oo, hb_wo⟩; have hs_wo := hb_wo.size; (try simp at hs_wo)); have OO := Lib.hid oo; clear oo))
    have HRo := Lib.hid (HR.out.below (w' := wo) (by repeat (first | assumption | exact Below.refl _ _ | (refine below_chain ?_ (by assumption) (by first | omega | (simp <;> omega) | simp)) | (refine Below.alloc ?_ (by first | omega | (simp <;> omega) | simp) _) | (apply below_drewN) | (apply below_drew) | (refine Below.setCell ?_ (by first | omega | (simp <;> omega) | simp) _))))
    have OIo := Lib.hid (OI.out.below (w' := wo) (by repeat (first | assumption | exact Below.refl _ _ | (refine below_chain ?_ (by assumption) (by first | omega | (simp <;> omega) | simp)) | (refine Below.alloc ?_ (by first | omega | (simp <;> omega) | simp) _) | (apply below_drewN) | (apply below_drew) | (refine Below.setCell ?_ (by first | omega | (simp <;> omega) | simp) _))))
    have hBd : Below wd.heap.size wd wo := (by repeat (first | assumption | exact Below.refl _ _ | (refine below_chain ?_ (by assumption) (by first | omega | (simp <;> omega) | simp)) | (refine Below.alloc ?_ (by first | omega | (simp <;> omega) | simp) _) | (apply below_drewN) | (apply below_drew) | (refine Below.setCell ?_ (by first | omega | (simp <;> omega) | simp) _)))
    have hBo : Below w.heap.size w wo := hb_wd.trans (hBd.mono hs_wd)
    have hGo := cell_below_keep hBd hG4
    have hsw := hBo.size
    have HBo := Lib.hid hBo
    clear hb_wd hb_wi hb_ws hb_wt hb_wo HR OI OS hBo hBd hG4 c1 c2 c3
    go_region_held3 (fun W => W.cell? ⟨B, j * 4 + 3, none⟩ = some (.int .i64 r.g)) (first | (go_keep; done) | ((with_reducible refine cell_below_keep (by with_reducible assumption) ?_); with_reducible assumption))
      (first
        | (go_at_call 57; (with_reducible refine ((c7 _ _ _ ?_).out).mono ?_); (focus ((exact OIo.out.runs); done)); rintro e w1 ⟨rfl, hb_w1⟩; have hs_w1 := hb_w1.size; (try simp at hs_w1))
        | (go_at_call 36; (with_reducible refine ((c4 _ ?_).out).mono ?_); (focus ((exact HRo.out.below (by repeat (first | assumption | exact Below.refl _ _ | (refine below_chain ?_ (by assumption) (by first | omega | (simp <;> omega) | simp)) | (refine Below.alloc ?_ (by first | omega | (simp <;> omega) | simp) _) | (apply below_drewN) | (apply below_drew) | (refine Below.setCell ?_ (by first | omega | (simp <;> omega) | simp) _)))); done)); rintro e w2 ⟨rfl, hb_w2⟩; have hs_w2 := hb_w2.size; (try simp at hs_w2))
        | (go_at_call 36; (with_reducible refine ((c5 _ _ _ ?_).out).mono ?_); (focus ((exact (OO.out.below (by repeat (first | assumption | exact Below.refl _ _ | (refine below_chain ?_ (by assumption) (by first | omega | (simp <;> omega) | simp)) | (refine Below.alloc ?_ (by first | omega | (simp <;> omega) | simp) _) | (apply below_drewN) | (apply below_drew) | (refine Below.setCell ?_ (by first | omega | (simp <;> omega) | simp) _)))).runs); done)); rintro e w3 ⟨rfl, hb_w3⟩; have hs_w3 := hb_w3.size; (try simp at hs_w3))
        | (go_at_call 36; (with_reducible refine ((c6 _ _ _ ?_).out).mono ?_); (focus ((exact (OIo.out.below (by repeat (first | assumption | exact Below.refl _ _ | (refine below_chain ?_ (by assumption) (by first | omega | (simp <;> omega) | simp)) | (refine Below.alloc ?_ (by first | omega | (simp <;> omega) | simp) _) | (apply below_drewN) | (apply below_drew) | (refine Below.setCell ?_ (by first | omega | (simp <;> omega) | simp) _)))).runs); done)); rintro e w4 ⟨rfl, hb_w4⟩; have hs_w4 := hb_w4.size; (try simp at hs_w4)))
    have hB1 : Below wo.heap.size wo w1 := (below_drew (Below.refl wo.heap.size wo)).trans hb_w1
    have hB4 : Below wo.heap.size wo w4 := ((hB1.trans (hb_w2.mono hB1.size)).trans (hb_w3.mono (Nat.le_trans hB1.size hs_w2))).trans (hb_w4.mono (Nat.le_trans hB1.size (Nat.le_trans hs_w2 hs_w3)))
    have hBe := HBo.out.trans (hB4.mono hsw)
    go_wp2_with fail
    exact bodyPost_ret (v := .bool true) (by simp [results, Try.results17, go_sem]) rfl ⟨rfl, hBe⟩
  · have c1 := fun w h => Lib.hid (iMerge_no N k (some ⟨B, 0, none⟩) c m rs w h HM.out (by omega) hy)
    have c2 := fun w h => Lib.hid (sMerge_no N k (some ⟨B, 0, none⟩) c m rs w h HM.out (by omega) hy)
    clear hy
    go_wp2_with (first
      | (go_at_call 40; (with_reducible refine ((c1 _ ?_).out).mono ?_); (focus ((exact HR.out); done)); rintro e wi ⟨⟨qi, di, rfl⟩, hb_wi⟩; have hs_wi := hb_wi.size; (try simp at hs_wi))
      | (go_at_call 55; (with_reducible refine ((c2 _ ?_).out).mono ?_); (focus ((exact HR.out.below hb_wi); done)); rintro e ws ⟨⟨qs, rfl⟩, hb_ws⟩; have hs_ws := hb_ws.size; (try simp at hs_ws))
      | (go_at_call 56; (with_reducible refine (sameRuns_nil _ _ _ _ _).mono ?_); rintro e wt ⟨rfl, hb_wt⟩; have hs_wt := hb_wt.size; (try simp at hs_wt)))
    exact bodyPost_ret (v := .bool true) (by simp [results, Try.results17, go_sem]) rfl ⟨rfl, (by repeat (first | assumption | exact Below.refl _ _ | (refine below_chain ?_ (by assumption) (by first | omega | (simp <;> omega) | simp)) | (refine Below.alloc ?_ (by first | omega | (simp <;> omega) | simp) _) | (apply below_drewN) | (apply below_drew) | (refine Below.setCell ?_ (by first | omega | (simp <;> omega) | simp) _)))⟩


set_option maxRecDepth 100000 in
theorem walk_long (len cap : Nat) (p : Option Addr) (w : World) (hl : 1048576 < len) :
    Calls Try.prog 17 #[.slice p len cap] w fun e w' => e = .returned (.bool true) ∧ Below w.heap.size w w' := by
  have hl' : (1048576 : Int) < (len : Int) := by omega
  go_enter Try.func17, Try.ntmps17
  go_wp2
  go_ret
  exact ⟨rfl, Below.refl _ _⟩

set_option maxRecDepth 100000 in
theorem lifted (os : Os) (started : os.Started) (H : Type) (enc : TypeId × Value → H) :
    ReturnsInHanded {} Try.checked os 17 .any (Rows.fnTreesCutSpec.pre6 enc Try.prog Try.f17 Rows.fnTreesCutRow.domain false) (Rows.fnTreesCutSpec.post enc Try.prog Try.f17 false true false false) := by
  refine returnsInHanded_of_change (C := Try.checked) own started (by kernel_rfl) Try.func17
    (ChangeSpec.witness6 (enc := enc) (C := Try.checked) false ⟨#[], #[.slice none 0 0], []⟩ 8 (by kernel_rfl) (by kernel_rfl) (by kernel_rfl) (by kernel_rfl)) ?_
  intro W base args ds gs before hval0 hW hcnd _
  have hval : ∀ (j : Nat) t v, Try.f17.params[j]? = some t → args[j]? = some v → Value.okWide Try.prog W .any base t v := hval0
  have hW' := hW
  obtain ⟨p, q, hA0, hV, rfl, hfz, hnd⟩ := hW
  have hA : DataW.TrodAll enc Try.prog W 0 (fun _ => true) true Try.f17.params.toList args.toList ds p := hA0
  rw [Try.params17] at hA hval
  obtain ⟨v0, vs0, d0, ds0, p0, q0, hargs, rfl, rfl, h0, r0⟩ := trodAll_cons hA
  obtain ⟨rfl, rfl, rfl⟩ := trodAll_nil r0
  obtain rfl : args = #[v0] := by cases args; simp_all
  obtain ⟨rfl, rfl⟩ := trodVars_none hV
  obtain ⟨a0, len0, cap0, rfl⟩ := okWide_slice Try.underlying22 (hval 0 22 v0 rfl rfl)
  have k0 := h0
  have lt0 : ∀ x ∈ p0, x.block < W.heap.size := by obtain ⟨m, hm⟩ := k0; exact DataW.trod_lt m _ _ _ hm
  obtain ⟨z0, w0⟩ : ∃ zs, IsRow .u8 W a0 len0 cap0 zs := by
    obtain ⟨fuel, hf⟩ := h0
    rcases open_ints Try.underlying22 Try.underlying5 (by kernel_rfl) hf with ⟨hcs, _⟩ | ⟨x, l, c, zs, hcs, _, hl, hm, hz, _, hcell, hwz⟩
    · simp [Value.cells] at hcs
      obtain ⟨rfl, rfl, rfl⟩ := hcs
      exact ⟨[], .inl ⟨rfl, rfl, rfl, rfl⟩⟩
    · simp [Value.cells] at hcs
      obtain ⟨rfl, rfl, rfl⟩ := hcs
      exact ⟨zs, .inr ⟨_, rfl, hl, hm, by simpa using hz, hcell, hwz⟩⟩
  clear hA0 hval0
  have hw : Calls Try.prog 17 #[.slice a0 len0 cap0] W fun e w' => e = .returned (.bool true) ∧ Below W.heap.size W w' := by
    by_cases hl : len0 ≤ 1048576
    · exact walk len0 cap0 a0 W hl (Lib.hid (code_of_row w0 hl))
    · exact walk_long len0 cap0 a0 W (by omega)
  refine hw.mono fun e W' ⟨he, bel⟩ => ?_
  subst he
  exact ⟨_, rfl, _, _, _, [], _, [], hW', trodAll_mk1 (shut_bool Try.underlying4 _), (trodAll_cons_mk (Below.trod laidOut (by kernel_rfl) (of_decide_eq_true (by kernel_rfl)) k0 bel lt0) trodAll_mk0), rfl, bel.frame _, fun h => by cases h⟩

theorem over : Rows.fnTreesCutRow.holds Try.pinned (OpenSpec.ofChange Rows.fnTreesCutSpec) :=
  OpenClaim.holds_of_wide 17 Try.f17 rfl rfl rfl rfl rfl rfl rfl ⟨rfl, rfl, rfl, rfl, rfl⟩ rfl rfl rfl rfl rfl (by kernel_rfl) Try.func17 (by unfold joinedFacts; rw [seat_enter, seat_lift, seat_make]; kernel_rfl)
    (of_decide_eq_true (by kernel_rfl)) (by unfold Func.isWrapper; first | (rw [if_pos (by decide +kernel)]; kernel_rfl) | (rw [if_neg (by decide +kernel)]; exact ⟨rfl, rfl⟩))
    (fun os started H enc _ => lifted os started H enc)

theorem proved : Rows.FnTreesCutSaid := over
end Go.Proofs.Ytenllemaccacgaa.fnTreesCut

