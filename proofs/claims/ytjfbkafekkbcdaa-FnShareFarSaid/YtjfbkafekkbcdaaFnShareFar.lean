/-
  For every two codes the law FnShareFar returns true: impl.ShareFar answers as the reference model does; with one share 1 greater, if it is in range, it differs by at most the sum of all lengths, and it is 0 exactly for exact shares. No condition: every two lists of bytes are taken.
-/
import Derived.Test.YtjfbkafekkbcdaaSi
import Derived.Test.YtjfbkafekkbcdaaSj
import Derived.Test.YtjfbkafekkbcdaaDSz
namespace Go.Proofs.Ytjfbkafekkbcdaa.fnShareFar
open Go.ChangeShapes Go.WideShapes Go.ChangeAt Go.RowKit
set_option linter.unusedVariables false

theorem set_nth {l : List Int} {k : Nat} {x : Int} (hk : k < l.length) : nth (l.set k x) k = x := nth_at (by rw [List.getElem?_set_self hk])
theorem set_nth_ne {l : List Int} {k j : Nat} {x : Int} (h : j ≠ k) : nth (l.set k x) j = nth l j := by unfold nth; rw [List.getElem?_set_ne (by omega)]

set_option maxHeartbeats 8000000 in
set_option maxRecDepth 100000 in
theorem walk (len cap : Nat) (p : Option Addr) (len2 cap2 : Nat) (p2 : Option Addr) (w : World) (hl : len ≤ 1048576) (hl2 : len2 ≤ 1048576) (h : Hid (Code' w (.slice p len cap))) (h2 : Hid (Code' w (.slice p2 len2 cap2))) :
    Calls Try.prog 7 #[.slice p len cap, .slice p2 len2 cap2] w fun e w' => e = .returned (.bool true) ∧ Below w.heap.size w w' := by
  have hl' : ¬ (1048576 : Int) < (len : Int) := by omega
  have hl2' : ¬ (1048576 : Int) < (len2 : Int) := by omega
  have hl2'' : len2 ≤ 1048576 := hl2
  clear h2
  go_enter Try.func7, Try.ntmps7
  go_upto_region 4 with (go_at_call 23; (with_reducible refine (drawShareFar_is _ _ h).mono ?_); rintro e wd ⟨ls, X, n, P, c, Q, d, a, rfl, ⟨hXn, hQP, hwQ, oQ⟩, ⟨hln, hn6⟩, ⟨ha0, ha1⟩, hwP, ho, hb_wd⟩; have hs_wd := hb_wd.size; have HR := Lib.hid (And.intro ho.ints oQ.ints); have hPl := ho.lt; have hQl := oQ.lt; have HM := Lib.hid (And.intro hln hXn); clear ho hln oQ hXn)
  clear h
  by_cases hv : amtOk ls a = true ∧ rngOk ls X
  · obtain ⟨ham, hrg⟩ := hv
    obtain ⟨hlo, a0, a1⟩ := amtOk_true.1 ham
    obtain ⟨S, hS⟩ : ∃ S, tot ls = S := ⟨_, rfl⟩
    obtain ⟨F, hF⟩ : ∃ F, farL ls a X = F := ⟨_, rfl⟩
    have S0 : 0 < S := by have := pos_of hlo; omega
    have S1 : S ≤ 200000 := by have := tot_most hlo; omega
    have hn1 : 1 ≤ n := by have := (lenOk_true.1 hlo).1; have := HM.out.1; omega
    have hF0 : 0 ≤ F := by rw [← hF]; exact farL_nonneg
    have hF0' : ¬ F < 0 := by omega
    have hFm : F ≤ 120000000000000 := by
      have h1 := sig_le (n := ls.length) (f := far1 ls a X) (g := fun _ => 5000000000000) (fun i hi => by
        have hy := hrg.2 (nth X i) (nth_mem (by rw [hrg.1]; exact hi))
        have := far_prod ham (nth_mem hi) hy.1 hy.2
        unfold far1; omega)
      rw [sig_const] at h1
      unfold farL at hF
      have := HM.out.1
      omega
    obtain ⟨k, hk⟩ : ∃ k, len2 % n = k := ⟨_, rfl⟩
    have hkn : k < n := by rw [← hk]; exact Nat.mod_lt _ (by omega)
    have hkt : ((len2 : Int)).tmod (n : Int) = (k : Int) := by rw [← hk]; rfl
    have hn0 : ((n : Int) == 0) = false := by
      have : ¬ (n : Int) = 0 := by omega
      simpa using this
    have hn0' : ¬ (n : Int) = 0 := by omega
    obtain ⟨y, hy⟩ : ∃ y, nth X k = y := ⟨_, rfl⟩
    have hy' : X[k]? = some y := by rw [← hy]; exact at_nth (by have := HM.out.2; omega)
    obtain ⟨y0, y1⟩ := hrg.2 y (List.mem_of_getElem? hy')
    have c1 := fun w h hq => Lib.hid (iShareFar n c n d (some ⟨P, 0, none⟩) (some ⟨Q, 0, none⟩) ls X a F w h hq HM.out.1 HM.out.2 (by omega) (by omega) (farS_val ham hrg hF))
    have c2 := fun w h hq => Lib.hid (sShareFar n c n d (some ⟨P, 0, none⟩) (some ⟨Q, 0, none⟩) ls X a F w h hq HM.out.1 HM.out.2 (by omega) (by omega) (farS_val ham hrg hF))
    have c3 := fun w h => Lib.hid (lSum n c (some ⟨P, 0, none⟩) ls w h HM.out.1 (by omega) (fun z hz => by have := (lenOk_true.1 hlo).2.2.1 z hz; omega))
    rw [hS] at c3
    have HL := Lib.hid (And.intro hlo (And.intro ham (And.intro hrg (And.intro hS (And.intro hF hy')))))
    have hXl : (X.set k (y + 1)).length = n := by rw [List.length_set]; exact HM.out.2
    obtain ⟨G, hG⟩ : ∃ G, farS ls a (X.set k (y + 1)) = G := ⟨_, rfl⟩
    have c4 := fun (q : Option Addr) (e : Nat) w h hq => Lib.hid (iShareFar n c n e (some ⟨P, 0, none⟩) q ls (X.set k (y + 1)) a G w h hq HM.out.1 hXl (by omega) (by omega) hG)
    have hGc : (y < 20000000 ∧ 0 ≤ G ∧ G - F ≤ S ∧ -S ≤ G - F) ∨ (y = 20000000 ∧ G = -1) := by
      by_cases hyl : y < 20000000
      · left
        have hr2 : rngOk ls (X.set k (y + 1)) := ⟨by rw [List.length_set]; exact hrg.1, fun x hx => by
          obtain ⟨i, hi⟩ := List.getElem?_of_mem hx
          rw [List.getElem?_set] at hi
          split at hi
          · split at hi
            · simp at hi; omega
            · cases hi
          · exact hrg.2 x (List.mem_of_getElem? hi)⟩
        rw [farS_yes ham hr2] at hG
        have := far_step (a := a) (xs := X) (ys := X.set k (y + 1)) (k := k) hlo (by have := HM.out.1; omega) (by rw [set_nth (by have := HM.out.2; omega), hy]) (fun j hj hne => set_nth_ne hne)
        rw [hG, hF, hS] at this
        exact ⟨hyl, by rw [← hG]; exact farL_nonneg, this⟩
      · right
        refine ⟨by omega, ?_⟩
        rw [← hG]
        exact farS_no (fun hc => by
          have := hc.2.2 (y + 1) (List.mem_of_getElem? (i := k) (by rw [List.getElem?_set_self (by have := HM.out.2; omega)]))
          omega)
    have hGm : -1 ≤ G ∧ G ≤ 130000000000000 := by rcases hGc with h | h <;> omega
    obtain ⟨G0, G1⟩ := hGm
    have hS0' : 0 - S = -S := by omega
    clear hk hy hy' hlo ham hrg hS hF hG hXl
    go_upto_region 10 with (first | (go_at_call 20; (with_reducible refine ((c1 _ ?_ ?_).out).mono ?_); (focus ((exact HR.out.1); done)); (focus ((exact HR.out.2); done)); rintro e wi ⟨rfl, hb_wi⟩; have hs_wi := hb_wi.size; (try simp at hs_wi)) | (go_at_call 24; (with_reducible refine ((c2 _ ?_ ?_).out).mono ?_); (focus ((exact HR.out.1.below hb_wi); done)); (focus ((exact HR.out.2.below hb_wi); done)); rintro e ws ⟨rfl, hb_ws⟩; have hs_ws := hb_ws.size; (try simp at hs_ws)) | (go_at_call 18; (with_reducible refine ((c3 _ ?_).out).mono ?_); (focus (exact HR.out.1.below (by repeat (first | assumption | exact Below.refl _ _ | (refine below_chain ?_ (by assumption) (by first | omega | (simp <;> omega) | simp)) | (refine Below.alloc ?_ (by first | omega | (simp <;> omega) | simp) _) | (apply below_drewN) | (apply below_drew) | (refine Below.setCell ?_ (by first | omega | (simp <;> omega) | simp) _))); done)); rintro e w' ⟨rfl, rfl⟩))
    have hBd : Below wd.heap.size wd ws := (by repeat (first | assumption | exact Below.refl _ _ | (refine below_chain ?_ (by assumption) (by first | omega | (simp <;> omega) | simp)) | (refine Below.alloc ?_ (by first | omega | (simp <;> omega) | simp) _) | (apply below_drewN) | (apply below_drew) | (refine Below.setCell ?_ (by first | omega | (simp <;> omega) | simp) _)))
    have HX := Lib.hid (And.intro (HR.out.1.below hBd) (And.intro (HR.out.2.below hBd) (hb_wd.trans (hBd.mono hs_wd))))
    have hsW := HX.out.2.2.size
    have hds := hBd.size
    clear hb_wd hb_wi hb_ws hBd HR c1 c2 c3
    go_upto_region 11 with (at_builtin; refine wp_append _ rfl _ _ 23 rfl 3 _ 1 8 Try.underlying23 info_int rfl (by decide) (by decide) _ 0 0 [] rfl (Own.empty _ _ 1) _ _ _ X rfl (by rw [HM.out.2, Nat.mul_one]) (fun j z hj => by have := HX.out.2.1.alloc (.cells #[] 3); rcases this with rfl | ⟨B, o, e, hB, hc⟩; (simp at hj); (cases e; rw [Go.WideShapes.add_plain]; exact hc j z hj)) (by omega) ?_; intro g1 cap1 w1 hown hgr hloc hsz1; simp only [Nat.zero_add, List.nil_append] at hown ⊢; have hg1 : ws.heap.size ≤ g1 := (by rcases hloc with rfl | rfl <;> simp); have hb_w1 : Below ws.heap.size ws w1 := below_gr ((Below.refl _ _).alloc (Nat.le_refl _) _) hgr (Nat.le_refl _) (by simp); have hs_w1 := hb_w1.size; have HO1 := Lib.hid hown; clear hown hgr hloc)
    have e0 := HO1.out.cells HL.out.2.2.2.2.2
    have f0 := HO1.out.frozen k
    have hl1 := HO1.out.lt
    go_upto_region 12 with fail
    refine gen_world (fun W => Own W g1 3 1 n cap1 (X.set k (y + 1)) ∧ Below ws.heap.size ws W) ⟨HO1.out.set k (y + 1) (by have := HM.out.2; omega), Below.setCell hb_w1 (show ws.heap.size ≤ (⟨g1, k, none⟩ : Addr).block from hg1) _⟩ (fun we HE => ?_)
    have hse := HE.2.size
    have HE2 := Lib.hid HE
    clear HE e0 f0 hl1 HO1 hb_w1 hs_w1 hsz1
    go_upto_region 14 with ((go_at_call 20; (with_reducible refine ((c4 _ _ _ ?_ ?_).out).mono ?_); (focus ((exact HX.out.1.below HE2.out.2); done)); (focus ((exact HE2.out.1.ints); done)); rintro e wf ⟨rfl, hb_wf⟩; have hs_wf := hb_wf.size; (try simp at hs_wf)))
    have HY := Lib.hid (And.intro ((HX.out.1.below HE2.out.2).below hb_wf) (And.intro ((HX.out.2.1.below HE2.out.2).below hb_wf) ((HX.out.2.2.trans (HE2.out.2.mono hsW)).trans (hb_wf.mono (by omega)))))
    have hsf := HY.out.2.2.size
    clear HX HE2 hb_wf c4
    go_wp2_with fail
    go_loopw [14, 15] (fun v i wr => ∃ (j : Nat) (b : Bool), j ≤ n ∧ i = .int .i64 j ∧ v = .bool b ∧ (b = true ↔ ∀ i, i < j → nth X i * S = a * nth ls i) ∧ Below wf.heap.size wf wr) (fun _ i _ => n - (intOf i).toNat)
    case atStart => exact ⟨0, true, Nat.zero_le _, rfl, rfl, by simp, Below.refl _ _⟩
    case round =>
      obtain ⟨j, b, hj, rfl, rfl, hbb, hbr⟩ := hrel
      have hbs := hbr.size
      by_cases hlt : j < n
      · have hlt' : (j : Int) < (n : Int) := by omega
        obtain ⟨B, o, x, eq, hx, hB, e0⟩ := (HY.out.2.1.below hbr).at (i := j) (by have := HM.out.2; omega)
        cases eq
        obtain ⟨B', o', z, eq', hz, hB', e1⟩ := (HY.out.1.below hbr).at (i := j) (by have := HM.out.1; omega)
        cases eq'
        simp only [Nat.zero_add] at e0 e1
        obtain ⟨x0, x1⟩ := HL.out.2.2.1.2 x (List.mem_of_getElem? hx)
        obtain ⟨⟨p0, p1⟩, p2, p3⟩ := far_prod HL.out.2.1 (List.mem_of_getElem? hz) x0 x1
        rw [HL.out.2.2.2.1] at p0 p1
        have HZ := Lib.hid (And.intro hbb (And.intro hbr (And.intro (nth_at hx) (nth_at hz))))
        clear hbb hbr hx hz
        cases b
        · go_wp2_with fail
          (refine wp_region_grows (by kernel_rfl) (by kernel_rfl) ?_; intro W_wg hWc_wg hWs_wg hWe_wg; (repeat (go_big_quiet_step (fail))); with_reducible refine wpQuiet_nil ?_; clear hWe_wg hWs_wg hWc_wg W_wg; intro wg hb_wg; obtain ⟨hc_wg, hf_wg⟩ := bcell hb_wg; (try simp only [World.size_drew, World.cell?_drew, World.frozen?_drew, World.heap_drewN, World.cell?_drewN, World.frozen?_drewN] at hc_wg hf_wg); have hs_wg := hb_wg.size; (try simp at hs_wg))
          go_wp2_with fail
          go_roundw
          case rel => exact ⟨j + 1, false, by omega, by go_num, rfl, ⟨fun h => (by cases h), fun h => HZ.out.1.2 (fun i hi => h i (by omega))⟩, HZ.out.2.1.trans (hb_wg.mono hbs)⟩
          case measure => simp [intOf]; omega
        · go_wp2_with fail
          (refine wp_region_grows (by kernel_rfl) (by kernel_rfl) ?_; intro W_wg hWc_wg hWs_wg hWe_wg; (repeat (go_big_quiet_step (fail))); with_reducible refine wpQuiet_nil ?_; clear hWe_wg hWs_wg hWc_wg W_wg; intro wg hb_wg; obtain ⟨hc_wg, hf_wg⟩ := bcell hb_wg; (try simp only [World.size_drew, World.cell?_drew, World.frozen?_drew, World.heap_drewN, World.cell?_drewN, World.frozen?_drewN] at hc_wg hf_wg); have hs_wg := hb_wg.size; (try simp at hs_wg))
          go_wp2_with fail
          go_roundw
          case rel => exact ⟨j + 1, x * S == a * z, by omega, by go_num, rfl, by
            rw [beq_iff_eq]
            constructor
            · intro h i hi
              by_cases e : i = j
              · subst e; rw [HZ.out.2.2.1, HZ.out.2.2.2]; exact h
              · exact HZ.out.1.1 (by first | trivial | rfl) i (by omega)
            · intro h
              have := h j (by omega)
              rw [HZ.out.2.2.1, HZ.out.2.2.2] at this; exact this, HZ.out.2.1.trans (hb_wg.mono hbs)⟩
          case measure => simp [intOf]; omega
      · have e : j = n := by omega
        subst e
        have hb2 : b = (F == 0) := by
          have h1 := far_zero (ls := ls) (a := a) (xs := X)
          rw [HL.out.2.2.2.2.1, HL.out.2.2.2.1, HM.out.1] at h1
          rw [← h1] at hbb
          cases b
          · exact (beq_eq_false_iff_ne.2 (fun h => by have := hbb.2 h; cases this)).symm
          · exact (beq_iff_eq.2 (hbb.1 rfl)).symm
        obtain ⟨B, o, x, eq, hx, hB, e0⟩ := (HY.out.2.1.below hbr).at (i := k) (by have := HM.out.2; omega)
        cases eq
        simp only [Nat.zero_add] at e0
        obtain rfl : x = y := by have := HL.out.2.2.2.2.2; rw [this] at hx; exact (Option.some.inj hx).symm
        have hkn' : (k : Int) < (j : Int) := by omega
        have HZ := Lib.hid (HY.out.2.2.trans (hbr.mono hsf))
        clear hbb hbr hx hlt
        subst hb2
        have hFF : ((F == 0) == (F == 0)) = true := by simp
        rcases hGc with ⟨hy1, hG2, hG3, hG4⟩ | ⟨hy1, hG2⟩
        · have hy2 : ¬ x = 20000000 := by omega
          have hy3 : (x == 20000000) = false := by simpa using hy2
          go_wp2_with fail
          go_ret
          exact ⟨rfl, HZ.out⟩
        · subst hG2
          have hG3 : -1 - F ≤ S := by omega
          by_cases hG4 : -S ≤ -1 - F
          · go_wp2_with fail
            go_ret
            exact ⟨rfl, HZ.out⟩
          · go_wp2_with fail
            go_ret
            exact ⟨rfl, HZ.out⟩
  · have hv' := farS_no hv
    have c1 := fun w h hq => Lib.hid (iShareFar n c n d (some ⟨P, 0, none⟩) (some ⟨Q, 0, none⟩) ls X a (-1) w h hq HM.out.1 HM.out.2 (by omega) (by omega) hv')
    have c2 := fun w h hq => Lib.hid (sShareFar n c n d (some ⟨P, 0, none⟩) (some ⟨Q, 0, none⟩) ls X a (-1) w h hq HM.out.1 HM.out.2 (by omega) (by omega) hv')
    clear hv hv'
    go_wp2_with (first | (go_at_call 20; (with_reducible refine ((c1 _ ?_ ?_).out).mono ?_); (focus ((exact HR.out.1); done)); (focus ((exact HR.out.2); done)); rintro e wi ⟨rfl, hb_wi⟩; have hs_wi := hb_wi.size; (try simp at hs_wi)) | (go_at_call 24; (with_reducible refine ((c2 _ ?_ ?_).out).mono ?_); (focus ((exact HR.out.1.below hb_wi); done)); (focus ((exact HR.out.2.below hb_wi); done)); rintro e ws ⟨rfl, hb_ws⟩; have hs_ws := hb_ws.size; (try simp at hs_ws)))
    go_ret
    exact ⟨rfl, (by repeat (first | assumption | exact Below.refl _ _ | (refine below_chain ?_ (by assumption) (by first | omega | (simp <;> omega) | simp)) | (refine Below.alloc ?_ (by first | omega | (simp <;> omega) | simp) _) | (apply below_drewN) | (apply below_drew) | (refine Below.setCell ?_ (by first | omega | (simp <;> omega) | simp) _)))⟩

set_option maxRecDepth 100000 in
theorem walk_long (len cap : Nat) (p : Option Addr) (len1 cap1 : Nat) (p1 : Option Addr) (w : World) (hl : 1048576 < len ∨ 1048576 < len1) :
    Calls Try.prog 7 #[.slice p len cap, .slice p1 len1 cap1] w fun e w' => e = .returned (.bool true) ∧ Below w.heap.size w w' := by
  by_cases h0 : (1048576 : Int) < (len : Int)
  · go_enter Try.func7, Try.ntmps7
    go_wp2
    go_ret
    exact ⟨rfl, Below.refl _ _⟩
  · have hl' : (1048576 : Int) < (len1 : Int) := by omega
    clear hl
    go_enter Try.func7, Try.ntmps7
    go_wp2
    go_ret
    exact ⟨rfl, Below.refl _ _⟩

set_option maxRecDepth 100000 in
theorem lifted (os : Os) (started : os.Started) (H : Type) (enc : TypeId × Value → H) :
    ReturnsInHanded {} Try.checked os 7 .any (Rows.fnShareFarSpec.pre6 enc Try.prog Try.f7 Rows.fnShareFarRow.domain false) (Rows.fnShareFarSpec.post enc Try.prog Try.f7 false true false false) := by
  refine returnsInHanded_of_change (C := Try.checked) own started (by kernel_rfl) Try.func7
    (ChangeSpec.witness6 (enc := enc) (C := Try.checked) false ⟨#[], #[.slice none 0 0, .slice none 0 0], []⟩ 8 (by kernel_rfl) (by kernel_rfl) (by kernel_rfl) (by kernel_rfl)) ?_
  intro W base args ds gs before hval0 hW hcnd _
  have hval : ∀ (j : Nat) t v, Try.f7.params[j]? = some t → args[j]? = some v → Value.okWide Try.prog W .any base t v := hval0
  have hW' := hW
  obtain ⟨p, q, hA0, hV, rfl, hfz, hnd⟩ := hW
  have hA : DataW.TrodAll enc Try.prog W 0 (fun _ => true) true Try.f7.params.toList args.toList ds p := hA0
  rw [Try.params7] at hA hval
  obtain ⟨v0, vs0, d0, ds0, p0, q0, hargs, rfl, rfl, h0, r0⟩ := trodAll_cons hA
  obtain ⟨v1, vs1, d1, ds1, p1, q1, rfl, rfl, rfl, h1, r1⟩ := trodAll_cons r0
  obtain ⟨rfl, rfl, rfl⟩ := trodAll_nil r1
  obtain rfl : args = #[v0, v1] := by cases args; simp_all
  obtain ⟨rfl, rfl⟩ := trodVars_none hV
  obtain ⟨a0, len0, cap0, rfl⟩ := okWide_slice Try.underlying22 (hval 0 22 v0 rfl rfl)
  have k0 := h0
  have lt0 : ∀ x ∈ p0, x.block < W.heap.size := by obtain ⟨m, hm⟩ := k0; exact DataW.trod_lt m _ _ _ hm
  obtain ⟨z0, w0⟩ : ∃ zs, IsRow .u8 W a0 len0 cap0 zs := by
    obtain ⟨fuel, hf⟩ := h0
    rcases open_ints Try.underlying22 Try.underlying5 (by kernel_rfl) hf with ⟨hcs, _⟩ | ⟨x, l, c, zs, hcs, _, hl, hm, hz, _, hcell, hwz⟩
    · simp [Value.cells] at hcs
      obtain ⟨rfl, rfl, rfl⟩ := hcs
      exact ⟨[], .inl ⟨rfl, rfl, rfl, rfl⟩⟩
    · simp [Value.cells] at hcs
      obtain ⟨rfl, rfl, rfl⟩ := hcs
      exact ⟨zs, .inr ⟨_, rfl, hl, hm, by simpa using hz, hcell, hwz⟩⟩
  obtain ⟨a1, len1, cap1, rfl⟩ := okWide_slice Try.underlying22 (hval 1 22 v1 rfl rfl)
  have k1 := h1
  have lt1 : ∀ x ∈ p1, x.block < W.heap.size := by obtain ⟨m, hm⟩ := k1; exact DataW.trod_lt m _ _ _ hm
  obtain ⟨z1, w1⟩ : ∃ zs, IsRow .u8 W a1 len1 cap1 zs := by
    obtain ⟨fuel, hf⟩ := h1
    rcases open_ints Try.underlying22 Try.underlying5 (by kernel_rfl) hf with ⟨hcs, _⟩ | ⟨x, l, c, zs, hcs, _, hl, hm, hz, _, hcell, hwz⟩
    · simp [Value.cells] at hcs
      obtain ⟨rfl, rfl, rfl⟩ := hcs
      exact ⟨[], .inl ⟨rfl, rfl, rfl, rfl⟩⟩
    · simp [Value.cells] at hcs
      obtain ⟨rfl, rfl, rfl⟩ := hcs
      exact ⟨zs, .inr ⟨_, rfl, hl, hm, by simpa using hz, hcell, hwz⟩⟩
  clear hA0 hval0
  have hw : Calls Try.prog 7 #[.slice a0 len0 cap0, .slice a1 len1 cap1] W fun e w' => e = .returned (.bool true) ∧ Below W.heap.size W w' := by
    by_cases hl : len0 ≤ 1048576
    · by_cases hm : len1 ≤ 1048576
      · exact walk len0 cap0 a0 len1 cap1 a1 W hl hm (Lib.hid (code_of_row w0 hl)) (Lib.hid (code_of_row w1 hm))
      · exact walk_long len0 cap0 a0 len1 cap1 a1 W (by omega)
    · exact walk_long len0 cap0 a0 len1 cap1 a1 W (by omega)
  refine hw.mono fun e W' ⟨he, bel⟩ => ?_
  subst he
  exact ⟨_, rfl, _, _, _, [], _, [], hW', trodAll_mk1 (shut_bool Try.underlying4 _), (trodAll_cons_mk (Below.trod laidOut (by kernel_rfl) (of_decide_eq_true (by kernel_rfl)) k0 bel lt0) (trodAll_cons_mk (Below.trod laidOut (by kernel_rfl) (of_decide_eq_true (by kernel_rfl)) k1 bel lt1) trodAll_mk0)), rfl, bel.frame _, fun h => by cases h⟩

theorem over : Rows.fnShareFarRow.holds Try.pinned (OpenSpec.ofChange Rows.fnShareFarSpec) :=
  OpenClaim.holds_of_wide 7 Try.f7 rfl rfl rfl rfl rfl rfl rfl ⟨rfl, rfl, rfl, rfl, rfl⟩ rfl rfl rfl rfl rfl (by kernel_rfl) Try.func7 (by kernel_rfl)
    (of_decide_eq_true (by kernel_rfl)) (by unfold Func.isWrapper; first | (rw [if_pos (by decide +kernel)]; kernel_rfl) | (rw [if_neg (by decide +kernel)]; exact ⟨rfl, rfl⟩))
    (fun os started H enc _ => lifted os started H enc)

theorem proved : Rows.FnShareFarSaid := over
end Go.Proofs.Ytjfbkafekkbcdaa.fnShareFar

