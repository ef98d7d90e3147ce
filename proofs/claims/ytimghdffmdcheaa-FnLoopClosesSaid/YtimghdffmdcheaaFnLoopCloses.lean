/-
  For every two codes the law FnLoopCloses returns true: impl.LoopCloses answers as the reference model does; the heights of the first tree of a net that closes fit it, and with one run 1 higher it closes exactly if it is not whole without this run. No condition: every two lists of bytes are taken.
-/
import Derived.Test.YtimghdffmdcheaaLv
import Derived.Test.YtimghdffmdcheaaDNj
import Derived.Test.YtimghdffmdcheaaDNa
import Derived.Test.YtimghdffmdcheaaCode
namespace Go.Proofs.Ytimghdffmdcheaa.fnLoopCloses
open Go.ChangeShapes Go.WideShapes Go.ChangeAt Go.RowKit
set_option linter.unusedVariables false

theorem set_at {rs : List Rn} {k : Nat} {x r : Rn} {i : Nat} (h : (rs.set k x)[i]? = some r) : r = x ∨ rs[i]? = some r := by
  rw [List.getElem?_set] at h
  split at h
  · split at h
    · simp at h; exact .inl h.symm
    · cases h
  · exact .inr h
theorem set_ok {N : Nat} {rs : List Rn} {k : Nat} {r : Rn} (hn : nOk N rs = true) (hr : rs[k]? = some r) {z : Int} (h1 : -100000 ≤ z) (h2 : z ≤ 100000) : nOk N (rs.set k { r with s := z }) = true := by
  obtain ⟨a, b, c, d⟩ := nOk_true hn
  refine nOk_of a b (by rw [List.length_set]; exact c) (fun i x hx => ?_)
  rcases set_at hx with rfl | hx
  · obtain ⟨q1, q2, q3, q4, q5, q6, q7, q8, q9⟩ := rOk_true (d k r hr)
    exact rOk_of q1 q2 q3 q4 q5 h1 h2 q8 q9
  · exact d i x hx
theorem set_whole {N : Nat} {rs : List Rn} {k : Nat} {r : Rn} (hw : nWhole N rs = true) (hr : rs[k]? = some r) {z : Int} (hv : nOk N (rs.set k { r with s := z }) = true) : nWhole N (rs.set k { r with s := z }) = true := by
  have hk := (List.getElem?_eq_some_iff.1 hr).1
  refine whole_mono hv (fun x hx => ?_) hw
  obtain ⟨i, hi⟩ := List.getElem?_of_mem hx
  by_cases e : i = k
  · subst e
    obtain rfl : r = x := by rw [hr] at hi; exact Option.some.inj hi
    exact Same.run (r := { r with s := z }) (List.mem_of_getElem? (i := i) (by rw [List.getElem?_set_self hk]))
  · exact Same.run (List.mem_of_getElem? (i := i) (by rw [List.getElem?_set_ne (by omega)]; exact hi))
theorem whole_some {N : Nat} {rs : List Rn} (hw : nWhole N rs = true) : 0 < rs.length := by
  have ht := first_tree hw
  have h1 := ht.len
  have h2 := (nOk_true ht.ok).1
  cases rs with
  | nil => simp [firstT] at h1; omega
  | cons r rs => simp
theorem runs_drop {w : World} {B o k : Nat} {rs : List Rn} (h : Runs w (some ⟨B, o, none⟩) rs) : Runs w (some ⟨B, o + k * 4, none⟩) (rs.drop k) := by
  rcases h with rfl | ⟨B', o', e, hB, hc⟩
  · exact .inl (by simp)
  · simp at e
    obtain ⟨rfl, rfl⟩ := e
    refine .inr ⟨_, _, rfl, hB, fun i r hi => ?_⟩
    rw [show o + k * 4 + i * 4 = o + (k + i) * 4 by omega]
    exact hc (k + i) r (by rw [← hi, List.getElem?_drop])

set_option maxHeartbeats 8000000 in
set_option maxRecDepth 100000 in
theorem walk (len cap : Nat) (p : Option Addr) (len2 cap2 : Nat) (p2 : Option Addr) (w : World) (hl : len ≤ 1048576) (hl2 : len2 ≤ 1048576) (h : Hid (Code' w (.slice p len cap))) (h2 : Hid (Code' w (.slice p2 len2 cap2))) :
    Calls Try.prog 7 #[.slice p len cap, .slice p2 len2 cap2] w fun e w' => e = .returned (.bool true) ∧ Below w.heap.size w w' := by
  have hl' : ¬ (1048576 : Int) < (len : Int) := by omega
  have hl2' : ¬ (1048576 : Int) < (len2 : Int) := by omega
  have hl2'' : len2 ≤ 1048576 := hl2
  clear h2
  go_enter Try.func7, Try.ntmps7
  go_upto_region 4 with (go_at_call 36; (with_reducible refine (drawCloses_is _ _ h).mono ?_); rintro e wd ⟨N, m, rs, P, ⟨c, hmc, rfl⟩, ⟨hmm, ⟨hN2, hN6⟩, hm8, hns⟩, hR, hb_wd⟩; have hs_wd := hb_wd.size; have HR := Lib.hid hR; have HM := Lib.hid (And.intro hmm hns); clear hR hmm hns)
  clear h
  cases hw : nWhole N rs with
  | false =>
    have c1 := fun w h => Lib.hid (iCloses_no N m (some ⟨P, 0, none⟩) c rs w h HM.out.1 (by omega) hw)
    have c2 := fun w h => Lib.hid (sCloses_no N m (some ⟨P, 0, none⟩) c rs w h HM.out.1 (by omega) hw)
    clear hw
    go_wp2_with (first | (go_at_call 34; (with_reducible refine ((c1 _ ?_).out).mono ?_); (focus ((exact HR.out); done)); rintro e wi ⟨rfl, hb_wi⟩; have hs_wi := hb_wi.size; (try simp at hs_wi)) | (go_at_call 37; (with_reducible refine ((c2 _ ?_).out).mono ?_); (focus ((exact HR.out.below hb_wi); done)); rintro e ws ⟨rfl, hb_ws⟩; have hs_ws := hb_ws.size; (try simp at hs_ws)))
    go_ret
    exact ⟨rfl, (by repeat (first | assumption | exact Below.refl _ _ | (refine below_chain ?_ (by assumption) (by first | omega | (simp <;> omega) | simp)) | (refine Below.alloc ?_ (by first | omega | (simp <;> omega) | simp) _) | (apply below_drewN) | (apply below_drew) | (refine Below.setCell ?_ (by first | omega | (simp <;> omega) | simp) _)))⟩
  | true =>
    obtain ⟨b, hb⟩ : ∃ b, closes N rs = b := ⟨_, rfl⟩
    have c1 := fun w h => Lib.hid (iCloses_yes N m (some ⟨P, 0, none⟩) c rs b w h HM.out.1 hw hb)
    have c2 := fun w h => Lib.hid (sCloses_yes N m (some ⟨P, 0, none⟩) c rs b w h HM.out.1 hw hb)
    have ht := first_tree hw
    have c3 := fun w h => Lib.hid (iFirst_yes N m (some ⟨P, 0, none⟩) c rs w h HM.out.1 hw)
    have c4 := fun (K d : Nat) (q : Option Addr) w h hq hK => Lib.hid (iTreeHeights_yes N m K (some ⟨P, 0, none⟩) q c d rs (firstT N rs rs.length) w h hq HM.out.1 hK ht)
    have HZ := Lib.hid (And.intro hw hb)
    have hm0 : 0 < m := by have := whole_some hw; have := HM.out.1; omega
    clear hw hb ht
    cases b
    · clear c3 c4
      go_wp2_with (first | (go_at_call 34; (with_reducible refine ((c1 _ ?_).out).mono ?_); (focus ((exact HR.out); done)); rintro e wi ⟨rfl, hb_wi⟩; have hs_wi := hb_wi.size; (try simp at hs_wi)) | (go_at_call 37; (with_reducible refine ((c2 _ ?_).out).mono ?_); (focus ((exact HR.out.below hb_wi); done)); rintro e ws ⟨rfl, hb_ws⟩; have hs_ws := hb_ws.size; (try simp at hs_ws)))
      go_ret
      exact ⟨rfl, (by repeat (first | assumption | exact Below.refl _ _ | (refine below_chain ?_ (by assumption) (by first | omega | (simp <;> omega) | simp)) | (refine Below.alloc ?_ (by first | omega | (simp <;> omega) | simp) _) | (apply below_drewN) | (apply below_drew) | (refine Below.setCell ?_ (by first | omega | (simp <;> omega) | simp) _)))⟩
    · obtain ⟨k, hk⟩ : ∃ k, len2 % m = k := ⟨_, rfl⟩
      have hkm : k < m := by rw [← hk]; exact Nat.mod_lt _ (by omega)
      have hkt : ((len2 : Int)).tmod (m : Int) = (k : Int) := by rw [← hk]; rfl
      have hm0' : ((m : Int) == 0) = false := by
        have : ¬ (m : Int) = 0 := by omega
        simpa using this
      have hm0'' : ¬ (m : Int) = 0 := by omega
      clear hk
      go_upto_region 13 with (first | (go_at_call 34; (with_reducible refine ((c1 _ ?_).out).mono ?_); (focus ((exact HR.out); done)); rintro e wi ⟨rfl, hb_wi⟩; have hs_wi := hb_wi.size; (try simp at hs_wi)) | (go_at_call 37; (with_reducible refine ((c2 _ ?_).out).mono ?_); (focus ((exact HR.out.below hb_wi); done)); rintro e ws ⟨rfl, hb_ws⟩; have hs_ws := hb_ws.size; (try simp at hs_ws)) | ((go_at_call 28; (with_reducible refine ((c3 _ ?_).out).mono ?_); (focus ((exact HR.out.below (by repeat (first | assumption | exact Below.refl _ _ | (refine below_chain ?_ (by assumption) (by first | omega | (simp <;> omega) | simp)) | (refine Below.alloc ?_ (by first | omega | (simp <;> omega) | simp) _) | (apply below_drewN) | (apply below_drew) | (refine Below.setCell ?_ (by first | omega | (simp <;> omega) | simp) _)))); done)); rintro e wf ⟨gf, cf, K, rfl, hK, hgf, of, hb_wf⟩; have hs_wf := hb_wf.size; (try simp at hs_wf)); have OF := Lib.hid (And.intro hK of); clear hK of) | ((go_at_call 29; (with_reducible refine ((c4 _ _ _ _ ?_ ?_ ?_).out).mono ?_); (focus ((exact HR.out.below (by repeat (first | assumption | exact Below.refl _ _ | (refine below_chain ?_ (by assumption) (by first | omega | (simp <;> omega) | simp)) | (refine Below.alloc ?_ (by first | omega | (simp <;> omega) | simp) _) | (apply below_drewN) | (apply below_drew) | (refine Below.setCell ?_ (by first | omega | (simp <;> omega) | simp) _)))); done)); (focus ((exact OF.out.2.ints); done)); (focus ((exact OF.out.1); done)); rintro e wh ⟨L, gh, rfl, hht, hgh, oh, hb_wh⟩; have hs_wh := hb_wh.size; (try simp at hs_wh)); have OH := Lib.hid (And.intro hht oh); clear hht oh))
      have hBd : Below wd.heap.size wd wh := (by repeat (first | assumption | exact Below.refl _ _ | (refine below_chain ?_ (by assumption) (by first | omega | (simp <;> omega) | simp)) | (refine Below.alloc ?_ (by first | omega | (simp <;> omega) | simp) _) | (apply below_drewN) | (apply below_drew) | (refine Below.setCell ?_ (by first | omega | (simp <;> omega) | simp) _)))
      have HB := Lib.hid (And.intro (hb_wd.trans (hBd.mono hs_wd)) (HR.out.below hBd))
      have hsW := HB.out.1.size
      have hghl : gh < wh.heap.size := OH.out.2.lt
      have hPl : P < wh.heap.size := by
        obtain ⟨B, o, r, e, -, hB, -⟩ := HB.out.2.at (i := 0) (by have := HM.out.1; omega)
        cases e; exact hB
      clear hb_wd hb_wi hb_ws hb_wf hb_wh hBd HR c1 c2 c3 c4
      have HF : Hid ((flat rs).length = m * 4) := Lib.hid (by rw [flat_len, HM.out.1])
      go_upto_region 14 with (at_builtin; refine wp_append _ rfl _ _ 23 rfl 42 _ 4 32 Try.underlying23 info_run rfl (by decide) (by decide) _ 0 0 [] rfl (Own.empty _ _ 4) _ _ _ (flat rs) rfl HF.out (runs_cells (HB.out.2.alloc _)) (by omega) ?_; intro g1 cap1 wb hown hg hloc hsz; simp only [Nat.zero_add, List.nil_append] at hown ⊢; have hg1 : wh.heap.size ≤ g1 := (by rcases hloc with rfl | rfl <;> simp); have hb_wb : Below wh.heap.size wh wb := below_gr ((Below.refl _ _).alloc (Nat.le_refl _) _) hg (Nat.le_refl _) (by simp); have hs_wb := hb_wb.size; have hlo1 := hown.lt; have HO1 := Lib.hid hown; clear hown hg hloc)
      obtain ⟨r, hr⟩ : ∃ r, rs[k]? = some r := ⟨_, List.getElem?_eq_getElem (by have := HM.out.1; omega)⟩
      have hn := whole_ok HZ.out.1
      obtain ⟨s, hs⟩ : ∃ s, r.s = s := ⟨_, rfl⟩
      have hs49 := HM.out.2 hn k r hr
      rw [hs] at hs49
      obtain ⟨s1, s2⟩ := hs49
      have x2 := (HO1.out.runAt hr).2.2.1
      rw [hs] at x2
      have f2 := HO1.out.frozen (k * 4 + 2)
      have HK := Lib.hid (And.intro hr hs)
      clear hr hs hn
      go_upto_region 15 with fail
      refine gen_world (fun W => Own W g1 42 4 m cap1 (flat (rs.set k { r with s := r.s + 1 })) ∧ Below wh.heap.size wh W) ⟨by have := HO1.out.setS HK.out.1 (r.s + 1); rw [HK.out.2] at this ⊢; exact this, Below.setCell hb_wb (show wh.heap.size ≤ (⟨g1, k * 4 + 2, none⟩ : Addr).block from hg1) _⟩ (fun we HE => ?_)
      obtain ⟨O2, B2⟩ := HE
      have hRe := HB.out.2.below B2
      have hse := B2.size
      have HE := Lib.hid (And.intro O2 (And.intro B2 hRe))
      clear O2 B2 hRe hb_wb hs_wb hsz HO1 x2 f2 OF
      have hkm1 : (k : Int) ≤ (m : Int) := by omega
      have hkc : (k : Int) ≤ (c : Int) := by omega
      have hkc' : k ≤ c := by omega
      have hk0 : (0 : Int) ≤ (k : Int) := by omega
      have hJ1 : ((k : Int) + 1) ≤ (m : Int) := by omega
      have hJ0 : (0 : Int) ≤ ((k : Int) + 1) := by omega
      have hJt : (((k : Int) + 1) : Int).toNat = (k + 1) := by omega
      have hJ2 : ((k : Int) + 1) ≤ (c : Int) := by omega
      have hc0 : ¬ c = 0 := by omega
      obtain ⟨o2, c2, ho2, hv8⟩ : ∃ o2 c2, Runs we (some ⟨P, o2, none⟩) (rs.drop (k + 1)) ∧ ((c = k + 1 ∧ o2 = 0 ∧ c2 = 0) ∨ (¬ c = k + 1 ∧ o2 = (k + 1) * 4 ∧ c2 = c - (k + 1))) := by
        by_cases e : c = k + 1
        · exact ⟨0, 0, .inl (List.drop_eq_nil_of_le (by have := HM.out.1; omega)), .inl ⟨e, rfl, rfl⟩⟩
        · exact ⟨_, _, by have := runs_drop (k := k + 1) HE.out.2.2; rw [Nat.zero_add] at this; exact this, .inr ⟨e, rfl, rfl⟩⟩
      have HV := Lib.hid (And.intro ho2 hv8)
      clear ho2 hv8
      refine wp_region_any (by kernel_rfl) ?_
      change wpAny _ _ _ _ _ _ _ (World.drew _)
      refine wpAny_take (i := 1) (v := .slice (some ⟨P, 0, none⟩) m c) rfl (by kernel_rfl) (by kernel_rfl) (by kernel_rfl) (fun _ _ _ h => h) (Or.inl ⟨by rfl, ?_⟩) ?_
      focus ((intro w; go_simp); (try exact wrap_id (by omega) (by omega)); done)
      refine wpAny_take (i := 2) (v := .int .i64 k) rfl (by kernel_rfl) (by kernel_rfl) (by kernel_rfl) (fun _ _ _ h => h) (Or.inl ⟨by rfl, ?_⟩) ?_
      focus ((intro w; go_simp); (try exact wrap_id (by omega) (by omega)); done)
      refine wpAny_take (i := 3) (v := .slice (some ⟨P, 0, none⟩) k c) rfl (by kernel_rfl) (by kernel_rfl) (by kernel_rfl) (fun _ _ _ h => h) (Or.inl ⟨by rfl, ?_⟩) ?_
      focus ((intro w; go_simp); (try exact wrap_id (by omega) (by omega)); done)
      refine wpAny_take (i := 5) (v := .slice (some ⟨P, 0, none⟩) m c) rfl (by kernel_rfl) (by kernel_rfl) (by kernel_rfl) (fun _ _ _ h => h) (Or.inl ⟨by rfl, ?_⟩) ?_
      focus ((intro w; go_simp); (try exact wrap_id (by omega) (by omega)); done)
      refine wpAny_take (i := 6) (v := .int .i64 k) rfl (by kernel_rfl) (by kernel_rfl) (by kernel_rfl) (fun _ _ _ h => h) (Or.inl ⟨by rfl, ?_⟩) ?_
      focus ((intro w; go_simp); (try exact wrap_id (by omega) (by omega)); done)
      refine wpAny_take (i := 7) (v := .int .i64 ((k : Int) + 1)) rfl (by kernel_rfl) (by kernel_rfl) (by kernel_rfl) (fun _ _ _ h => h) (Or.inl ⟨by rfl, ?_⟩) ?_
      focus ((intro w; go_simp); (try exact wrap_id (by omega) (by omega)); done)
      refine wpAny_take (i := 8) (v := .slice (some ⟨P, o2, none⟩) (m - (k + 1)) c2) rfl (by kernel_rfl) (by kernel_rfl) (by kernel_rfl) (fun _ _ _ h => h) (Or.inl ⟨by rfl, ?_⟩) ?_
      focus
        obtain ⟨-, ⟨e1, e2, e3⟩ | ⟨e1, e2, e3⟩⟩ := HV.out
        · subst e1 e2 e3
          have e4 : m = k + 1 := by omega
          subst e4
          intro w; go_simp; done
        · have hc1 : ¬ c ≤ (k + 1) := by omega
          have hc2 : ¬ (c : Int) = ((k : Int) + 1) := by omega
          have hc3 : ((k : Int) + 1) < (c : Int) := by omega
          have hc4 : ¬ c - (k + 1) = 0 := by omega
          have hc5 : (k + 1) < c := by omega
          subst e2 e3
          intro w; go_simp; done
      refine wpAny_ready (rs := [0]) (by kernel_rfl) (by simp) ?_
      refine AllReady.cons rfl (fun K' hK => ?_) AllReady.nil
      go_simp
      refine hK _ _ ?_
      clear hK K'
      obtain ⟨gy, cy, w2, hrun, ho2, hg2, hl2⟩ := run_app (P := Try.prog) (we.drew.alloc (.cells #[] 42)) 23 23 42 _ 4 32 Try.underlying23 info_run rfl (by decide) (by decide) we.drew.heap.size 0 0 [] (Own.empty _ _ _) ⟨P, 0, none⟩ k c (flat (rs.take k)) (by rw [flat_len, List.length_take, HM.out.1]; congr 1; omega) (runs_cells (runs_take ((show Runs we.drew (some ⟨P, 0, none⟩) rs from HE.out.2.2).alloc _) k)) (by omega)
      refine wpAny_all (rs := [4]) (by kernel_rfl) (by simp) (fun i hi => ?_)
      obtain rfl : i = 4 := by simpa using hi
      refine wpOp_append rfl rfl _ _ 23 rfl rfl rfl hrun ?_
      have hP2 : ¬ P = we.drew.heap.size := by have : we.drew.heap.size = we.heap.size := rfl; omega
      have hRt : Runs w2 (some ⟨P, o2, none⟩) (rs.drop (k + 1)) := ((show Runs we.drew (some ⟨P, o2, none⟩) (rs.drop (k + 1)) from HV.out.1).alloc (.cells #[] 42)).grown hg2 (fun o e => by (simp at e) <;> exact hP2 e.1)
      obtain ⟨gz, cz, w3, hrun3, ho3, hg3, hl3⟩ := run_app (P := Try.prog) w2 23 23 42 _ 4 32 Try.underlying23 info_run rfl (by decide) (by decide) gy (0 + k) cy ([] ++ flat (rs.take k)) ho2 ⟨P, o2, none⟩ (m - (k + 1)) c2 (flat (rs.drop (k + 1))) (by rw [flat_len, List.length_drop, HM.out.1]) (runs_cells hRt) (by omega)
      have hKk : 0 + k + (m - (k + 1)) = m - 1 := by omega
      rw [hKk] at hrun3 ho3
      refine wpAny_all (rs := [9]) (by kernel_rfl) (by simp) (fun i hi => ?_)
      obtain rfl : i = 9 := by simpa using hi
      refine wpOp_append rfl rfl _ _ 23 rfl rfl rfl hrun3 ?_
      refine wpAny_take (i := 10) (v := .slice (some ⟨gz, 0, none⟩) (m - 1) cz) rfl (by kernel_rfl) (by kernel_rfl) (by kernel_rfl) (fun _ _ _ h => h) (Or.inl ⟨by rfl, ?_⟩) ?_
      focus ((intro w; go_simp); done)
      refine wpAny_done (by kernel_rfl) ?_ _
      have hsd : we.drew.heap.size = we.heap.size := rfl
      have hz2 := hg2.size
      have hz3 := hg3.size
      (try simp at hz2)
      have hgy : we.heap.size ≤ gy := by rcases hl2 with e | e; (omega); (simp at e; omega)
      have hgz : we.heap.size ≤ gz := by rcases hl3 with e | e; (omega); (omega)
      have hb1 : Below we.heap.size we (we.drew.alloc (.cells #[] 42)) := (show Below we.heap.size we we.drew from ⟨rfl, rfl, rfl, Nat.le_refl _, fun _ _ => rfl⟩).alloc (by omega) _
      have hb2 : Below we.heap.size we w2 := below_gr hb1 hg2 (by omega) (by simp)
      have hb3 : Below we.heap.size we w3 := below_gr hb2 hg3 (by omega) (by omega)
      have hs3 := hb3.size
      have hXL : ([] ++ flat (rs.take k) ++ flat (rs.drop (k + 1)) : List Int) = flat (rs.take k ++ rs.drop (k + 1)) := by rw [flat_append]; simp
      rw [hXL] at ho3
      obtain ⟨rest, hrest⟩ : ∃ rest, rs.take k ++ rs.drop (k + 1) = rest := ⟨_, rfl⟩
      rw [hrest] at ho3
      have hrl : rest.length = m - 1 := ho3.lenR
      have hBw : Below w.heap.size w w3 := HB.out.1.trans ((HE.out.2.1.trans (hb3.mono hse)).mono hsW)
      have hsx := hBw.size
      have hn := whole_ok HZ.out.1
      have hvx : nOk N (rs.set k { r with s := r.s + 1 }) = true := set_ok hn HK.out.1 (by have := HK.out.2; omega) (by have := HK.out.2; omega)
      have hwx := set_whole HZ.out.1 HK.out.1 hvx
      have hcx := closes_up HZ.out.2 HK.out.1 hvx
      rw [hrest] at hcx
      obtain ⟨v, hv⟩ : ∃ v, nWhole N rest = v := ⟨_, rfl⟩
      rw [hv] at hcx
      have hxl : (rs.set k { r with s := r.s + 1 }).length = m := by rw [List.length_set]; exact HM.out.1
      have c1 := fun w h => Lib.hid (iCloses_yes N m (some ⟨g1, 0, none⟩) cap1 _ (!v) w h hxl hwx hcx)
      have c3 := fun w h => Lib.hid (iWhole_n (p := some ⟨gz, 0, none⟩) (c := cz) w hrl h (by omega) hv)
      have hfit : nFits N rs L = true := by
        rw [noErr_fits HZ.out.1 OH.out.1, ← noErr_closes HZ.out.1]; exact HZ.out.2
      have c5 := fun w h hh => Lib.hid (iFits_at (q := some ⟨P, 0, none⟩) (c := c) (p := some ⟨gh, 0, none⟩) (d := N) w HM.out.1 OH.out.1.len h hh (by omega) hN6 hfit)
      have HY := Lib.hid (And.intro (HE.out.2.2.below hb3) (And.intro ((HE.out.1.below hb3).runs) (And.intro ho3.runs (And.intro ((OH.out.2.below (HE.out.2.1.trans (hb3.mono hse))).ints) hBw))))
      clear hrun hrun3 ho2 hg2 hl2 ho3 hg3 hl3 hb1 hb2 hb3 hBw hRt hXL hrest hn hvx hwx hcx hv hxl hrl hfit hz2 hz3 hs3 HV HE HK OH HB
      have hvv : ((!v) == !v) = true := by simp
      go_wp2_with (first | (go_at_call 35; (with_reducible refine ((c5 _ ?_ ?_).out).mono ?_); (focus ((exact HY.out.1); done)); (focus ((exact HY.out.2.2.2.1); done)); rintro e wa ⟨rfl, hb_wa⟩; have hs_wa := hb_wa.size; (try simp at hs_wa)) | (go_at_call 34; (with_reducible refine ((c1 _ ?_).out).mono ?_); (focus ((exact HY.out.2.1.below (by repeat (first | assumption | exact Below.refl _ _ | (refine below_chain ?_ (by assumption) (by first | omega | (simp <;> omega) | simp)) | (refine Below.alloc ?_ (by first | omega | (simp <;> omega) | simp) _) | (apply below_drewN) | (apply below_drew) | (refine Below.setCell ?_ (by first | omega | (simp <;> omega) | simp) _)))); done)); rintro e wx ⟨rfl, hb_wx⟩; have hs_wx := hb_wx.size; (try simp at hs_wx)) | (go_at_call 38; (with_reducible refine ((c3 _ ?_).out).mono ?_); (focus ((exact HY.out.2.2.1.below (by repeat (first | assumption | exact Below.refl _ _ | (refine below_chain ?_ (by assumption) (by first | omega | (simp <;> omega) | simp)) | (refine Below.alloc ?_ (by first | omega | (simp <;> omega) | simp) _) | (apply below_drewN) | (apply below_drew) | (refine Below.setCell ?_ (by first | omega | (simp <;> omega) | simp) _)))); done)); rintro e wv ⟨rfl, hb_wv⟩; have hs_wv := hb_wv.size; (try simp at hs_wv)))
      go_ret
      exact ⟨rfl, HY.out.2.2.2.2.trans ((show Below w3.heap.size w3 wv from (by repeat (first | assumption | exact Below.refl _ _ | (refine below_chain ?_ (by assumption) (by first | omega | (simp <;> omega) | simp)) | (refine Below.alloc ?_ (by first | omega | (simp <;> omega) | simp) _) | (apply below_drewN) | (apply below_drew) | (refine Below.setCell ?_ (by first | omega | (simp <;> omega) | simp) _)))).mono hsx)⟩

set_option maxRecDepth 100000 in
theorem walk_long (len cap : Nat) (p : Option Addr) (len1 cap1 : Nat) (p1 : Option Addr) (w : World) (hl : 1048576 < len ∨ 1048576 < len1) :
    Calls Try.prog 7 #[.slice p len cap, .slice p1 len1 cap1] w fun e w' => e = .returned (.bool true) ∧ Below w.heap.size w w' := by
  by_cases h0 : (1048576 : Int) < (len : Int)
  · go_enter Try.func7, Try.ntmps7
    go_wp2
    go_ret
    exact ⟨rfl, Below.refl _ _⟩
  · have hl' : (1048576 : Int) < (len1 : Int) := by omega
    clear hl
    go_enter Try.func7, Try.ntmps7
    go_wp2
    go_ret
    exact ⟨rfl, Below.refl _ _⟩

set_option maxRecDepth 100000 in
theorem lifted (os : Os) (started : os.Started) (H : Type) (enc : TypeId × Value → H) :
    ReturnsInHanded {} Try.checked os 7 .any (Rows.fnLoopClosesSpec.pre6 enc Try.prog Try.f7 Rows.fnLoopClosesRow.domain false) (Rows.fnLoopClosesSpec.post enc Try.prog Try.f7 false true false false) := by
  refine returnsInHanded_of_change (C := Try.checked) own started (by kernel_rfl) Try.func7
    (ChangeSpec.witness6 (enc := enc) (C := Try.checked) false ⟨#[], #[.slice none 0 0, .slice none 0 0], []⟩ 8 (by kernel_rfl) (by kernel_rfl) (by kernel_rfl) (by kernel_rfl)) ?_
  intro W base args ds gs before hval0 hW hcnd _
  have hval : ∀ (j : Nat) t v, Try.f7.params[j]? = some t → args[j]? = some v → Value.okWide Try.prog W .any base t v := hval0
  have hW' := hW
  obtain ⟨p, q, hA0, hV, rfl, hfz, hnd⟩ := hW
  have hA : DataW.TrodAll enc Try.prog W 0 (fun _ => true) true Try.f7.params.toList args.toList ds p := hA0
  rw [Try.params7] at hA hval
  obtain ⟨v0, vs0, d0, ds0, p0, q0, hargs, rfl, rfl, h0, r0⟩ := trodAll_cons hA
  obtain ⟨v1, vs1, d1, ds1, p1, q1, rfl, rfl, rfl, h1, r1⟩ := trodAll_cons r0
  obtain ⟨rfl, rfl, rfl⟩ := trodAll_nil r1
  obtain rfl : args = #[v0, v1] := by cases args; simp_all
  obtain ⟨rfl, rfl⟩ := trodVars_none hV
  obtain ⟨a0, len0, cap0, rfl⟩ := okWide_slice Try.underlying22 (hval 0 22 v0 rfl rfl)
  have k0 := h0
  have lt0 : ∀ x ∈ p0, x.block < W.heap.size := by obtain ⟨m, hm⟩ := k0; exact DataW.trod_lt m _ _ _ hm
  obtain ⟨z0, w0⟩ : ∃ zs, IsRow .u8 W a0 len0 cap0 zs := by
    obtain ⟨fuel, hf⟩ := h0
    rcases open_ints Try.underlying22 Try.underlying5 (by kernel_rfl) hf with ⟨hcs, _⟩ | ⟨x, l, c, zs, hcs, _, hl, hm, hz, _, hcell, hwz⟩
    · simp [Value.cells] at hcs
      obtain ⟨rfl, rfl, rfl⟩ := hcs
      exact ⟨[], .inl ⟨rfl, rfl, rfl, rfl⟩⟩
    · simp [Value.cells] at hcs
      obtain ⟨rfl, rfl, rfl⟩ := hcs
      exact ⟨zs, .inr ⟨_, rfl, hl, hm, by simpa using hz, hcell, hwz⟩⟩
  obtain ⟨a1, len1, cap1, rfl⟩ := okWide_slice Try.underlying22 (hval 1 22 v1 rfl rfl)
  have k1 := h1
  have lt1 : ∀ x ∈ p1, x.block < W.heap.size := by obtain ⟨m, hm⟩ := k1; exact DataW.trod_lt m _ _ _ hm
  obtain ⟨z1, w1⟩ : ∃ zs, IsRow .u8 W a1 len1 cap1 zs := by
    obtain ⟨fuel, hf⟩ := h1
    rcases open_ints Try.underlying22 Try.underlying5 (by kernel_rfl) hf with ⟨hcs, _⟩ | ⟨x, l, c, zs, hcs, _, hl, hm, hz, _, hcell, hwz⟩
    · simp [Value.cells] at hcs
      obtain ⟨rfl, rfl, rfl⟩ := hcs
      exact ⟨[], .inl ⟨rfl, rfl, rfl, rfl⟩⟩
    · simp [Value.cells] at hcs
      obtain ⟨rfl, rfl, rfl⟩ := hcs
      exact ⟨zs, .inr ⟨_, rfl, hl, hm, by simpa using hz, hcell, hwz⟩⟩
  clear hA0 hval0
  have hw : Calls Try.prog 7 #[.slice a0 len0 cap0, .slice a1 len1 cap1] W fun e w' => e = .returned (.bool true) ∧ Below W.heap.size W w' := by
    by_cases hl : len0 ≤ 1048576
    · by_cases hm : len1 ≤ 1048576
      · exact walk len0 cap0 a0 len1 cap1 a1 W hl hm (Lib.hid (code_of_row w0 hl)) (Lib.hid (code_of_row w1 hm))
      · exact walk_long len0 cap0 a0 len1 cap1 a1 W (by omega)
    · exact walk_long len0 cap0 a0 len1 cap1 a1 W (by omega)
  refine hw.mono fun e W' ⟨he, bel⟩ => ?_
  subst he
  exact ⟨_, rfl, _, _, _, [], _, [], hW', trodAll_mk1 (shut_bool Try.underlying4 _), (trodAll_cons_mk (Below.trod laidOut (by kernel_rfl) (of_decide_eq_true (by kernel_rfl)) k0 bel lt0) (trodAll_cons_mk (Below.trod laidOut (by kernel_rfl) (of_decide_eq_true (by kernel_rfl)) k1 bel lt1) trodAll_mk0)), rfl, bel.frame _, fun h => by cases h⟩

theorem over : Rows.fnLoopClosesRow.holds Try.pinned (OpenSpec.ofChange Rows.fnLoopClosesSpec) :=
  OpenClaim.holds_of_wide 7 Try.f7 rfl rfl rfl rfl rfl rfl rfl ⟨rfl, rfl, rfl, rfl, rfl⟩ rfl rfl rfl rfl rfl (by kernel_rfl) Try.func7 (by kernel_rfl)
    (of_decide_eq_true (by kernel_rfl)) (by unfold Func.isWrapper; first | (rw [if_pos (by decide +kernel)]; kernel_rfl) | (rw [if_neg (by decide +kernel)]; exact ⟨rfl, rfl⟩))
    (fun os started H enc _ => lifted os started H enc)

theorem proved : Rows.FnLoopClosesSaid := over
end Go.Proofs.Ytimghdffmdcheaa.fnLoopCloses

