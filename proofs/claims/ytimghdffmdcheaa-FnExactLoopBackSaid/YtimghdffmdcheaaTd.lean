/-
  The program's TreeHeights.
-/
import Derived.Test.YtimghdffmdcheaaTb
import Derived.Test.YtimghdffmdcheaaTrd
namespace Go.Proofs.Ytimghdffmdcheaa
open Go.RowKit
set_option linter.unusedVariables false

theorem set_same {α : Type} {l : List α} {i : Nat} {x : α} (h : l[i]? = some x) : l.set i x = l := by
  obtain ⟨hl, e⟩ := List.getElem?_eq_some_iff.1 h
  rw [← e]; exact List.set_getElem_self hl
section
variable {N : Nat} {us : List Rn} {P : Int → Int} {t k : Nat} {ks : List Bool} {L : List Int} {r : Rn}
theorem Known.full (h : Known N us P t 0 ks L) (ht : t + 1 = N) : Known N us P N 0 ks L := ⟨h.len, h.lenL, h.zero, h.pot, h.low, .inl (by rcases h.go with g | g | ⟨g, -⟩ <;> omega)⟩
theorem Known.self (h : Known N us P t k ks L) {y : Nat} {z : Int} (hy : ks[y]? = some true) (hz : z = P y) : ks.set y true = ks ∧ L.set y z = L := by
  refine ⟨set_same hy, ?_⟩
  have hl := (List.getElem?_eq_some_iff.1 hy).1
  rw [h.len] at hl
  have := htAt_get (L := L) (x := (y : Int)) (by omega) (by rw [h.lenL]; omega)
  rw [Int.toNat_natCast, h.pot y hy, ← hz] at this
  exact set_same this
/-- the end of a run from its beginning, and the other way, whatever is known of it -/
theorem Known.forth (h : Known N us P t k ks L) (hr : us[k]? = some r) {a b : Nat} {bb : Bool} (ha : r.f = a) (hb : r.t = b) (hP : P b - P a = r.s) (hs : -100000 ≤ r.s ∧ r.s ≤ 100000) (hka : ks[a]? = some true) (hkb : ks[b]? = some bb) :
    Known N us P t (k + 1) (ks.set b true) (L.set b (htAt L a + r.s)) := by
  have hz : htAt L a + r.s = P b := by rw [h.pot a hka]; omega
  cases bb
  · exact h.more (x := a) hka hkb hz (by omega)
  · obtain ⟨e1, e2⟩ := h.self hkb hz
    rw [e1, e2]
    exact h.same hr (by rw [ha, hb, Int.toNat_natCast, Int.toNat_natCast, hka, hkb])
theorem Known.back (h : Known N us P t k ks L) (hr : us[k]? = some r) {a b : Nat} {ba : Bool} (ha : r.f = a) (hb : r.t = b) (hP : P b - P a = r.s) (hs : -100000 ≤ r.s ∧ r.s ≤ 100000) (hka : ks[a]? = some ba) (hkb : ks[b]? = some true) :
    Known N us P t (k + 1) (ks.set a true) (L.set a (htAt L b + -r.s)) := by
  have hz : htAt L b + -r.s = P a := by rw [h.pot b hkb]; omega
  cases ba
  · exact h.more (x := b) hkb hka hz (by omega)
  · obtain ⟨e1, e2⟩ := h.self hka hz
    rw [e1, e2]
    exact h.same hr (by rw [ha, hb, Int.toNat_natCast, Int.toNat_natCast, hka, hkb])
end

set_option maxHeartbeats 8000000 in
set_option maxRecDepth 100000 in
theorem iTreeHeights_yes (N m K : Nat) (p q : Option Addr) (c d : Nat) (rs : List Rn) (T : List Int) (w : World) (h : Runs w p rs) (hq : Ints w q T) (hm : rs.length = m) (hk : T.length = K) (ht : IsTree N rs T) :
    Calls Try.prog 29 #[.int .i64 N, .slice p m c, .slice q K d] w fun e w' => ∃ (L : List Int) (g : Nat), e = .returned (.tuple #[.slice (some ⟨g, 0, none⟩) N N, .bool true]) ∧ IsHt N (sub rs T) L ∧ w.heap.size ≤ g ∧ Own w' g 3 1 N N L ∧ Below w.heap.size w w' := by
  have hn := ht.ok
  obtain ⟨hn2, hn6, hl12, hall⟩ := nOk_true hn
  have hN6 : N ≤ 6 := by omega
  have hKN : K + 1 = N := by have := ht.len; omega
  obtain ⟨P, hP0, hPr⟩ := pot_zero ht.ends ht.rk
  have hm12 : m ≤ 12 := by omega
  have c1 := fun w h hq => Lib.hid (iTreeIs_at N m K p q c d rs T true w h hq hm hk (by omega) (by omega) (isT_true.2 ht))
  have HP := Lib.hid (And.intro hP0 (And.intro hPr ht))
  have H := Lib.hid (And.intro h (And.intro hq (And.intro hm (And.intro hk hall))))
  have hmi := fun w => made_ints w N (by omega)
  have hmb := fun w => made_bools w N (by omega)
  have HO0 := fun w => Lib.hid (Own.made w 3 N 1 (by decide) (by unfold maxLen; omega))
  have HF0 := fun w => Lib.hid (Bools.made w N)
  have hlN : (0 : Int) < (N : Int) := by omega
  clear h hq hm hk hn hall hl12 hP0 hPr ht
  go_enter Try.func29, Try.ntmps29
  go_upto_region 5 with ((go_at_call 69; (with_reducible refine ((c1 _ ?_ ?_).out).mono ?_); (focus ((exact H.out.1); done)); (focus ((exact H.out.2.1); done)); rintro e wa ⟨rfl, hb_wa⟩; have hs_wa := hb_wa.size; (try simp at hs_wa)))
  refine gen_world (fun W => Own W wa.heap.size 3 1 N N (List.replicate (N * 1) 0) ∧ Bools W (wa.heap.size + 1) (List.replicate N false) ∧ Below w.heap.size w W) ?_ (fun w1 h1 => ?_)
  · have hF1 := (HF0 (wa.alloc (.cells (madeCells #[.int .i64 0] N) 3))).out
    have hO1 : Own (wa.alloc (.cells (madeCells #[.int .i64 0] N) 3)) wa.heap.size 3 1 N N (List.replicate (N * 1) 0) := by simpa using (HO0 wa).out
    exact ⟨hO1.alloc _, by simpa using hF1, (by repeat (first | assumption | exact Below.refl _ _ | (refine below_chain ?_ (by assumption) (by first | omega | (simp <;> omega) | simp)) | (refine Below.alloc ?_ (by first | omega | (simp <;> omega) | simp) _) | (apply below_drewN) | (apply below_drew) | (refine Below.setCell ?_ (by first | omega | (simp <;> omega) | simp) _)))⟩
  obtain ⟨ho1, hf1, hb1⟩ := h1
  have hb0 := hf1.cell (i := 0) (b := false) (by simp [List.getElem?_replicate]; omega)
  have hz0 := hf1.frozen 0
  have HS := Lib.hid (And.intro ho1 (And.intro hf1 hb1))
  clear hmi hmb HF0 HO0 ho1 hf1 hb1 c1
  go_wp2_with fail
  refine gen_world (fun W => Own W wa.heap.size 3 1 N N (List.replicate (N * 1) 0) ∧ Bools W (wa.heap.size + 1) ((List.replicate N false).set 0 true) ∧ Below w.heap.size w W) ⟨HS.out.1.setOther (a := ⟨wa.heap.size + 1, 0, none⟩) (by simp) _, HS.out.2.1.set 0 true, HS.out.2.2.setCell (p := ⟨wa.heap.size + 1, 0, none⟩) (by simp; omega) _⟩ (fun w0 h0 => ?_)
  clear HS hb0 hz0 hb_wa
  go_loopw [26] (fun i wr => ∃ (t : Nat) (ks : List Bool) (L : List Int), t ≤ K ∧ i = .int .i64 t ∧ Known N (sub rs T) P t 0 ks L ∧ Own wr wa.heap.size 3 1 N N L ∧ Bools wr (wa.heap.size + 1) ks ∧ Below w.heap.size w wr) (fun i _ => K - (intOf i).toNat)
  case atStart => obtain ⟨a1, a2, a3⟩ := h0; exact ⟨0, _, _, Nat.zero_le _, rfl, Known.start (by omega) HP.out.1, by rw [Nat.mul_one] at a1; exact a1, a2, a3⟩
  case round =>
    clear h0
    obtain ⟨t, ks, L, ht, rfl, hkn, how, hfl, hbr⟩ := hrel
    have HK := Lib.hid hkn
    clear hkn
    have HO := Lib.hid (And.intro how (And.intro hfl hbr))
    clear how hfl hbr
    by_cases hlt : t < K
    · go_wp2_with fail
      go_loopw [30] (fun i wr => ∃ (k : Nat) (ks : List Bool) (L : List Int), k ≤ K ∧ i = .int .i64 k ∧ Known N (sub rs T) P t k ks L ∧ Own wr wa.heap.size 3 1 N N L ∧ Bools wr (wa.heap.size + 1) ks ∧ Below w.heap.size w wr) (fun i _ => K - (intOf i).toNat)
      case atStart => exact ⟨0, ks, L, Nat.zero_le _, rfl, HK.out, HO.out.1, HO.out.2.1, HO.out.2.2⟩
      case round =>
        clear HO HK
        rename World => wq
        obtain ⟨k, ks, L, hk, rfl, hkn, how, hfl, hbr⟩ := hrel
        have hbs := hbr.size
        have hlf := hfl.lt
        have hlh := how.lt
        by_cases hlt2 : k < K
        · obtain ⟨B, ob, z, rfl, hz, hB, y0⟩ := (H.out.2.1.below hbr).at (i := k) (by have := H.out.2.2.2.1; omega)
          obtain ⟨z0, z1⟩ := HP.out.2.2.asc.rng z (List.mem_of_getElem? hz)
          obtain ⟨u, rfl⟩ : ∃ u : Nat, z = (u : Int) := ⟨z.toNat, by omega⟩
          have hum : u < m := by have := H.out.2.2.1; omega
          have hum' : (u : Int) < (m : Int) := by omega
          obtain ⟨D, o, r, rfl, hr, hD, x0, x1, x2, x3⟩ := (H.out.1.below hbr).at (i := u) (by have := H.out.2.2.1; omega)
          obtain ⟨q0, q1, q2, q3, q4, q5, q6, -⟩ := rOk_true (H.out.2.2.2.2 u r hr)
          have hus : (sub rs T)[k]? = some r := by rw [sub_get hz]; unfold runOf; simp [hr]
          have hPr := HP.out.2.1 r (List.mem_of_getElem? hus)
          obtain ⟨a, ha⟩ : ∃ a : Nat, r.f = (a : Int) := ⟨r.f.toNat, by omega⟩
          obtain ⟨b, hb⟩ : ∃ b : Nat, r.t = (b : Int) := ⟨r.t.toNat, by omega⟩
          have haN : a < N := by omega
          have hbN : b < N := by omega
          have haN' : (a : Int) < (N : Int) := by omega
          have hbN' : (b : Int) < (N : Int) := by omega
          have hab : ¬ a = b := by omega
          have hba : ¬ b = a := by omega
          have hLl := how.len
          have v1 := how.cells (htAt_get (L := L) (x := (a : Int)) (by omega) (by omega))
          have v2 := how.cells (htAt_get (L := L) (x := (b : Int)) (by omega) (by omega))
          rw [Int.toNat_natCast] at v1 v2
          obtain ⟨ba, g1⟩ : ∃ x, ks[a]? = some x := ⟨_, List.getElem?_eq_getElem (by have := hkn.len; omega)⟩
          obtain ⟨bb, g2⟩ : ∃ x, ks[b]? = some x := ⟨_, List.getElem?_eq_getElem (by have := hkn.len; omega)⟩
          have k1 := hfl.cell g1
          have k2 := hfl.cell g2
          have f1 := hfl.frozen a
          have f2 := hfl.frozen b
          have f3 := how.frozen a
          have f4 := how.frozen b
          have HV1 : ba = true → -600000 ≤ htAt L (a : Int) ∧ htAt L (a : Int) ≤ 600000 := fun e => hkn.bound hN6 (by omega) (by rw [Int.toNat_natCast, g1, e])
          have HV2 : bb = true → -600000 ≤ htAt L (b : Int) ∧ htAt L (b : Int) ≤ 600000 := fun e => hkn.bound hN6 (by omega) (by rw [Int.toNat_natCast, g2, e])
          have HO := Lib.hid (And.intro how (And.intro hfl hbr))
          have HR1 : Hid (bb = true → Known N (sub rs T) P t (k + 1) (ks.set a true) (L.set a (htAt L b + -r.s))) := Lib.hid (fun e => hkn.back hus ha hb (by rw [← ha, ← hb]; exact hPr) ⟨q5, q6⟩ g1 (by rw [g2, e]))
          have HR2 : Hid (ba = true → Known N (sub rs T) P t (k + 1) (ks.set b true) (L.set b (htAt L a + r.s))) := Lib.hid (fun e => hkn.forth hus ha hb (by rw [← ha, ← hb]; exact hPr) ⟨q5, q6⟩ (by rw [g1, e]) g2)
          have HR3 : Hid (ba = bb → Known N (sub rs T) P t (k + 1) ks L) := Lib.hid (fun e => hkn.same hus (by rw [ha, hb, Int.toNat_natCast, Int.toNat_natCast, g1, g2, e]))
          have hks := hkn.len
          obtain ⟨rf, rt, rg, rw⟩ := r
          simp only at ha hb x0 x1 x2 x3 q5 q6 HR1 HR2
          subst ha hb
          clear how hfl hbr hr q0 q1 q2 q3 q4 hkn g1 g2 hz z0 z1 hus hPr
          cases bb
          · cases ba
            · go_wp2_with fail
              go_roundw
              case rel => exact ⟨k + 1, ks, L, by omega, by go_num, HR3.out rfl, HO.out.1.alloc _, HO.out.2.1.alloc _, HO.out.2.2.alloc hbs _⟩
              case measure => simp [intOf]; omega
            · go_upto_region 15 with fail
              refine gen_world (fun W => (Own W wa.heap.size 3 1 N N L ∧ Bools W (wa.heap.size + 1) ks ∧ Below w.heap.size w W) ∧ (W.cell? ⟨wq.heap.size, 0, none⟩ = some (.int .i64 a) ∧ W.cell? ⟨wq.heap.size, 1, none⟩ = some (.int .i64 b) ∧ W.cell? ⟨wq.heap.size, 2, none⟩ = some (.int .i64 (rg)) ∧ wq.heap.size < W.heap.size)) ?_ (fun w5 h5 => ?_)
              · exact ⟨⟨HO.out.1.alloc _, HO.out.2.1.alloc _, HO.out.2.2.alloc hbs _⟩, by simp [*, go_sem], by simp [*, go_sem], by simp [*, go_sem], by simp⟩
              obtain ⟨⟨o5, l5, b5⟩, ⟨u0, u1, u2, hX⟩⟩ := h5
              obtain ⟨hv0, hv1⟩ := HV1 (by trivial)
              have hLl := o5.len
              have y1 := o5.cells (htAt_get (L := L) (x := (a : Int)) (by omega) (by omega))
              have y2 := o5.cells (htAt_get (L := L) (x := (b : Int)) (by omega) (by omega))
              rw [Int.toNat_natCast] at y1 y2
              have hlo5 := o5.lt
              have hlf5 := l5.lt
              have hbs5 := b5.size
              have O5 := Lib.hid (And.intro o5 (And.intro l5 (And.intro b5 hLl)))
              clear o5 l5 b5 hLl v1 v2 k1 k2 f1 f2 f3 f4 x0 x1 x2 x3 HO
              (refine wp_region_grows_tail 12 (by kernel_rfl) (by kernel_rfl) ?_; simp only [List.take_succ_cons, List.take_zero, List.drop_succ_cons, List.drop_zero]; intro W_wg hWc_wg hWs_wg hWe_wg; (repeat (go_big_quiet_step (fail))); with_reducible refine wpQuiet_nil ?_; clear hWe_wg hWs_wg hWc_wg W_wg; intro wg hb_wg; obtain ⟨hc_wg, hf_wg⟩ := bcell hb_wg; (try simp only [World.size_drew, World.cell?_drew, World.frozen?_drew, World.heap_drewN, World.cell?_drewN, World.frozen?_drewN] at hc_wg hf_wg); have hs_wg := hb_wg.size; (try simp at hs_wg))
              have og := O5.out.1.below hb_wg
              have lg := O5.out.2.1.below hb_wg
              have fg := og.frozen b
              have fg2 := lg.frozen b
              obtain ⟨bk, hbk⟩ : ∃ bk, ks[b]? = some bk := ⟨_, List.getElem?_eq_getElem (by have := hks; omega)⟩
              have kc := lg.cell hbk
              have hlg := og.lt
              have z1 : wg.cell? ⟨wa.heap.size, a, none⟩ = _ := (hc_wg _ a hlo5).trans y1
              have z2 : wg.cell? ⟨wa.heap.size, b, none⟩ = _ := (hc_wg _ b hlo5).trans y2
              have t0 : wg.cell? ⟨wq.heap.size, 0, none⟩ = _ := (hc_wg _ 0 hX).trans u0
              have t1 : wg.cell? ⟨wq.heap.size, 1, none⟩ = _ := (hc_wg _ 1 hX).trans u1
              have t2 : wg.cell? ⟨wq.heap.size, 2, none⟩ = _ := (hc_wg _ 2 hX).trans u2
              have hnX : ¬ wq.heap.size = wa.heap.size := by omega
              have OG := Lib.hid (And.intro og lg)
              clear og lg hc_wg hf_wg y1 y2 u0 u1 u2 hbk
              go_wp2_with fail
              go_roundw
              case rel => exact ⟨k + 1, ks.set b true, L.set b (htAt L (a : Int) + rg), by omega, by go_num, HR2.out (by trivial), (OG.out.1.set b _ (by have := O5.out.2.2.2; omega)).setOther (by simp) _, (OG.out.2.setOther (by simp) _).set b true, ((O5.out.2.2.1.trans (hb_wg.mono hbs5)).setCell (by simp; omega) _).setCell (by simp; omega) _⟩
              case measure => simp [intOf]; omega
          · go_upto_region 15 with ((go_at_call 70; (with_reducible refine (turned_is _ _ _ _ _ q5 q6).mono ?_); rintro e wt ⟨rfl, hb_wt⟩; have hs_wt := hb_wt.size; (try simp at hs_wt)); obtain ⟨hcn, hfn⟩ := bcell hb_wt)
            refine gen_world (fun W => (Own W wa.heap.size 3 1 N N L ∧ Bools W (wa.heap.size + 1) ks ∧ Below w.heap.size w W) ∧ (W.cell? ⟨wq.heap.size, 0, none⟩ = some (.int .i64 b) ∧ W.cell? ⟨wq.heap.size, 1, none⟩ = some (.int .i64 a) ∧ W.cell? ⟨wq.heap.size, 2, none⟩ = some (.int .i64 (-rg)) ∧ wq.heap.size < W.heap.size)) ?_ (fun w5 h5 => ?_)
            · exact ⟨⟨((((((HO.out.1.alloc _).below hb_wt).setOther (a := ⟨wq.heap.size, 0, none⟩) (by simp; omega) _).setOther (a := ⟨wq.heap.size, 1, none⟩) (by simp; omega) _).setOther (a := ⟨wq.heap.size, 2, none⟩) (by simp; omega) _).setOther (a := ⟨wq.heap.size, 3, none⟩) (by simp; omega) _), ((((((HO.out.2.1.alloc _).below hb_wt).setOther (a := ⟨wq.heap.size, 0, none⟩) (by simp; omega) _).setOther (a := ⟨wq.heap.size, 1, none⟩) (by simp; omega) _).setOther (a := ⟨wq.heap.size, 2, none⟩) (by simp; omega) _).setOther (a := ⟨wq.heap.size, 3, none⟩) (by simp; omega) _), ((((((HO.out.2.2.alloc hbs _).trans (hb_wt.mono (by simp; omega))).setCell (p := ⟨wq.heap.size, 0, none⟩) (by simp; omega) _).setCell (p := ⟨wq.heap.size, 1, none⟩) (by simp; omega) _).setCell (p := ⟨wq.heap.size, 2, none⟩) (by simp; omega) _).setCell (p := ⟨wq.heap.size, 3, none⟩) (by simp; omega) _)⟩, by simp [*, go_sem], by simp [*, go_sem], by simp [*, go_sem], by simp; omega⟩
            clear hb_wt hcn hfn hs_wt
            obtain ⟨⟨o5, l5, b5⟩, ⟨u0, u1, u2, hX⟩⟩ := h5
            obtain ⟨hv0, hv1⟩ := HV2 (by trivial)
            have hLl := o5.len
            have y1 := o5.cells (htAt_get (L := L) (x := (b : Int)) (by omega) (by omega))
            have y2 := o5.cells (htAt_get (L := L) (x := (a : Int)) (by omega) (by omega))
            rw [Int.toNat_natCast] at y1 y2
            have hlo5 := o5.lt
            have hlf5 := l5.lt
            have hbs5 := b5.size
            have O5 := Lib.hid (And.intro o5 (And.intro l5 (And.intro b5 hLl)))
            clear o5 l5 b5 hLl v1 v2 k1 k2 f1 f2 f3 f4 x0 x1 x2 x3 HO
            (refine wp_region_grows_tail 12 (by kernel_rfl) (by kernel_rfl) ?_; simp only [List.take_succ_cons, List.take_zero, List.drop_succ_cons, List.drop_zero]; intro W_wg hWc_wg hWs_wg hWe_wg; (repeat (go_big_quiet_step (fail))); with_reducible refine wpQuiet_nil ?_; clear hWe_wg hWs_wg hWc_wg W_wg; intro wg hb_wg; obtain ⟨hc_wg, hf_wg⟩ := bcell hb_wg; (try simp only [World.size_drew, World.cell?_drew, World.frozen?_drew, World.heap_drewN, World.cell?_drewN, World.frozen?_drewN] at hc_wg hf_wg); have hs_wg := hb_wg.size; (try simp at hs_wg))
            have og := O5.out.1.below hb_wg
            have lg := O5.out.2.1.below hb_wg
            have fg := og.frozen a
            have fg2 := lg.frozen a
            obtain ⟨bk, hbk⟩ : ∃ bk, ks[a]? = some bk := ⟨_, List.getElem?_eq_getElem (by have := hks; omega)⟩
            have kc := lg.cell hbk
            have hlg := og.lt
            have z1 : wg.cell? ⟨wa.heap.size, b, none⟩ = _ := (hc_wg _ b hlo5).trans y1
            have z2 : wg.cell? ⟨wa.heap.size, a, none⟩ = _ := (hc_wg _ a hlo5).trans y2
            have t0 : wg.cell? ⟨wq.heap.size, 0, none⟩ = _ := (hc_wg _ 0 hX).trans u0
            have t1 : wg.cell? ⟨wq.heap.size, 1, none⟩ = _ := (hc_wg _ 1 hX).trans u1
            have t2 : wg.cell? ⟨wq.heap.size, 2, none⟩ = _ := (hc_wg _ 2 hX).trans u2
            have hnX : ¬ wq.heap.size = wa.heap.size := by omega
            have OG := Lib.hid (And.intro og lg)
            clear og lg hc_wg hf_wg y1 y2 u0 u1 u2 hbk
            go_wp2_with fail
            go_roundw
            case rel => exact ⟨k + 1, ks.set a true, L.set a (htAt L (b : Int) + -rg), by omega, by go_num, HR1.out (by trivial), (OG.out.1.set a _ (by have := O5.out.2.2.2; omega)).setOther (by simp) _, (OG.out.2.setOther (by simp) _).set a true, ((O5.out.2.2.1.trans (hb_wg.mono hbs5)).setCell (by simp; omega) _).setCell (by simp; omega) _⟩
            case measure => simp [intOf]; omega
        · have e : k = K := by omega
          subst e
          have HO := Lib.hid (And.intro how (And.intro hfl hbr))
          have HK : Hid (Known N (sub rs T) P t (sub rs T).length ks L) := Lib.hid (by rw [sub_len, H.out.2.2.2.1]; exact hkn)
          clear how hfl hbr hkn
          go_wp2_with fail
          go_roundw
          case rel => exact ⟨t + 1, ks, L, by omega, by go_num, HK.out.next (by omega) HP.out.2.2.ends (fun i hi => whole_same HP.out.2.2.whole hi), HO.out.1, HO.out.2.1, HO.out.2.2⟩
          case measure => simp [intOf]; omega
    · have e : t = K := by omega
      subst e
      go_wp2_with fail
      exact bodyPost_ret (v := .tuple #[.slice (some ⟨wa.heap.size, 0, none⟩) N N, .bool true]) (by simp [results, Try.results29, go_sem]) rfl ⟨L, wa.heap.size, rfl, (HK.out.full hKN).done (by omega) HP.out.2.2.ends HP.out.1 HP.out.2.1, hs_wa, HO.out.1, HO.out.2.2⟩

set_option maxHeartbeats 1000000 in
theorem iTreeHeights_no (n : Int) (m k : Nat) (p q : Option Addr) (c d : Nat) (rs : List Rn) (T : List Int) (w : World) (h : Runs w p rs) (hq : Ints w q T) (hm : rs.length = m) (hk : T.length = k) (hl : m ≤ 4000000000000000000) (hl2 : k ≤ 4000000000000000000) (ht : isT n rs T = false) :
    Calls Try.prog 29 #[.int .i64 n, .slice p m c, .slice q k d] w fun e w' => e = .returned (.tuple #[.slice none 0 0, .bool false]) ∧ Below w.heap.size w w' := by
  have c1 := fun w h hq => Lib.hid (iTreeIs_at n m k p q c d rs T false w h hq hm hk hl hl2 ht)
  have H := Lib.hid (And.intro h hq)
  clear h hq hm hk ht
  go_enter Try.func29, Try.ntmps29
  go_wp2_with ((go_at_call 69; (with_reducible refine ((c1 _ ?_ ?_).out).mono ?_); (focus ((exact H.out.1); done)); (focus ((exact H.out.2); done)); rintro e wa ⟨rfl, hb_wa⟩; have hs_wa := hb_wa.size; (try simp at hs_wa)))
  exact bodyPost_ret (v := .tuple #[.slice none 0 0, .bool false]) (by simp [results, Try.results29, go_sem]) rfl ⟨rfl, (by repeat (first | assumption | exact Below.refl _ _ | (refine below_chain ?_ (by assumption) (by first | omega | (simp <;> omega) | simp)) | (refine Below.alloc ?_ (by first | omega | (simp <;> omega) | simp) _) | (apply below_drewN) | (apply below_drew) | (refine Below.setCell ?_ (by first | omega | (simp <;> omega) | simp) _)))⟩
end Go.Proofs.Ytimghdffmdcheaa
