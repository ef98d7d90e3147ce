/-
  For every code the law FnTreeFirst returns true: impl.TreeFirst answers as the reference model does, its answer is a tree, and it is none with any one of its runs replaced by an earlier one that stands behind the one ahead of it. No condition: every list of bytes is taken.
-/
import Derived.Test.YtgbnnepbnahecaaTc
import Derived.Test.YtgbnnepbnahecaaNU
import Derived.Test.YtgbnnepbnahecaaDNi
import Derived.Test.YtgbnnepbnahecaaCode
import Derived.Test.YtgbnnepbnahecaaMapV
namespace Go.Proofs.Ytgbnnepbnahecaa.fnTreeFirst
open Go.ChangeShapes Go.WideShapes Go.ChangeAt Go.RowKit
set_option linter.unusedVariables false

theorem sameInts_n {n : Nat} {zs : List Int} (hn : zs.length = n) (p q : Option Addr) (c d : Nat) (w : World) (hp : Ints w p zs) (hq : Ints w q zs) (hl : n ≤ 4000000000000000000) :
    Calls Try.prog 22 #[.slice p n c, .slice q n d] w fun e w' => e = .returned (.bool true) ∧ Below w.heap.size w w' := by subst hn; exact sameInts_is p q c d zs w hp hq hl
theorem ints_take {w : World} {g o : Nat} {zs : List Int} (h : Ints w (some ⟨g, o, none⟩) zs) (j : Nat) : Ints w (some ⟨g, o, none⟩) (zs.take j) := by
  rcases h with rfl | ⟨B, o, e, hB, hc⟩
  · exact .inl (by simp)
  · exact .inr ⟨B, o, e, hB, fun i z hi => hc i z (take_get hi)⟩
theorem cell_over {w w' : World} {ob : Obj} {g P i : Nat} {v : Value} (h : w.cell? ⟨P, i, none⟩ = some v) (hP : P < w.heap.size) (hg : (w.alloc ob).grownBy w' (some g)) (hne : P ≠ g) : w'.cell? ⟨P, i, none⟩ = some v :=
  (World.cell?_of_block (a := ⟨P, i, none⟩) (hg.block P (by simp; omega) (by simpa using hne))).trans ((World.cell?_of_block (a := ⟨P, i, none⟩) (Deep.blk_alloc_lt _ _ _ hP)).trans h)
theorem wrap_id {x : Int} (h : -9223372036854775808 ≤ x) (h2 : x ≤ 9223372036854775807) : IntKind.i64.wrap x = x := by
  rw [IntKind.wrap_i64]; omega
/-- an append, as it runs -/
theorem run_app {P : Program} (w : World) (t ty e : TypeId) (z : Value) (sz bytes : Nat) (ht : P.underlying t = some (.slice e)) (hinfo : (P.info? e).map (fun i => (i.zero, i.size, i.bytes)) = some (some z, sz, bytes)) (hzs : z.cells.size = sz) (hsz : 0 < sz) (hby : bytes ≤ 32)
    (g n cap : Nat) (xs : List Int) (hown : Own w g e sz n cap xs) (ad : Addr) (m c : Nat) (news : List Int) (hl : news.length = m * sz) (hnews : ∀ (j : Nat) (z : Int), news[j]? = some z → w.cell? (ad.add j) = some (.int .i64 z)) (h63 : n + m ≤ 4194304) :
    ∃ g' cap' w', (Builtin.append_ #[t, t] ty #[.slice (some ⟨g, 0, none⟩) n cap, .slice (some ad) m c]).run P w = .ok (.slice (some ⟨g', 0, none⟩) (n + m) cap') w' ∧ Own w' g' e sz (n + m) cap' (xs ++ news) ∧ w.grownBy w' (some g) ∧ (g' = g ∨ g' = w.heap.size) := by
  obtain ⟨i, hi, hzz⟩ := Option.map_eq_some_iff.1 hinfo
  simp only [Prod.mk.injEq] at hzz
  obtain ⟨hz, hs', hb⟩ := hzz
  have h32 : (n + m) * bytes ≤ 4194304 * 32 := Nat.mul_le_mul h63 hby
  obtain ⟨v', w', hr, hown', hg, hnil, hloc⟩ := run_append_own_at (P := P) w 0 t ty e i z sz bytes ht hi hz hs' hb hzs hsz (.slice (some ⟨g, 0, none⟩) n cap) n (ivs xs) (hown.row (Nat.zero_le _)) ad m c (ivs news) (by simpa [ivs] using hl) (by
    intro j u hu
    rw [ivs, List.getElem?_map] at hu
    obtain ⟨z', hz', rfl⟩ := Option.map_eq_some_iff.1 hu
    exact hnews j z' hz') (by
    intro u hu
    rw [ivs, List.mem_map] at hu
    obtain ⟨z', _, rfl⟩ := hu
    rfl) (by unfold maxLen; omega) (by omega) (Nat.zero_le _)
  have hgw : w.grownBy w' (some g) := hg
  obtain ⟨hl', ⟨rfl, h0⟩ | ⟨g', cap', cur, rfl, hb', hgg, h1, h2, h3, h4⟩⟩ := hown'
  · have := hnil.1 rfl
    simp at this
  · exact ⟨g', cap', w', hr, ⟨by simpa [ivs] using hl', .inr ⟨g', cap', cur, rfl, Nat.le_refl _, hgg, h1, h2, h3, by rw [h4]; simp [ivs]⟩⟩, hgw, by simpa [Value.ownBlock] using hloc⟩

set_option maxHeartbeats 3000000 in
set_option maxRecDepth 100000 in
theorem walk (len cap : Nat) (p : Option Addr) (w : World) (hl : len ≤ 1048576) (h : Hid (Code' w (.slice p len cap))) :
    Calls Try.prog 4 #[.slice p len cap] w fun e w' => e = .returned (.bool true) ∧ Below w.heap.size w w' := by
  have hl' : ¬ (1048576 : Int) < (len : Int) := by omega
  go_enter Try.func4, Try.ntmps4
  go_upto_region 4 with (go_at_call 19; (with_reducible refine (drawTreeFirst_is _ _ h).mono ?_); rintro e wd ⟨N, m, rs, P, ⟨c, hmc, rfl⟩, hmm, ⟨hN2, hN6⟩, hm8, hR, hb_wd⟩; have hs_wd := hb_wd.size; have HR := Lib.hid hR; have HM := Lib.hid hmm; clear hR hmm)
  have hm8' : m ≤ 8 := by have := HM.out; omega
  clear h hm8
  obtain ⟨b, hb⟩ : ∃ b, nWhole N rs = b := ⟨_, rfl⟩
  cases b
  · have c1 := fun w h => Lib.hid (iFirst_no N m (some ⟨P, 0, none⟩) c rs w h HM.out (by omega) hb)
    have c2 := fun w h => Lib.hid (sFirst_no N m (some ⟨P, 0, none⟩) c rs w h HM.out (by omega) hb)
    clear hb
    go_wp2_with (first | (go_at_call 20; (with_reducible refine ((c1 _ ?_).out).mono ?_); (focus (exact HR.out; done)); rintro e wi ⟨rfl, hb_wi⟩; have hs_wi := hb_wi.size) | (go_at_call 21; (with_reducible refine ((c2 _ ?_).out).mono ?_); (focus (exact HR.out.below hb_wi; done)); rintro e ws ⟨⟨gs, rfl⟩, hb_ws⟩; have hs_ws := hb_ws.size) | (go_at_call 22; (with_reducible refine (sameInts_nil _ _ _ _ _).mono ?_); rintro e wt ⟨rfl, hb_wt⟩; have hs_wt := hb_wt.size; (try simp at hs_wt)))
    go_ret
    exact ⟨rfl, (by repeat (first | assumption | exact Below.refl _ _ | (refine below_chain ?_ (by assumption) (by first | omega | (simp <;> omega) | simp)) | (refine Below.alloc ?_ (by first | omega | (simp <;> omega) | simp) _) | (apply below_drewN) | (apply below_drew) | (refine Below.setCell ?_ (by first | omega | (simp <;> omega) | simp) _)))⟩
  · have c1 := fun w h => Lib.hid (iFirst_yes N m (some ⟨P, 0, none⟩) c rs w h HM.out hb)
    have c2 := fun w h => Lib.hid (sFirst_yes N m (some ⟨P, 0, none⟩) c rs w h HM.out hb)
    have htr := Lib.hid (first_tree hb)
    have hlst := Lib.hid (fun (i : Nat) (z k : Int) hz h0 hk hbb => isT_false.2 (first_least (N := N) (rs := rs) htr.out.ok (i := i) (z := z) (k := k) hz h0 hk hbb))
    obtain ⟨T, hT⟩ : ∃ T, firstT N rs rs.length = T := ⟨_, rfl⟩
    rw [hT] at c1 c2 htr hlst
    obtain ⟨K, hK⟩ : ∃ K, T.length = K := ⟨_, rfl⟩
    have hKN : K + 1 = N := by have := htr.out.len; omega
    have HT := Lib.hid hK
    clear hb hT hK
    go_upto_region 9 with (first | (go_at_call 20; (with_reducible refine ((c1 _ ?_).out).mono ?_); (focus (exact HR.out; done)); rintro e wi ⟨g, cg, _, rfl, rfl, hgi, oi, hb_wi⟩; have hs_wi := hb_wi.size; have hli := oi.lt; (have hcg : T.length ≤ cg := (by obtain ⟨_, _, h, _⟩ := oi.body; exact h)); have OI := Lib.hid oi; clear oi) | (go_at_call 21; (with_reducible refine ((c2 _ ?_).out).mono ?_); (focus (exact HR.out.below hb_wi; done)); rintro e ws ⟨gs, cs, _, rfl, rfl, hgs, os, hb_ws⟩; have hs_ws := hb_ws.size; have OS := Lib.hid os; clear os) | (go_at_call 22; (with_reducible refine (sameInts_is _ _ _ _ T _ ?_ ?_ (by have := HT.out; omega)).mono ?_); (focus ((exact (OI.out.below hb_ws).ints); done)); (focus ((exact OS.out.ints); done)); rintro e wt ⟨rfl, hb_wt⟩; have hs_wt := hb_wt.size; (try simp at hs_wt)))
    have hb3 : Below w.heap.size w wt := (by repeat (first | assumption | exact Below.refl _ _ | (refine below_chain ?_ (by assumption) (by first | omega | (simp <;> omega) | simp)) | (refine Below.alloc ?_ (by first | omega | (simp <;> omega) | simp) _) | (apply below_drewN) | (apply below_drew) | (refine Below.setCell ?_ (by first | omega | (simp <;> omega) | simp) _)))
    have OT : Hid (Own wt g 3 1 K cg T) := Lib.hid (by have := (OI.out.below hb_ws).below hb_wt; rwa [HT.out] at this)
    have HRt := Lib.hid ((HR.out.below hb_wi).below (w' := wt) (hb_ws.trans (hb_wt.mono hs_ws)))
    rw [HT.out] at hcg ⊢
    have hgt : g < wt.heap.size := by omega
    have HB3 := Lib.hid hb3
    have hs3 := hb3.size
    clear OI OS c1 c2 HR hb_wd hb_wi hb_ws hb_wt hb3 hgi hgs hs_wi hs_ws hs_wt hli
    go_loopw [9] (fun i wr => ∃ j : Nat, j ≤ K ∧ i = .int .i64 j ∧ Below wt.heap.size wt wr) (fun i _ => K - (intOf i).toNat)
    case atStart => exact ⟨0, Nat.zero_le _, rfl, Below.refl _ _⟩
    case round =>
      obtain ⟨j, hj, rfl, hbr⟩ := hrel
      have hbs := hbr.size
      by_cases hlt : j < K
      · obtain ⟨z, hz⟩ : ∃ z, T[j]? = some z := ⟨_, List.getElem?_eq_getElem (by have := HT.out; omega)⟩
        obtain ⟨z0, z1⟩ := htr.out.asc.rng z (List.mem_of_getElem? hz)
        obtain ⟨u, rfl⟩ : ∃ u : Nat, z = (u : Int) := ⟨z.toNat, by omega⟩
        have hum : u < m := by have := HM.out; omega
        have HZ := Lib.hid hz
        have HBr := Lib.hid hbr
        clear hz hbr z0 z1
        go_wp2_with fail
        go_loopw [10] (fun i wr => ∃ k : Nat, k ≤ u ∧ i = .int .i64 k ∧ Below wt.heap.size wt wr) (fun i _ => u - (intOf i).toNat)
        case atStart => exact ⟨0, Nat.zero_le _, rfl, HBr.out⟩
        case round =>
          clear HBr hbs
          rename World => wq
          obtain ⟨k, hk, rfl, hbr⟩ := hrel
          have hbs := hbr.size
          have OQ := Lib.hid (OT.out.below hbr)
          have e0 := OQ.out.cells HZ.out
          have hgq : g < wq.heap.size := by omega
          have HBq := Lib.hid hbr
          clear hbr
          by_cases hku : k < u
          · have hIt := Lib.hid (ints_take (OQ.out.ints.alloc (.cells #[] 3)) j)
            have hlt1 : (T.take j).length = j * 1 := by simp; have := HT.out; omega
            have hjc : j ≤ cg := by omega
            have hjc' : (j : Int) ≤ (cg : Int) := by omega
            by_cases hj0 : j = 0
            · have hj0a : ¬ (0 : Int) < (j : Int) := by omega
              have hj0b : ¬ 0 < j := by omega
              have HJ0 := Lib.hid hj0
              clear hj0
              go_upto_region 16 with (at_builtin; refine wp_append _ rfl _ _ 24 rfl 3 _ 1 8 Try.underlying24 info_int rfl (by decide) (by decide) _ 0 0 [] rfl (Own.empty _ _ _) _ _ _ (T.take j) rfl hlt1 (ints_cells hIt.out) (by omega) ?_; intro gx cx w1 hown hgr hloc hsz; have hs_w1 := hgr.size; (try simp at hs_w1); have HN := Lib.hid (And.intro hown (And.intro hgr hloc)); have e0' := cell_over e0 hgq hgr (by omega); (try have e1' := cell_over e1 hgq hgr (by omega)); clear hown hgr hloc; simp only [Nat.zero_add])
              have hown : Own w1 gx 3 1 j cx (T.take j) := by have := HN.out.1; simpa using this
              have hgx : wq.heap.size ≤ gx := by
                rcases HN.out.2.2 with e | e
                · omega
                · simp at e; omega
              have hot : Own w1 g 3 1 K cg T := (OQ.out.alloc _).grown HN.out.2.1 (by omega)
              have hb1 : Below wt.heap.size wt w1 := below_gr (HBq.out.alloc (by omega) (.cells #[] 3)) HN.out.2.1 (by omega) (by simp; omega)
              have hgx2 := hgx
              have HW := Lib.hid (And.intro hown (And.intro hot (And.intro hb1 (And.intro hgx hs_w1))))
              clear HN e0 e0' hsz hown hot hb1 hIt hlt1 hgx
              have hJ1 : ((j : Int) + 1) ≤ (K : Int) := by omega
              have hJ0 : (0 : Int) ≤ ((j : Int) + 1) := by omega
              have hJt : (((j : Int) + 1) : Int).toNat = (j + 1) := by omega
              have hJ2 : ((j : Int) + 1) ≤ (cg : Int) := by omega
              refine wp_region_any (by kernel_rfl) ?_
              change wpAny _ _ _ _ _ _ _ (World.drew _)
              refine wpAny_take (i := 0) (v := .slice (some ⟨gx, 0, none⟩) j cx) rfl (by kernel_rfl) (by kernel_rfl) (by kernel_rfl) (fun _ _ _ h => h) (Or.inl ⟨by rfl, ?_⟩) ?_
              focus ((intro w; go_simp); (try exact wrap_id (by omega) (by omega)); done)
              refine wpAny_take (i := 1) (v := .int .i64 k) rfl (by kernel_rfl) (by kernel_rfl) (by kernel_rfl) (fun _ _ _ h => h) (Or.inl ⟨by rfl, ?_⟩) ?_
              focus ((intro w; go_simp); (try exact wrap_id (by omega) (by omega)); done)
              refine wpAny_take (i := 4) (v := .slice (some ⟨g, 0, none⟩) K cg) rfl (by kernel_rfl) (by kernel_rfl) (by kernel_rfl) (fun _ _ _ h => h) (Or.inl ⟨by rfl, ?_⟩) ?_
              focus ((intro w; go_simp); (try exact wrap_id (by omega) (by omega)); done)
              refine wpAny_take (i := 5) (v := .int .i64 j) rfl (by kernel_rfl) (by kernel_rfl) (by kernel_rfl) (fun _ _ _ h => h) (Or.inl ⟨by rfl, ?_⟩) ?_
              focus ((intro w; go_simp); (try exact wrap_id (by omega) (by omega)); done)
              refine wpAny_take (i := 6) (v := .int .i64 ((j : Int) + 1)) rfl (by kernel_rfl) (by kernel_rfl) (by kernel_rfl) (fun _ _ _ h => h) (Or.inl ⟨by rfl, ?_⟩) ?_
              focus ((intro w; go_simp); (try exact wrap_id (by omega) (by omega)); done)
              by_cases hcj : cg = (j + 1)
              · subst hcj
                refine wpAny_take (i := 7) (v := .slice (some ⟨g, 0, none⟩) 0 0) rfl (by kernel_rfl) (by kernel_rfl) (by kernel_rfl) (fun _ _ _ h => h) (Or.inl ⟨by rfl, ?_⟩) ?_
                focus ((intro w; go_simp); done)
                refine wpAny_ready (rs := [2]) (by kernel_rfl) (by simp) ?_
                refine AllReady.cons rfl (fun K' hK => ?_) AllReady.nil
                go_simp
                refine hK _ _ ?_
                clear hK K'
                obtain ⟨gy, cy, w2, hrun, ho2, hg2, hl2⟩ := run_app (P := Try.prog) (w1.drew.alloc (.cells #[.int .i64 k] 3)) 24 24 3 _ 1 8 Try.underlying24 info_int rfl (by decide) (by decide) gx j cx (T.take j) ((show Own w1.drew gx 3 1 j cx (T.take j) from HW.out.1).alloc _) ⟨w1.drew.heap.size, 0, none⟩ 1 1 [(k : Int)] rfl (one_cell _ _ _) (by omega)
                refine wpAny_all (rs := [3]) (by kernel_rfl) (by simp) (fun i hi => ?_)
                obtain rfl : i = 3 := by simpa using hi
                refine wpOp_append rfl rfl _ _ 24 rfl rfl rfl hrun ?_
                have hog : Own w2 g 3 1 K (j + 1) T := ((show Own w1.drew g 3 1 K (j + 1) T from HW.out.2.1).alloc _).grown hg2 (by omega)
                obtain ⟨gz, cz, w3, hrun3, ho3, hg3, hl3⟩ := run_app (P := Try.prog) w2 24 24 3 _ 1 8 Try.underlying24 info_int rfl (by decide) (by decide) gy (j + 1) cy (T.take j ++ [(k : Int)]) ho2 ⟨g, 0, none⟩ 0 0 [] rfl (fun i z hi => by simp at hi) (by omega)
                refine wpAny_all (rs := [8]) (by kernel_rfl) (by simp) (fun i hi => ?_)
                obtain rfl : i = 8 := by simpa using hi
                refine wpOp_append rfl rfl _ _ 24 rfl rfl rfl hrun3 ?_
                refine wpAny_take (i := 9) (v := .slice (some ⟨gz, 0, none⟩) (j + 1 + 0) cz) rfl (by kernel_rfl) (by kernel_rfl) (by kernel_rfl) (fun _ _ _ h => h) (Or.inl ⟨by rfl, ?_⟩) ?_
                focus ((intro w; go_simp); done)
                refine wpAny_done (by kernel_rfl) ?_ _
                have hX : ((T.take j ++ [(k : Int)]) ++ ([] : List Int)).length = K := by have := hog.len; have := HT.out; simp; omega
                have eX : (T.take j ++ [(k : Int)]) ++ ([] : List Int) = T.take j ++ (k : Int) :: T.drop (j + 1) := by rw [List.drop_eq_nil_of_le (by have := HT.out; omega)]; simp
                have hX' : isT N rs ((T.take j ++ [(k : Int)]) ++ ([] : List Int)) = false := by
                  rw [eX]
                  refine hlst.out j u k HZ.out (by omega) (by omega) (fun y' hy' hpos => ?_)
                  have := HJ0.out
                  omega
                have c4 := fun kk cc (gg : Nat) w h hh hk => Lib.hid (iTreeIs_at N m kk (some ⟨P, 0, none⟩) (some ⟨gg, 0, none⟩) c cc rs ((T.take j ++ [(k : Int)]) ++ ([] : List Int)) false w h hh HM.out hk (by omega) (by omega) hX')
                have hz2 := hg2.size
                have hz3 := hg3.size
                have hsd : w1.drew.heap.size = w1.heap.size := rfl
                (try simp at hz2)
                have hb2 : Below wt.heap.size wt w2 := below_gr ((show Below wt.heap.size wt w1.drew from ⟨HW.out.2.2.1.os, HW.out.2.2.1.tape, HW.out.2.2.1.output, HW.out.2.2.1.size, HW.out.2.2.1.block⟩).alloc (by omega) (.cells #[.int .i64 k] 3)) hg2 (by omega) (by simp; omega)
                have hb3 : Below wt.heap.size wt w3 := below_gr hb2 hg3 (by rcases hl2 with e | e; (omega); (simp at e; omega)) (by have := hb2.size; omega)
                have HX := Lib.hid (And.intro ho3 (And.intro hb3 (And.intro hX hb3.size)))
                clear hrun hrun3 ho2 hg2 hl2 hog ho3 hg3 hl3 hX eX hX' hb2 hb3
                go_wp2_with (go_at_call 15; (with_reducible refine ((c4 _ _ _ _ ?_ ?_ ?_).out).mono ?_); (focus (exact HRt.out.below HX.out.2.1; done)); (focus (exact HX.out.1.ints; done)); (focus (have := HX.out.2.2.1; (try simp only [List.length_append] at this ⊢); omega)); rintro e wx ⟨rfl, hb_wx⟩; have hs_wx := hb_wx.size)
                go_roundw
                case rel => exact ⟨k + 1, by omega, by go_num, HX.out.2.1.trans (hb_wx.mono HX.out.2.2.2)⟩
                case measure => simp [intOf]; omega
              · have hc1 : ¬ cg ≤ (j + 1) := by omega
                have hc2 : ¬ (cg : Int) = ((j : Int) + 1) := by omega
                have hc3 : ((j : Int) + 1) < (cg : Int) := by omega
                have hc4 : ¬ cg - (j + 1) = 0 := by omega
                have hc5 : (j + 1) < cg := by omega
                refine wpAny_take (i := 7) (v := .slice (some ⟨g, (j + 1), none⟩) (K - (j + 1)) (cg - (j + 1))) rfl (by kernel_rfl) (by kernel_rfl) (by kernel_rfl) (fun _ _ _ h => h) (Or.inl ⟨by rfl, ?_⟩) ?_
                focus ((intro w; go_simp); done)
                refine wpAny_ready (rs := [2]) (by kernel_rfl) (by simp) ?_
                refine AllReady.cons rfl (fun K' hK => ?_) AllReady.nil
                go_simp
                refine hK _ _ ?_
                clear hK K'
                obtain ⟨gy, cy, w2, hrun, ho2, hg2, hl2⟩ := run_app (P := Try.prog) (w1.drew.alloc (.cells #[.int .i64 k] 3)) 24 24 3 _ 1 8 Try.underlying24 info_int rfl (by decide) (by decide) gx j cx (T.take j) ((show Own w1.drew gx 3 1 j cx (T.take j) from HW.out.1).alloc _) ⟨w1.drew.heap.size, 0, none⟩ 1 1 [(k : Int)] rfl (one_cell _ _ _) (by omega)
                refine wpAny_all (rs := [3]) (by kernel_rfl) (by simp) (fun i hi => ?_)
                obtain rfl : i = 3 := by simpa using hi
                refine wpOp_append rfl rfl _ _ 24 rfl rfl rfl hrun ?_
                have hog : Own w2 g 3 1 K cg T := ((show Own w1.drew g 3 1 K cg T from HW.out.2.1).alloc _).grown hg2 (by omega)
                obtain ⟨gz, cz, w3, hrun3, ho3, hg3, hl3⟩ := run_app (P := Try.prog) w2 24 24 3 _ 1 8 Try.underlying24 info_int rfl (by decide) (by decide) gy (j + 1) cy (T.take j ++ [(k : Int)]) ho2 ⟨g, (j + 1), none⟩ (K - (j + 1)) (cg - (j + 1)) (T.drop (j + 1)) (by rw [List.length_drop, HT.out]; omega) (fun i z hi => by rw [Go.WideShapes.add_plain]; have := hog.cells (i := (j + 1) + i) (z := z) (by rw [← List.getElem?_drop]; exact hi); exact this) (by omega)
                refine wpAny_all (rs := [8]) (by kernel_rfl) (by simp) (fun i hi => ?_)
                obtain rfl : i = 8 := by simpa using hi
                refine wpOp_append rfl rfl _ _ 24 rfl rfl rfl hrun3 ?_
                refine wpAny_take (i := 9) (v := .slice (some ⟨gz, 0, none⟩) (j + 1 + (K - (j + 1))) cz) rfl (by kernel_rfl) (by kernel_rfl) (by kernel_rfl) (fun _ _ _ h => h) (Or.inl ⟨by rfl, ?_⟩) ?_
                focus ((intro w; go_simp); done)
                refine wpAny_done (by kernel_rfl) ?_ _
                have hX : ((T.take j ++ [(k : Int)]) ++ T.drop (j + 1)).length = K := by have := hog.len; have := HT.out; simp; omega
                have eX : (T.take j ++ [(k : Int)]) ++ T.drop (j + 1) = T.take j ++ (k : Int) :: T.drop (j + 1) := by simp
                have hX' : isT N rs ((T.take j ++ [(k : Int)]) ++ T.drop (j + 1)) = false := by
                  rw [eX]
                  refine hlst.out j u k HZ.out (by omega) (by omega) (fun y' hy' hpos => ?_)
                  have := HJ0.out
                  omega
                have c4 := fun kk cc (gg : Nat) w h hh hk => Lib.hid (iTreeIs_at N m kk (some ⟨P, 0, none⟩) (some ⟨gg, 0, none⟩) c cc rs ((T.take j ++ [(k : Int)]) ++ T.drop (j + 1)) false w h hh HM.out hk (by omega) (by omega) hX')
                have hz2 := hg2.size
                have hz3 := hg3.size
                have hsd : w1.drew.heap.size = w1.heap.size := rfl
                (try simp at hz2)
                have hb2 : Below wt.heap.size wt w2 := below_gr ((show Below wt.heap.size wt w1.drew from ⟨HW.out.2.2.1.os, HW.out.2.2.1.tape, HW.out.2.2.1.output, HW.out.2.2.1.size, HW.out.2.2.1.block⟩).alloc (by omega) (.cells #[.int .i64 k] 3)) hg2 (by omega) (by simp; omega)
                have hb3 : Below wt.heap.size wt w3 := below_gr hb2 hg3 (by rcases hl2 with e | e; (omega); (simp at e; omega)) (by have := hb2.size; omega)
                have HX := Lib.hid (And.intro ho3 (And.intro hb3 (And.intro hX hb3.size)))
                clear hrun hrun3 ho2 hg2 hl2 hog ho3 hg3 hl3 hX eX hX' hb2 hb3
                go_wp2_with (go_at_call 15; (with_reducible refine ((c4 _ _ _ _ ?_ ?_ ?_).out).mono ?_); (focus (exact HRt.out.below HX.out.2.1; done)); (focus (exact HX.out.1.ints; done)); (focus (have := HX.out.2.2.1; (try simp only [List.length_append] at this ⊢); omega)); rintro e wx ⟨rfl, hb_wx⟩; have hs_wx := hb_wx.size)
                go_roundw
                case rel => exact ⟨k + 1, by omega, by go_num, HX.out.2.1.trans (hb_wx.mono HX.out.2.2.2)⟩
                case measure => simp [intOf]; omega
            · obtain ⟨y, hy⟩ : ∃ y, T[j - 1]? = some y := ⟨_, List.getElem?_eq_getElem (by have := HT.out; omega)⟩
              have hj1 : (j : Int) - 1 = ((j - 1 : Nat) : Int) := by omega
              have hjp : (0 : Int) < (j : Int) := by omega
              have hjq : ((j - 1 : Nat) : Int) < (K : Int) := by omega
              have e1 := OQ.out.cells hy
              by_cases hyk : (k : Int) ≤ y
              · go_wp2_with (at_builtin; refine wp_append _ rfl _ _ 24 rfl 3 _ 1 8 Try.underlying24 info_int rfl (by decide) (by decide) _ 0 0 [] rfl (Own.empty _ _ _) _ _ _ (T.take j) rfl hlt1 (ints_cells hIt.out) (by omega) ?_; intro gx cx w1 hown hgr hloc hsz; have hs_w1 := hgr.size; (try simp at hs_w1); have HN := Lib.hid (And.intro hown (And.intro hgr hloc)); have e0' := cell_over e0 hgq hgr (by omega); (try have e1' := cell_over e1 hgq hgr (by omega)); clear hown hgr hloc; simp only [Nat.zero_add])
                go_roundw
                case rel => exact ⟨k + 1, by omega, by go_num, below_gr (HBq.out.alloc (by omega) (.cells #[] 3)) HN.out.2.1 (by omega) (by simp; omega)⟩
                case measure => simp [intOf]; omega
              · go_upto_region 16 with (at_builtin; refine wp_append _ rfl _ _ 24 rfl 3 _ 1 8 Try.underlying24 info_int rfl (by decide) (by decide) _ 0 0 [] rfl (Own.empty _ _ _) _ _ _ (T.take j) rfl hlt1 (ints_cells hIt.out) (by omega) ?_; intro gx cx w1 hown hgr hloc hsz; have hs_w1 := hgr.size; (try simp at hs_w1); have HN := Lib.hid (And.intro hown (And.intro hgr hloc)); have e0' := cell_over e0 hgq hgr (by omega); (try have e1' := cell_over e1 hgq hgr (by omega)); clear hown hgr hloc; simp only [Nat.zero_add])
                have hown : Own w1 gx 3 1 j cx (T.take j) := by have := HN.out.1; simpa using this
                have hgx : wq.heap.size ≤ gx := by
                  rcases HN.out.2.2 with e | e
                  · omega
                  · simp at e; omega
                have hot : Own w1 g 3 1 K cg T := (OQ.out.alloc _).grown HN.out.2.1 (by omega)
                have hb1 : Below wt.heap.size wt w1 := below_gr (HBq.out.alloc (by omega) (.cells #[] 3)) HN.out.2.1 (by omega) (by simp; omega)
                have hgx2 := hgx
                have HY := Lib.hid hy
                clear hy
                have HW := Lib.hid (And.intro hown (And.intro hot (And.intro hb1 (And.intro hgx hs_w1))))
                clear HN e0 e0' e1 e1' hsz hown hot hb1 hIt hlt1 hgx
                have hJ1 : ((j : Int) + 1) ≤ (K : Int) := by omega
                have hJ0 : (0 : Int) ≤ ((j : Int) + 1) := by omega
                have hJt : (((j : Int) + 1) : Int).toNat = (j + 1) := by omega
                have hJ2 : ((j : Int) + 1) ≤ (cg : Int) := by omega
                refine wp_region_any (by kernel_rfl) ?_
                change wpAny _ _ _ _ _ _ _ (World.drew _)
                refine wpAny_take (i := 0) (v := .slice (some ⟨gx, 0, none⟩) j cx) rfl (by kernel_rfl) (by kernel_rfl) (by kernel_rfl) (fun _ _ _ h => h) (Or.inl ⟨by rfl, ?_⟩) ?_
                focus ((intro w; go_simp); (try exact wrap_id (by omega) (by omega)); done)
                refine wpAny_take (i := 1) (v := .int .i64 k) rfl (by kernel_rfl) (by kernel_rfl) (by kernel_rfl) (fun _ _ _ h => h) (Or.inl ⟨by rfl, ?_⟩) ?_
                focus ((intro w; go_simp); (try exact wrap_id (by omega) (by omega)); done)
                refine wpAny_take (i := 4) (v := .slice (some ⟨g, 0, none⟩) K cg) rfl (by kernel_rfl) (by kernel_rfl) (by kernel_rfl) (fun _ _ _ h => h) (Or.inl ⟨by rfl, ?_⟩) ?_
                focus ((intro w; go_simp); (try exact wrap_id (by omega) (by omega)); done)
                refine wpAny_take (i := 5) (v := .int .i64 j) rfl (by kernel_rfl) (by kernel_rfl) (by kernel_rfl) (fun _ _ _ h => h) (Or.inl ⟨by rfl, ?_⟩) ?_
                focus ((intro w; go_simp); (try exact wrap_id (by omega) (by omega)); done)
                refine wpAny_take (i := 6) (v := .int .i64 ((j : Int) + 1)) rfl (by kernel_rfl) (by kernel_rfl) (by kernel_rfl) (fun _ _ _ h => h) (Or.inl ⟨by rfl, ?_⟩) ?_
                focus ((intro w; go_simp); (try exact wrap_id (by omega) (by omega)); done)
                by_cases hcj : cg = (j + 1)
                · subst hcj
                  refine wpAny_take (i := 7) (v := .slice (some ⟨g, 0, none⟩) 0 0) rfl (by kernel_rfl) (by kernel_rfl) (by kernel_rfl) (fun _ _ _ h => h) (Or.inl ⟨by rfl, ?_⟩) ?_
                  focus ((intro w; go_simp); done)
                  refine wpAny_ready (rs := [2]) (by kernel_rfl) (by simp) ?_
                  refine AllReady.cons rfl (fun K' hK => ?_) AllReady.nil
                  go_simp
                  refine hK _ _ ?_
                  clear hK K'
                  obtain ⟨gy, cy, w2, hrun, ho2, hg2, hl2⟩ := run_app (P := Try.prog) (w1.drew.alloc (.cells #[.int .i64 k] 3)) 24 24 3 _ 1 8 Try.underlying24 info_int rfl (by decide) (by decide) gx j cx (T.take j) ((show Own w1.drew gx 3 1 j cx (T.take j) from HW.out.1).alloc _) ⟨w1.drew.heap.size, 0, none⟩ 1 1 [(k : Int)] rfl (one_cell _ _ _) (by omega)
                  refine wpAny_all (rs := [3]) (by kernel_rfl) (by simp) (fun i hi => ?_)
                  obtain rfl : i = 3 := by simpa using hi
                  refine wpOp_append rfl rfl _ _ 24 rfl rfl rfl hrun ?_
                  have hog : Own w2 g 3 1 K (j + 1) T := ((show Own w1.drew g 3 1 K (j + 1) T from HW.out.2.1).alloc _).grown hg2 (by omega)
                  obtain ⟨gz, cz, w3, hrun3, ho3, hg3, hl3⟩ := run_app (P := Try.prog) w2 24 24 3 _ 1 8 Try.underlying24 info_int rfl (by decide) (by decide) gy (j + 1) cy (T.take j ++ [(k : Int)]) ho2 ⟨g, 0, none⟩ 0 0 [] rfl (fun i z hi => by simp at hi) (by omega)
                  refine wpAny_all (rs := [8]) (by kernel_rfl) (by simp) (fun i hi => ?_)
                  obtain rfl : i = 8 := by simpa using hi
                  refine wpOp_append rfl rfl _ _ 24 rfl rfl rfl hrun3 ?_
                  refine wpAny_take (i := 9) (v := .slice (some ⟨gz, 0, none⟩) (j + 1 + 0) cz) rfl (by kernel_rfl) (by kernel_rfl) (by kernel_rfl) (fun _ _ _ h => h) (Or.inl ⟨by rfl, ?_⟩) ?_
                  focus ((intro w; go_simp); done)
                  refine wpAny_done (by kernel_rfl) ?_ _
                  have hX : ((T.take j ++ [(k : Int)]) ++ ([] : List Int)).length = K := by have := hog.len; have := HT.out; simp; omega
                  have eX : (T.take j ++ [(k : Int)]) ++ ([] : List Int) = T.take j ++ (k : Int) :: T.drop (j + 1) := by rw [List.drop_eq_nil_of_le (by have := HT.out; omega)]; simp
                  have hX' : isT N rs ((T.take j ++ [(k : Int)]) ++ ([] : List Int)) = false := by
                    rw [eX]
                    refine hlst.out j u k HZ.out (by omega) (by omega) (fun y' hy' hpos => ?_)
                    (obtain rfl : y = y' := by rw [HY.out] at hy'; cases hy'; rfl)
                    omega
                  have c4 := fun kk cc (gg : Nat) w h hh hk => Lib.hid (iTreeIs_at N m kk (some ⟨P, 0, none⟩) (some ⟨gg, 0, none⟩) c cc rs ((T.take j ++ [(k : Int)]) ++ ([] : List Int)) false w h hh HM.out hk (by omega) (by omega) hX')
                  have hz2 := hg2.size
                  have hz3 := hg3.size
                  have hsd : w1.drew.heap.size = w1.heap.size := rfl
                  (try simp at hz2)
                  have hb2 : Below wt.heap.size wt w2 := below_gr ((show Below wt.heap.size wt w1.drew from ⟨HW.out.2.2.1.os, HW.out.2.2.1.tape, HW.out.2.2.1.output, HW.out.2.2.1.size, HW.out.2.2.1.block⟩).alloc (by omega) (.cells #[.int .i64 k] 3)) hg2 (by omega) (by simp; omega)
                  have hb3 : Below wt.heap.size wt w3 := below_gr hb2 hg3 (by rcases hl2 with e | e; (omega); (simp at e; omega)) (by have := hb2.size; omega)
                  have HX := Lib.hid (And.intro ho3 (And.intro hb3 (And.intro hX hb3.size)))
                  clear hrun hrun3 ho2 hg2 hl2 hog ho3 hg3 hl3 hX eX hX' hb2 hb3
                  go_wp2_with (go_at_call 15; (with_reducible refine ((c4 _ _ _ _ ?_ ?_ ?_).out).mono ?_); (focus (exact HRt.out.below HX.out.2.1; done)); (focus (exact HX.out.1.ints; done)); (focus (have := HX.out.2.2.1; (try simp only [List.length_append] at this ⊢); omega)); rintro e wx ⟨rfl, hb_wx⟩; have hs_wx := hb_wx.size)
                  go_roundw
                  case rel => exact ⟨k + 1, by omega, by go_num, HX.out.2.1.trans (hb_wx.mono HX.out.2.2.2)⟩
                  case measure => simp [intOf]; omega
                · have hc1 : ¬ cg ≤ (j + 1) := by omega
                  have hc2 : ¬ (cg : Int) = ((j : Int) + 1) := by omega
                  have hc3 : ((j : Int) + 1) < (cg : Int) := by omega
                  have hc4 : ¬ cg - (j + 1) = 0 := by omega
                  have hc5 : (j + 1) < cg := by omega
                  refine wpAny_take (i := 7) (v := .slice (some ⟨g, (j + 1), none⟩) (K - (j + 1)) (cg - (j + 1))) rfl (by kernel_rfl) (by kernel_rfl) (by kernel_rfl) (fun _ _ _ h => h) (Or.inl ⟨by rfl, ?_⟩) ?_
                  focus ((intro w; go_simp); done)
                  refine wpAny_ready (rs := [2]) (by kernel_rfl) (by simp) ?_
                  refine AllReady.cons rfl (fun K' hK => ?_) AllReady.nil
                  go_simp
                  refine hK _ _ ?_
                  clear hK K'
                  obtain ⟨gy, cy, w2, hrun, ho2, hg2, hl2⟩ := run_app (P := Try.prog) (w1.drew.alloc (.cells #[.int .i64 k] 3)) 24 24 3 _ 1 8 Try.underlying24 info_int rfl (by decide) (by decide) gx j cx (T.take j) ((show Own w1.drew gx 3 1 j cx (T.take j) from HW.out.1).alloc _) ⟨w1.drew.heap.size, 0, none⟩ 1 1 [(k : Int)] rfl (one_cell _ _ _) (by omega)
                  refine wpAny_all (rs := [3]) (by kernel_rfl) (by simp) (fun i hi => ?_)
                  obtain rfl : i = 3 := by simpa using hi
                  refine wpOp_append rfl rfl _ _ 24 rfl rfl rfl hrun ?_
                  have hog : Own w2 g 3 1 K cg T := ((show Own w1.drew g 3 1 K cg T from HW.out.2.1).alloc _).grown hg2 (by omega)
                  obtain ⟨gz, cz, w3, hrun3, ho3, hg3, hl3⟩ := run_app (P := Try.prog) w2 24 24 3 _ 1 8 Try.underlying24 info_int rfl (by decide) (by decide) gy (j + 1) cy (T.take j ++ [(k : Int)]) ho2 ⟨g, (j + 1), none⟩ (K - (j + 1)) (cg - (j + 1)) (T.drop (j + 1)) (by rw [List.length_drop, HT.out]; omega) (fun i z hi => by rw [Go.WideShapes.add_plain]; have := hog.cells (i := (j + 1) + i) (z := z) (by rw [← List.getElem?_drop]; exact hi); exact this) (by omega)
                  refine wpAny_all (rs := [8]) (by kernel_rfl) (by simp) (fun i hi => ?_)
                  obtain rfl : i = 8 := by simpa using hi
                  refine wpOp_append rfl rfl _ _ 24 rfl rfl rfl hrun3 ?_
                  refine wpAny_take (i := 9) (v := .slice (some ⟨gz, 0, none⟩) (j + 1 + (K - (j + 1))) cz) rfl (by kernel_rfl) (by kernel_rfl) (by kernel_rfl) (fun _ _ _ h => h) (Or.inl ⟨by rfl, ?_⟩) ?_
                  focus ((intro w; go_simp); done)
                  refine wpAny_done (by kernel_rfl) ?_ _
                  have hX : ((T.take j ++ [(k : Int)]) ++ T.drop (j + 1)).length = K := by have := hog.len; have := HT.out; simp; omega
                  have eX : (T.take j ++ [(k : Int)]) ++ T.drop (j + 1) = T.take j ++ (k : Int) :: T.drop (j + 1) := by simp
                  have hX' : isT N rs ((T.take j ++ [(k : Int)]) ++ T.drop (j + 1)) = false := by
                    rw [eX]
                    refine hlst.out j u k HZ.out (by omega) (by omega) (fun y' hy' hpos => ?_)
                    (obtain rfl : y = y' := by rw [HY.out] at hy'; cases hy'; rfl)
                    omega
                  have c4 := fun kk cc (gg : Nat) w h hh hk => Lib.hid (iTreeIs_at N m kk (some ⟨P, 0, none⟩) (some ⟨gg, 0, none⟩) c cc rs ((T.take j ++ [(k : Int)]) ++ T.drop (j + 1)) false w h hh HM.out hk (by omega) (by omega) hX')
                  have hz2 := hg2.size
                  have hz3 := hg3.size
                  have hsd : w1.drew.heap.size = w1.heap.size := rfl
                  (try simp at hz2)
                  have hb2 : Below wt.heap.size wt w2 := below_gr ((show Below wt.heap.size wt w1.drew from ⟨HW.out.2.2.1.os, HW.out.2.2.1.tape, HW.out.2.2.1.output, HW.out.2.2.1.size, HW.out.2.2.1.block⟩).alloc (by omega) (.cells #[.int .i64 k] 3)) hg2 (by omega) (by simp; omega)
                  have hb3 : Below wt.heap.size wt w3 := below_gr hb2 hg3 (by rcases hl2 with e | e; (omega); (simp at e; omega)) (by have := hb2.size; omega)
                  have HX := Lib.hid (And.intro ho3 (And.intro hb3 (And.intro hX hb3.size)))
                  clear hrun hrun3 ho2 hg2 hl2 hog ho3 hg3 hl3 hX eX hX' hb2 hb3
                  go_wp2_with (go_at_call 15; (with_reducible refine ((c4 _ _ _ _ ?_ ?_ ?_).out).mono ?_); (focus (exact HRt.out.below HX.out.2.1; done)); (focus (exact HX.out.1.ints; done)); (focus (have := HX.out.2.2.1; (try simp only [List.length_append] at this ⊢); omega)); rintro e wx ⟨rfl, hb_wx⟩; have hs_wx := hb_wx.size)
                  go_roundw
                  case rel => exact ⟨k + 1, by omega, by go_num, HX.out.2.1.trans (hb_wx.mono HX.out.2.2.2)⟩
                  case measure => simp [intOf]; omega
          · have e : k = u := by omega
            subst e
            go_wp2_with fail
            go_roundw
            case rel => exact ⟨j + 1, by omega, by go_num, HBq.out⟩
            case measure => simp [intOf]; omega
      · have e : j = K := by omega
        subst e
        have c3 := fun w h hh => Lib.hid (iTreeIs_at N m j (some ⟨P, 0, none⟩) (some ⟨g, 0, none⟩) c cg rs T true w h hh HM.out HT.out (by omega) (by omega) (isT_true.2 htr.out))
        have hbt : Below w.heap.size w wr := HB3.out.trans (hbr.mono hs3)
        have hst := hbt.size
        go_wp2_with ((go_at_call 15; (with_reducible refine ((c3 _ ?_ ?_).out).mono ?_); (focus ((exact HRt.out.below hbr); done)); (focus ((exact (OT.out.below hbr).ints); done)); rintro e wx ⟨rfl, hb_wx⟩; have hs_wx := hb_wx.size; (try simp at hs_wx)))
        go_ret
        exact ⟨rfl, hbt.trans (hb_wx.mono hst)⟩
theorem walk_long (len cap : Nat) (p : Option Addr) (w : World) (hl : 1048576 < len) :
    Calls Try.prog 4 #[.slice p len cap] w fun e w' => e = .returned (.bool true) ∧ Below w.heap.size w w' := by
  have hl' : (1048576 : Int) < (len : Int) := by omega
  go_enter Try.func4, Try.ntmps4
  go_wp2
  go_ret
  exact ⟨rfl, Below.refl _ _⟩

set_option maxRecDepth 100000 in
theorem lifted (os : Os) (started : os.Started) (H : Type) (enc : TypeId × Value → H) :
    ReturnsInHanded {} Try.checked os 4 .any (Rows.fnTreeFirstSpec.pre6 enc Try.prog Try.f4 Rows.fnTreeFirstRow.domain false) (Rows.fnTreeFirstSpec.post enc Try.prog Try.f4 false true false false) := by
  refine returnsInHanded_of_change (C := Try.checked) own started (by kernel_rfl) Try.func4
    (ChangeSpec.witness6 (enc := enc) (C := Try.checked) false ⟨#[], #[.slice none 0 0], []⟩ 8 (by kernel_rfl) (by kernel_rfl) (by kernel_rfl) (by kernel_rfl)) ?_
  intro W base args ds gs before hval0 hW hcnd _
  have hval : ∀ (j : Nat) t v, Try.f4.params[j]? = some t → args[j]? = some v → Value.okWide Try.prog W .any base t v := hval0
  have hW' := hW
  obtain ⟨p, q, hA0, hV, rfl, hfz, hnd⟩ := hW
  have hA : DataW.TrodAll enc Try.prog W 0 (fun _ => true) true Try.f4.params.toList args.toList ds p := hA0
  rw [Try.params4] at hA hval
  obtain ⟨v0, vs0, d0, ds0, p0, q0, hargs, rfl, rfl, h0, r0⟩ := trodAll_cons hA
  obtain ⟨rfl, rfl, rfl⟩ := trodAll_nil r0
  obtain rfl : args = #[v0] := by cases args; simp_all
  obtain ⟨rfl, rfl⟩ := trodVars_none hV
  obtain ⟨a0, len0, cap0, rfl⟩ := okWide_slice Try.underlying22 (hval 0 22 v0 rfl rfl)
  have k0 := h0
  have lt0 : ∀ x ∈ p0, x.block < W.heap.size := by obtain ⟨m, hm⟩ := k0; exact DataW.trod_lt m _ _ _ hm
  obtain ⟨z0, w0⟩ : ∃ zs, IsRow .u8 W a0 len0 cap0 zs := by
    obtain ⟨fuel, hf⟩ := h0
    rcases open_ints Try.underlying22 Try.underlying5 (by kernel_rfl) hf with ⟨hcs, _⟩ | ⟨x, l, c, zs, hcs, _, hl, hm, hz, _, hcell, hwz⟩
    · simp [Value.cells] at hcs
      obtain ⟨rfl, rfl, rfl⟩ := hcs
      exact ⟨[], .inl ⟨rfl, rfl, rfl, rfl⟩⟩
    · simp [Value.cells] at hcs
      obtain ⟨rfl, rfl, rfl⟩ := hcs
      exact ⟨zs, .inr ⟨_, rfl, hl, hm, by simpa using hz, hcell, hwz⟩⟩
  clear hA0 hval0
  have hw : Calls Try.prog 4 #[.slice a0 len0 cap0] W fun e w' => e = .returned (.bool true) ∧ Below W.heap.size W w' := by
    by_cases hl : len0 ≤ 1048576
    · exact walk len0 cap0 a0 W hl (Lib.hid (code_of_row w0 hl))
    · exact walk_long len0 cap0 a0 W (by omega)
  refine hw.mono fun e W' ⟨he, bel⟩ => ?_
  subst he
  exact ⟨_, rfl, _, _, _, [], _, [], hW', trodAll_mk1 (shut_bool Try.underlying4 _), (trodAll_cons_mk (Below.trod laidOut (by kernel_rfl) (of_decide_eq_true (by kernel_rfl)) k0 bel lt0) trodAll_mk0), rfl, bel.frame _, fun h => by cases h⟩

theorem over : Rows.fnTreeFirstRow.holds Try.pinned (OpenSpec.ofChange Rows.fnTreeFirstSpec) :=
  OpenClaim.holds_of_wide 4 Try.f4 rfl rfl rfl rfl rfl rfl rfl ⟨rfl, rfl, rfl, rfl, rfl⟩ rfl rfl rfl rfl rfl (by kernel_rfl) Try.func4 (by kernel_rfl)
    (of_decide_eq_true (by kernel_rfl)) (by unfold Func.isWrapper; first | (rw [if_pos (by decide +kernel)]; kernel_rfl) | (rw [if_neg (by decide +kernel)]; exact ⟨rfl, rfl⟩))
    (fun os started H enc _ => lifted os started H enc)

theorem proved : Rows.FnTreeFirstSaid := over
end Go.Proofs.Ytgbnnepbnahecaa.fnTreeFirst

