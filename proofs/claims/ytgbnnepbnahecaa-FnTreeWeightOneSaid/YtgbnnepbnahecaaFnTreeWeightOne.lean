/-
  For every code the law FnTreeWeightOne returns true: impl.TreeWeight answers the summed weight of all trees as the reference model does; with all weights 1 it is how many trees there are, never more than the weight, and doubled weights double it once for each run of a tree. No condition: every list of bytes is taken.
-/
import Derived.Test.YtgbnnepbnahecaaTz
import Derived.Test.YtgbnnepbnahecaaUz
import Derived.Test.YtgbnnepbnahecaaNU
import Derived.Test.YtgbnnepbnahecaaDNi
import Derived.Test.YtgbnnepbnahecaaCode
namespace Go.Proofs.Ytgbnnepbnahecaa.fnTreeWeightOne
open Go.ChangeShapes Go.WideShapes Go.ChangeAt Go.RowKit
set_option linter.unusedVariables false

/-- the weights of the first j runs turned -/
def part (g : Int → Int) (j : Nat) (rs : List Rn) : List Rn := reW g (rs.take j) ++ rs.drop j
section
variable {g : Int → Int} {j : Nat} {rs : List Rn} {r : Rn}
theorem part_zero : part g 0 rs = rs := by simp [part, reW]
theorem part_all (h : rs.length ≤ j) : part g j rs = reW g rs := by unfold part; rw [List.take_of_length_le h, List.drop_eq_nil_of_le h, List.append_nil]
theorem part_len : (part g j rs).length = rs.length := by unfold part; rw [List.length_append, reW_len, List.length_take, List.length_drop]; omega
theorem part_at (h : rs[j]? = some r) : (part g j rs)[j]? = some r := by
  have hj := (List.getElem?_eq_some_iff.1 h).1
  have e : (reW g (rs.take j)).length = j := by rw [reW_len, List.length_take]; omega
  unfold part
  rw [List.getElem?_append_right (by omega), e, Nat.sub_self, List.getElem?_drop]
  exact h
theorem part_set (h : rs[j]? = some r) : (part g j rs).set j { r with g := g r.g } = part g (j + 1) rs := by
  have hj := (List.getElem?_eq_some_iff.1 h).1
  have e : (reW g (rs.take j)).length = j := by rw [reW_len, List.length_take]; omega
  have hr : rs[j] = r := (List.getElem?_eq_some_iff.1 h).2
  unfold part
  rw [List.set_append_right _ _ (by omega), e, Nat.sub_self, List.drop_eq_getElem_cons hj, List.set_cons_zero, List.take_add_one, h]
  simp [reW]
end
theorem own_setG {w : World} {g : Nat} {T : TypeId} {n cap : Nat} {rs : List Rn} (h : Own w g T 4 n cap (flat rs)) {i : Nat} {r : Rn} (hi : rs[i]? = some r) (z : Int) : Own (w.setCell ⟨g, i * 4 + 3, none⟩ (.int .i64 z)) g T 4 n cap (flat (rs.set i { r with g := z })) := by
  have hlt := (List.getElem?_eq_some_iff.1 hi).1
  have hl := flat_len rs
  have := h.set (i * 4 + 3) z (by omega)
  rw [flat_set _ hlt]
  obtain ⟨h1, h2, h3, h4⟩ := flat_at hi
  have e : (flat rs).set (i * 4 + 3) z = (((((flat rs).set (i * 4) r.f).set (i * 4 + 1) r.t).set (i * 4 + 2) r.s).set (i * 4 + 3) z) := by
    have a1 : (flat rs).set (i * 4) r.f = flat rs := by
      apply List.ext_getElem?; intro x; rw [List.getElem?_set]; split
      · next e => subst e; rw [h1]; simp [hl]; omega
      · rfl
    have a2 : (flat rs).set (i * 4 + 1) r.t = flat rs := by
      apply List.ext_getElem?; intro x; rw [List.getElem?_set]; split
      · next e => subst e; rw [h2]; simp [hl]; omega
      · rfl
    have a3 : (flat rs).set (i * 4 + 2) r.s = flat rs := by
      apply List.ext_getElem?; intro x; rw [List.getElem?_set]; split
      · next e => subst e; rw [h3]; simp [hl]; omega
      · rfl
    rw [a1, a2, a3]
  rw [← e]
  exact this
theorem heavy_small {N : Nat} {rs : List Rn} (hn : nOk N rs = true) : 0 ≤ heavy N rs ∧ heavy N rs ≤ 248832 * 59049 := sm_trees hn (List.prefix_refl _)

set_option maxHeartbeats 4000000 in
set_option maxRecDepth 100000 in
theorem walk (len cap : Nat) (p : Option Addr) (w : World) (hl : len ≤ 1048576) (h : Hid (Code' w (.slice p len cap))) :
    Calls Try.prog 6 #[.slice p len cap] w fun e w' => e = .returned (.bool true) ∧ Below w.heap.size w w' := by
  have hl' : ¬ (1048576 : Int) < (len : Int) := by omega
  go_enter Try.func6, Try.ntmps6
  go_upto_region 4 with (go_at_call 26; (with_reducible refine (drawTreeWeight_is _ _ h).mono ?_); rintro e wd ⟨N, m, rs, P, ⟨c, hmc, rfl⟩, hmm, ⟨hN2, hN6⟩, hm8, hR, hb_wd⟩; have hs_wd := hb_wd.size; have HR := Lib.hid hR; have HM := Lib.hid hmm; clear hR hmm)
  have hm8' : m ≤ 8 := by have := HM.out; omega
  clear h hm8
  obtain ⟨b, hn⟩ : ∃ b, nOk N rs = b := ⟨_, rfl⟩
  cases b
  · have c1 := fun w h => Lib.hid (iWeight_no N m c (some ⟨P, 0, none⟩) rs w h HM.out (by omega) hn)
    have c2 := fun w h => Lib.hid (sWeight_no N m c (some ⟨P, 0, none⟩) rs w h HM.out (by omega) hn)
    clear hn
    go_wp2_with (first | (go_at_call 27; (with_reducible refine ((c1 _ ?_).out).mono ?_); (focus ((exact HR.out); done)); rintro e wi ⟨rfl, hb_wi⟩; have hs_wi := hb_wi.size; (try simp at hs_wi)) | (go_at_call 28; (with_reducible refine ((c2 _ ?_).out).mono ?_); (focus ((exact HR.out.below hb_wi); done)); rintro e ws ⟨rfl, hb_ws⟩; have hs_ws := hb_ws.size; (try simp at hs_ws)))
    go_ret
    exact ⟨rfl, (by repeat (first | assumption | exact Below.refl _ _ | (refine below_chain ?_ (by assumption) (by first | omega | (simp <;> omega) | simp)) | (refine Below.alloc ?_ (by first | omega | (simp <;> omega) | simp) _) | (apply below_drewN) | (apply below_drew) | (refine Below.setCell ?_ (by first | omega | (simp <;> omega) | simp) _)))⟩
  · obtain ⟨M, hM⟩ : ∃ M, many N rs = M := ⟨_, rfl⟩
    obtain ⟨K, hK⟩ : ∃ K, heavy N rs = K := ⟨_, rfl⟩
    have hK0 : 0 ≤ K := by rw [← hK]; exact (heavy_small hn).1
    have hK9 : K ≤ 14693280768 := by have := (heavy_small hn).2; rw [hK] at this; omega
    have hKM : (M : Int) ≤ K := by have := heavy_ge hn; rw [hM, hK] at this; exact this
    have c1 := fun w h => Lib.hid (by have := iWeight_yes N m c (some ⟨P, 0, none⟩) rs w h HM.out hn; rw [hK] at this; exact this)
    have c2 := fun w h => Lib.hid (by have := sWeight_yes N m c (some ⟨P, 0, none⟩) rs w h HM.out hn; rw [hK] at this; exact this)
    have c3 := fun w h => Lib.hid (by have := iMany_yes N m c (some ⟨P, 0, none⟩) rs w h HM.out hn; rw [hM] at this; exact this)
    have c4 := fun w q c h => Lib.hid (by have := iWeight_yes N m c q (reW (fun _ => 1) rs) w h (by rw [reW_len]; exact HM.out) (heavy_one hn).1; rw [(heavy_one hn).2, hM] at this; exact this)
    have c5 := fun (h2 : ∀ r ∈ rs, 2 * r.g ≤ 9) w q c h => Lib.hid (by have := iWeight_yes N m c q (reW (2 * ·) rs) w h (by rw [reW_len]; exact HM.out) (heavy_two hn h2).1; rw [(heavy_two hn h2).2, hK] at this; exact this)
    have hP : 0 < m → P < wd.heap.size := fun h0 => by
      obtain ⟨B, o, r, e, -, hB, -⟩ := HR.out.at (i := 0) (by have := HM.out; omega)
      cases e; omega
    have HG : Hid (∀ r ∈ rs, 1 ≤ r.g ∧ r.g ≤ 9) := Lib.hid (fun r hr => by
      obtain ⟨i, hi⟩ := List.getElem?_of_mem hr
      obtain ⟨-, -, -, -, -, -, -, a, b⟩ := rOk_true ((nOk_true hn).2.2.2 i r hi)
      exact ⟨a, b⟩)
    have HK := Lib.hid hKM
    clear hn hM hK hKM
    have hK0' : ¬ K < 0 := by omega
    go_upto_region 8 with (first | (go_at_call 27; (with_reducible refine ((c1 _ ?_).out).mono ?_); (focus ((exact HR.out); done)); rintro e wi ⟨rfl, hb_wi⟩; have hs_wi := hb_wi.size; (try simp at hs_wi)) | (go_at_call 28; (with_reducible refine ((c2 _ ?_).out).mono ?_); (focus ((exact HR.out.below hb_wi); done)); rintro e ws ⟨rfl, hb_ws⟩; have hs_ws := hb_ws.size; (try simp at hs_ws)))
    have HR2 := Lib.hid (HR.out.below (w' := ws) (by repeat (first | assumption | exact Below.refl _ _ | (refine below_chain ?_ (by assumption) (by first | omega | (simp <;> omega) | simp)) | (refine Below.alloc ?_ (by first | omega | (simp <;> omega) | simp) _) | (apply below_drewN) | (apply below_drew) | (refine Below.setCell ?_ (by first | omega | (simp <;> omega) | simp) _))))
    have hBW : Below w.heap.size w ws := (by repeat (first | assumption | exact Below.refl _ _ | (refine below_chain ?_ (by assumption) (by first | omega | (simp <;> omega) | simp)) | (refine Below.alloc ?_ (by first | omega | (simp <;> omega) | simp) _) | (apply below_drewN) | (apply below_drew) | (refine Below.setCell ?_ (by first | omega | (simp <;> omega) | simp) _)))
    have hsW := hBW.size
    clear c1 c2 HR hb_wd hb_wi hb_ws
    have hfl : (flat rs).length = m * 4 := by rw [flat_len, HM.out]
    have HF := Lib.hid hfl
    clear hfl
    go_upto_region 9 with (at_builtin; refine wp_append _ rfl _ _ 23 rfl 29 _ 4 32 Try.underlying23 info_run rfl (by decide) (by decide) _ 0 0 [] rfl (Own.empty _ _ 4) _ _ _ (flat rs) rfl HF.out (runs_cells (HR2.out.alloc _)) (by omega) ?_; intro g1 cap1 wb hown hg hloc hsz; simp only [Nat.zero_add, List.nil_append] at hown ⊢; have hg1 : ws.heap.size ≤ g1 := (by rcases hloc with rfl | rfl <;> simp); have hb_wb : Below ws.heap.size ws wb := below_gr ((Below.refl _ _).alloc (Nat.le_refl _) _) hg (Nat.le_refl _) (by simp); have hs_wb := hb_wb.size; have hlo1 := hown.lt; have HO1 := Lib.hid hown; clear hown hg hloc)
    have HR3 := Lib.hid (HR2.out.below hb_wb)
    go_upto_region 10 with (at_builtin; refine wp_append _ rfl _ _ 23 rfl 29 _ 4 32 Try.underlying23 info_run rfl (by decide) (by decide) _ 0 0 [] rfl (Own.empty _ _ 4) _ _ _ (flat rs) rfl HF.out (runs_cells (HR3.out.alloc _)) (by omega) ?_; intro g2 cap2 wc hown hg hloc hsz2; simp only [Nat.zero_add, List.nil_append] at hown ⊢; have hg2 : wb.heap.size ≤ g2 := (by rcases hloc with rfl | rfl <;> simp); have hb_wc : Below wb.heap.size wb wc := below_gr ((Below.refl _ _).alloc (Nat.le_refl _) _) hg (Nat.le_refl _) (by simp); have hs_wc := hb_wc.size; have hlo2 := hown.lt; have HO2 := Lib.hid hown; clear hown hg hloc)
    have HR4 := Lib.hid (HR3.out.below hb_wc)
    have HO3 := Lib.hid (HO1.out.below hb_wc)
    have hBc : Below ws.heap.size ws wc := hb_wb.trans (hb_wc.mono hs_wb)
    have HB := Lib.hid (hBW.trans (hBc.mono (by omega)))
    have hne : g1 ≠ g2 := by omega
    have hg2' : ws.heap.size ≤ g2 := by omega
    have hP' : 0 < m → P < ws.heap.size := fun h0 => by have := hP h0; omega
    clear HR2 HR3 HO1 hb_wb hb_wc hBW hBc hg2 hP
    go_wp2_with fail
    go_loopw [9, 11] (fun v i wr => ∃ (j : Nat) (b : Bool), j ≤ m ∧ i = .int .i64 j ∧ v = .bool b ∧ (b = true ↔ ∀ r ∈ rs.take j, 2 * r.g ≤ 9) ∧ Own wr g1 29 4 m cap1 (flat (part (fun _ => 1) j rs)) ∧ Own wr g2 29 4 m cap2 (flat (part (2 * ·) j rs)) ∧ Below ws.heap.size wc wr) (fun _ i _ => m - (intOf i).toNat)
    case atStart => exact ⟨0, true, Nat.zero_le _, rfl, rfl, by simp, by rw [part_zero]; exact HO3.out, by rw [part_zero]; exact HO2.out, Below.refl _ _⟩
    case round =>
      obtain ⟨j, b, hj, rfl, rfl, hb, ho1, ho2, hbr⟩ := hrel
      have hbs := hbr.size
      by_cases hlt : j < m
      · have hP2 := hP' (by omega)
        have hrr := HR4.out.keep (w' := wr) (fun B o e => by cases e; exact hbr.block _ hP2) hbr.size
        obtain ⟨B, o, r, e, hr, hB, x0, x1, x2, x3⟩ := hrr.at (i := j) (by have := HM.out; omega)
        cases e
        simp only [Nat.zero_add] at x3
        have hrg := HG.out r (List.mem_of_getElem? hr)
        have hf1 := ho1.frozen (j * 4 + 3)
        have hf2 := ho2.frozen (j * 4 + 3)
        have y3 := (ho1.runAt (part_at hr)).2.2.2
        have z3 := (ho2.runAt (part_at hr)).2.2.2
        have HO := Lib.hid (And.intro ho1 (And.intro ho2 (And.intro hbr (And.intro hb hr))))
        have hPg1 : P ≠ g1 := by omega
        have hPg2 : P ≠ g2 := by omega
        obtain ⟨rg1, rg9⟩ := hrg
        clear ho1 ho2 hbr hb hr hrr x0 x1 x2
        have fin : ∀ b' : Bool, (b' = true ↔ ∀ r ∈ rs.take (j + 1), 2 * r.g ≤ 9) → (∃ (j' : Nat) (b'' : Bool), j' ≤ m ∧ (Value.int .i64 ((j : Int) + 1)) = .int .i64 j' ∧ Value.bool b' = .bool b'' ∧ (b'' = true ↔ ∀ r ∈ rs.take j', 2 * r.g ≤ 9) ∧ Own ((wr.setCell ⟨g1, j * 4 + 3, none⟩ (.int .i64 1)).setCell ⟨g2, j * 4 + 3, none⟩ (.int .i64 (2 * r.g))) g1 29 4 m cap1 (flat (part (fun _ => 1) j' rs)) ∧ Own ((wr.setCell ⟨g1, j * 4 + 3, none⟩ (.int .i64 1)).setCell ⟨g2, j * 4 + 3, none⟩ (.int .i64 (2 * r.g))) g2 29 4 m cap2 (flat (part (2 * ·) j' rs)) ∧ Below ws.heap.size wc ((wr.setCell ⟨g1, j * 4 + 3, none⟩ (.int .i64 1)).setCell ⟨g2, j * 4 + 3, none⟩ (.int .i64 (2 * r.g)))) := fun b' hb' => by
          obtain ⟨ho1, ho2, hbr, -, hr⟩ := HO.out
          refine ⟨j + 1, b', by omega, by go_num, rfl, hb', ?_, ?_, ?_⟩
          · rw [← part_set (g := fun _ => 1) hr]
            exact (own_setG ho1 (part_at hr) 1).setOther hne _
          · rw [← part_set (g := (2 * ·)) hr]
            exact own_setG (ho2.setOther (a := ⟨g1, j * 4 + 3, none⟩) (Ne.symm hne) (.int .i64 1)) (part_at hr) (2 * r.g)
          · exact Below.setCell (Below.setCell hbr (show ws.heap.size ≤ (⟨g1, j * 4 + 3, none⟩ : Addr).block from hg1) _) (show ws.heap.size ≤ (⟨g2, j * 4 + 3, none⟩ : Addr).block from hg2') _
        have htk : rs.take (j + 1) = rs.take j ++ [r] := by rw [List.take_add_one, HO.out.2.2.2.2]; rfl
        have FIN := Lib.hid fin
        have HTK := Lib.hid htk
        clear fin htk
        cases b
        · go_wp2_with fail
          refine ⟨FIN.out false ?_, by simp [intOf]; omega⟩
          constructor
          · intro h; cases h
          · intro h
            exact HO.out.2.2.2.1.2 (fun r' hr' => h r' (by rw [HTK.out]; exact List.mem_append_left _ hr'))
        · go_wp2_with fail
          refine ⟨FIN.out (decide (2 * r.g ≤ 9)) ?_, by simp [intOf]; omega⟩
          rw [decide_eq_true_iff, HTK.out]
          constructor
          · intro h r' hr'
            rcases List.mem_append.1 hr' with h1 | h1
            · exact HO.out.2.2.2.1.1 rfl r' h1
            · simp at h1; subst h1; exact h
          · intro h
            exact h r (by simp)
      · have e : j = m := by omega
        subst e
        rw [List.take_of_length_le (Nat.le_of_eq HM.out)] at hb
        rw [part_all (Nat.le_of_eq HM.out)] at ho1 ho2
        have HO := Lib.hid (And.intro ho1.runs (And.intro ho2.runs hb))
        have HRr := Lib.hid (show Runs wr (some ⟨P, 0, none⟩) rs from by
          by_cases h0 : 0 < j
          · have hP2 := hP' h0
            exact HR4.out.keep (fun B o e => by cases e; exact hbr.block _ hP2) hbr.size
          · exact .inl (List.eq_nil_of_length_eq_zero (by have := HM.out; omega)))
        have hB2 : Below w.heap.size w wr := HB.out.trans (hbr.mono hsW)
        have hsB2 := hB2.size
        clear ho1 ho2 hb hbr HO2 HO3 HR4 HB hlt hj HM HG hbs
        go_wp2_with fail
        obtain ⟨q0, hq0⟩ : ∃ q0 : Nat, 2 ^ (N - 1) = q0 := ⟨_, rfl⟩
        have hq32 : ∀ k : Nat, k ≤ 5 → 2 ^ k ≤ 32 := fun k hk => by
          have : k = 0 ∨ k = 1 ∨ k = 2 ∨ k = 3 ∨ k = 4 ∨ k = 5 := by omega
          rcases this with rfl | rfl | rfl | rfl | rfl | rfl <;> decide
        have HQ := Lib.hid hq32
        clear hq32
        go_loopw [10, 12] (fun y x wz => ∃ (q k : Nat), 1 ≤ k ∧ k ≤ N ∧ y = .int .i64 q ∧ x = .int .i64 k ∧ q = 2 ^ (k - 1) ∧ q ≤ 32 ∧ wr = wz) (fun _ x _ => N - (intOf x).toNat)
        case atStart => exact ⟨1, 1, Nat.le_refl _, by omega, rfl, rfl, rfl, by omega, rfl⟩
        case round =>
          obtain ⟨q, k, hk1, hkN, rfl, rfl, hqk, hq9, rfl⟩ := hrel
          have HQK := Lib.hid hqk
          clear hqk
          by_cases hlt : k < N
          · go_wp2_with fail
            have hk5 : k ≤ 5 := by omega
            have e2 : (2 * q : Nat) = 2 ^ k := by rw [HQK.out, ← Nat.pow_succ']; congr 1; omega
            have h32 := HQ.out k hk5
            refine ⟨⟨2 * q, k + 1, by omega, by omega, by go_num, by go_num, by rw [Nat.add_sub_cancel]; exact e2, by omega, by first | trivial | rfl⟩, by simp [intOf]; omega⟩
          · have e : k = N := by omega
            subst e
            have hqq : (2 : Int) ^ (k - 1) = (q : Int) := by rw [HQK.out]; simp
            rw [hqq] at c5
            clear HQK HQ hq0 hqq q0
            have hK0q : 0 ≤ (q : Int) * K := Int.mul_nonneg (by omega) hK0
            have hKq : (q : Int) * K ≤ 32 * 14693280768 := Int.mul_le_mul (by omega) hK9 hK0 (by omega)
            have hMK : (M : Int) ≤ K := HK.out
            cases b
            · go_wp2_with (first | (go_at_call 24; (with_reducible refine ((c3 _ ?_).out).mono ?_); (focus ((exact HRr.out); done)); rintro e wx ⟨rfl, hb_wx⟩; have hs_wx := hb_wx.size; (try simp at hs_wx)) | (go_at_call 27; (with_reducible refine ((c4 _ _ _ ?_).out).mono ?_); (focus ((exact HO.out.1.below hb_wx); done)); rintro e wy ⟨rfl, hb_wy⟩; have hs_wy := hb_wy.size; (try simp at hs_wy)))
              go_ret
              exact ⟨rfl, (by repeat (first | assumption | exact Below.refl _ _ | (refine below_chain ?_ (by assumption) (by first | omega | (simp <;> omega) | simp)) | (refine Below.alloc ?_ (by first | omega | (simp <;> omega) | simp) _) | (apply below_drewN) | (apply below_drew) | (refine Below.setCell ?_ (by first | omega | (simp <;> omega) | simp) _)))⟩
            · have c6 := c5 (HO.out.2.2.1 rfl)
              go_wp2_with (first | (go_at_call 24; (with_reducible refine ((c3 _ ?_).out).mono ?_); (focus ((exact HRr.out); done)); rintro e wx ⟨rfl, hb_wx⟩; have hs_wx := hb_wx.size; (try simp at hs_wx)) | (go_at_call 27; (with_reducible refine ((c4 _ _ _ ?_).out).mono ?_); (focus ((exact HO.out.1.below hb_wx); done)); rintro e wy ⟨rfl, hb_wy⟩; have hs_wy := hb_wy.size; (try simp at hs_wy)) | (go_at_call 27; (with_reducible refine ((c6 _ _ _ ?_).out).mono ?_); (focus ((exact (HO.out.2.1.below hb_wx).below hb_wy); done)); rintro e wz ⟨rfl, hb_wz⟩; have hs_wz := hb_wz.size; (try simp at hs_wz)))
              go_ret
              exact ⟨rfl, (by repeat (first | assumption | exact Below.refl _ _ | (refine below_chain ?_ (by assumption) (by first | omega | (simp <;> omega) | simp)) | (refine Below.alloc ?_ (by first | omega | (simp <;> omega) | simp) _) | (apply below_drewN) | (apply below_drew) | (refine Below.setCell ?_ (by first | omega | (simp <;> omega) | simp) _)))⟩

set_option maxRecDepth 100000 in
theorem walk_long (len cap : Nat) (p : Option Addr) (w : World) (hl : 1048576 < len) :
    Calls Try.prog 6 #[.slice p len cap] w fun e w' => e = .returned (.bool true) ∧ Below w.heap.size w w' := by
  have hl' : (1048576 : Int) < (len : Int) := by omega
  go_enter Try.func6, Try.ntmps6
  go_wp2
  go_ret
  exact ⟨rfl, Below.refl _ _⟩

set_option maxRecDepth 100000 in
theorem lifted (os : Os) (started : os.Started) (H : Type) (enc : TypeId × Value → H) :
    ReturnsInHanded {} Try.checked os 6 .any (Rows.fnTreeWeightOneSpec.pre6 enc Try.prog Try.f6 Rows.fnTreeWeightOneRow.domain false) (Rows.fnTreeWeightOneSpec.post enc Try.prog Try.f6 false true false false) := by
  refine returnsInHanded_of_change (C := Try.checked) own started (by kernel_rfl) Try.func6
    (ChangeSpec.witness6 (enc := enc) (C := Try.checked) false ⟨#[], #[.slice none 0 0], []⟩ 8 (by kernel_rfl) (by kernel_rfl) (by kernel_rfl) (by kernel_rfl)) ?_
  intro W base args ds gs before hval0 hW hcnd _
  have hval : ∀ (j : Nat) t v, Try.f6.params[j]? = some t → args[j]? = some v → Value.okWide Try.prog W .any base t v := hval0
  have hW' := hW
  obtain ⟨p, q, hA0, hV, rfl, hfz, hnd⟩ := hW
  have hA : DataW.TrodAll enc Try.prog W 0 (fun _ => true) true Try.f6.params.toList args.toList ds p := hA0
  rw [Try.params6] at hA hval
  obtain ⟨v0, vs0, d0, ds0, p0, q0, hargs, rfl, rfl, h0, r0⟩ := trodAll_cons hA
  obtain ⟨rfl, rfl, rfl⟩ := trodAll_nil r0
  obtain rfl : args = #[v0] := by cases args; simp_all
  obtain ⟨rfl, rfl⟩ := trodVars_none hV
  obtain ⟨a0, len0, cap0, rfl⟩ := okWide_slice Try.underlying22 (hval 0 22 v0 rfl rfl)
  have k0 := h0
  have lt0 : ∀ x ∈ p0, x.block < W.heap.size := by obtain ⟨m, hm⟩ := k0; exact DataW.trod_lt m _ _ _ hm
  obtain ⟨z0, w0⟩ : ∃ zs, IsRow .u8 W a0 len0 cap0 zs := by
    obtain ⟨fuel, hf⟩ := h0
    rcases open_ints Try.underlying22 Try.underlying5 (by kernel_rfl) hf with ⟨hcs, _⟩ | ⟨x, l, c, zs, hcs, _, hl, hm, hz, _, hcell, hwz⟩
    · simp [Value.cells] at hcs
      obtain ⟨rfl, rfl, rfl⟩ := hcs
      exact ⟨[], .inl ⟨rfl, rfl, rfl, rfl⟩⟩
    · simp [Value.cells] at hcs
      obtain ⟨rfl, rfl, rfl⟩ := hcs
      exact ⟨zs, .inr ⟨_, rfl, hl, hm, by simpa using hz, hcell, hwz⟩⟩
  clear hA0 hval0
  have hw : Calls Try.prog 6 #[.slice a0 len0 cap0] W fun e w' => e = .returned (.bool true) ∧ Below W.heap.size W w' := by
    by_cases hl : len0 ≤ 1048576
    · exact walk len0 cap0 a0 W hl (Lib.hid (code_of_row w0 hl))
    · exact walk_long len0 cap0 a0 W (by omega)
  refine hw.mono fun e W' ⟨he, bel⟩ => ?_
  subst he
  exact ⟨_, rfl, _, _, _, [], _, [], hW', trodAll_mk1 (shut_bool Try.underlying4 _), (trodAll_cons_mk (Below.trod laidOut (by kernel_rfl) (of_decide_eq_true (by kernel_rfl)) k0 bel lt0) trodAll_mk0), rfl, bel.frame _, fun h => by cases h⟩

theorem over : Rows.fnTreeWeightOneRow.holds Try.pinned (OpenSpec.ofChange Rows.fnTreeWeightOneSpec) :=
  OpenClaim.holds_of_wide 6 Try.f6 rfl rfl rfl rfl rfl rfl rfl ⟨rfl, rfl, rfl, rfl, rfl⟩ rfl rfl rfl rfl rfl (by kernel_rfl) Try.func6 (by kernel_rfl)
    (of_decide_eq_true (by kernel_rfl)) (by unfold Func.isWrapper; first | (rw [if_pos (by decide +kernel)]; kernel_rfl) | (rw [if_neg (by decide +kernel)]; exact ⟨rfl, rfl⟩))
    (fun os started H enc _ => lifted os started H enc)

theorem proved : Rows.FnTreeWeightOneSaid := over
end Go.Proofs.Ytgbnnepbnahecaa.fnTreeWeightOne

