/-
  For every code the law FnSpreadMore returns true: impl.SpreadOf answers as the reference model does; with one run of weight 1 more between both nodes the spread is less as the document says. No condition: every list of bytes is taken.
-/
import Derived.Test.YtenllemaccacgaaRl
import Derived.Test.YtenllemaccacgaaRd
import Derived.Test.YtenllemaccacgaaCode
namespace Go.Proofs.Ytenllemaccacgaa.fnSpreadMore
open Go.ChangeShapes Go.WideShapes Go.ChangeAt Go.RowKit
set_option linter.unusedVariables false

set_option maxHeartbeats 8000000 in
set_option maxRecDepth 100000 in
theorem walk (len cap : Nat) (p : Option Addr) (w : World) (hl : len ≤ 1048576) (h : Hid (Code' w (.slice p len cap))) :
    Calls Try.prog 4 #[.slice p len cap] w fun e w' => e = .returned (.bool true) ∧ Below w.heap.size w w' := by
  have hl' : ¬ (1048576 : Int) < (len : Int) := by omega
  go_enter Try.func4, Try.ntmps4
  go_upto_region 4 with (go_at_call 19; (with_reducible refine (drawSpread_is _ _ h).mono ?_); rintro e wd ⟨N, m, rs, B, u, v, ⟨c, hmc, rfl⟩, hmm, ⟨⟨hN2, hN6⟩, hl8, hR, hb_wd⟩, ⟨hu1, hu2⟩, hv1, hv2⟩; have HB0 := Lib.hid hb_wd; have HR0 := Lib.hid hR; have HM := Lib.hid hmm; clear hR hb_wd)
  have hm8 : m ≤ 8 := by have := HM.out; omega
  clear h hl8 hmm
  by_cases hy : nWhole (N : Int) rs = true ∧ (0 ≤ u ∧ u < (N : Int)) ∧ (0 ≤ v ∧ v < (N : Int))
  · obtain ⟨i, rfl⟩ : ∃ i : Nat, u = (i : Int) := ⟨u.toNat, by omega⟩
    obtain ⟨j, rfl⟩ : ∃ j : Nat, v = (j : Int) := ⟨v.toNat, by omega⟩
    have hw := hy.1
    have hi : i < N := by omega
    have hj : j < N := by omega
    have hn := whole_nok hw
    have hD0 := trN_pos1 hw
    clear hy hu1 hu2 hv1 hv2
    have c1 := fun w h => Lib.hid (iSpreadOf_yes N i j (some ⟨B, 0, none⟩) c m rs w h hw HM.out hi hj)
    have c2 := fun w h => Lib.hid (sSpreadOf_yes N i j (some ⟨B, 0, none⟩) c m rs w h hw HM.out hi hj)
    by_cases hij : i = j
    · have hx0 : 0 ≤ sprT N rs i j := Quo.T_nn (spN_low hn hi hj).1 hD0
      obtain ⟨x, hx⟩ : ∃ x, sprT N rs i j = x := ⟨_, rfl⟩
      obtain ⟨y, hy⟩ : ∃ x, sprL N rs i j = x := ⟨_, rfl⟩
      rw [hx, hy] at c1 c2
      rw [hx] at hx0
      have hij' : (i : Int) = (j : Int) := by omega
      subst hij
      clear hw hn hx hy hD0
      go_upto_region 5 with ((go_at_call 20; (with_reducible refine ((c1 _ ?_).out).mono ?_); (focus ((exact HR0.out); done)); rintro e wi ⟨rfl, hb_wi⟩; have hs_wi := hb_wi.size; (try simp at hs_wi)))
      obtain ⟨V1, Xa, hV, hX, hC, hBd, hXl⟩ := new_cell hb_wi x y 27
      rw [← hV, ← hX]
      have HB1 := Lib.hid (HB0.out.trans (hBd.mono HB0.out.size))
      have HR1 := Lib.hid (HR0.out.below hBd)
      have Ca1 := Lib.hid hC
      have hla := hC.lt
      clear hV hX hC hBd hXl hb_wi hs_wi HB0 HR0
      go_upto_region 6 with ((go_at_call 21; (with_reducible refine ((c2 _ ?_).out).mono ?_); (focus ((exact HR1.out); done)); rintro e wi ⟨rfl, hb_wi⟩; have hs_wi := hb_wi.size; (try simp at hs_wi)))
      obtain ⟨V2, Xb, hV, hX, hC, hBd, hXl⟩ := new_cell hb_wi x y 27
      rw [← hV, ← hX]
      have HB2 := Lib.hid (HB1.out.trans (hBd.mono HB1.out.size))
      have HR2 := Lib.hid (HR1.out.below hBd)
      have Ca2 := Lib.hid (Ca1.out.below hBd)
      have Cb2 := Lib.hid hC
      have hlb := hC.lt
      clear hV hX hC hBd hXl hb_wi hs_wi HB1 HR1 Ca1
      obtain ⟨ap, aq, -, -⟩ := Ca2.out
      obtain ⟨bp, bq, -, -⟩ := Cb2.out
      have HBe := HB2.out
      go_wp2_with fail
      exact bodyPost_ret (v := .bool true) (by simp [results, Try.results4, go_sem]) rfl ⟨rfl, HBe⟩
    · have hi0 : ¬ m = 12 := by omega
      have hi0' : ¬ (m : Int) = 12 := by omega
      have hi0b : ((m : Int) == 12) = false := by rw [beq_eq_false_iff_ne]; exact hi0'
      have hijb : ((i : Int) == (j : Int)) = false := by rw [beq_eq_false_iff_ne]; omega
      have hmI : (m : Int) ≤ 8 := by omega
      have hw2 := snoc_whole hw (by have := HM.out; omega) hij hi hj
      have hn2 := whole_nok hw2
      have hsn := spN_snoc (r := ⟨i, j, 0, 1⟩) (nOk_in hn) hij hi hj (.inl ⟨rfl, rfl⟩)
      have hjl : (rs ++ [(⟨i, j, 0, 1⟩ : Rn)]).length = m + 1 := by rw [List.length_append, HM.out]; rfl
      have hjf : flat (rs ++ [(⟨i, j, 0, 1⟩ : Rn)]) = flat rs ++ [(i : Int), (j : Int), 0, 1] := by rw [flat_append]; rfl
      have v1 := spr_val (i := i) (j := j) hw hi hj
      have v2 := spr_val (i := i) (j := j) hw2 hi hj
      rw [hsn.1, hsn.2] at v2
      have hme := more_eq (x1 := sprT N (rs ++ [⟨i, j, 0, 1⟩]) i j) (x2 := sprL N (rs ++ [⟨i, j, 0, 1⟩]) i j) (S := spN N rs i j) (D := trN N rs) (by have := v2.2.2; rw [Int.one_mul] at this; exact this) v1.2.2 (by omega)
      have b1 := Quo.qv_true v1.1
      have b2 := Quo.qv_true v2.1
      have c3 := fun p c w h => Lib.hid (iSpreadOf_yes N i j p c (m + 1) (rs ++ [⟨i, j, 0, 1⟩]) w h hw2 hjl hi hj)
      obtain ⟨x, hx⟩ : ∃ x, sprT N rs i j = x := ⟨_, rfl⟩
      obtain ⟨y, hy⟩ : ∃ x, sprL N rs i j = x := ⟨_, rfl⟩
      obtain ⟨u, hu⟩ : ∃ x, sprT N (rs ++ [⟨i, j, 0, 1⟩]) i j = x := ⟨_, rfl⟩
      obtain ⟨v, hv⟩ : ∃ x, sprL N (rs ++ [⟨i, j, 0, 1⟩]) i j = x := ⟨_, rfl⟩
      rw [hx, hy] at c1 c2 hme b1
      rw [hu, hv] at c3 hme b2
      obtain ⟨p1, p2⟩ := Quo.mul_bd (a := v) (b := x) (by omega) b2.2.1 b1.2.2.1 b1.2.2.2.1
      obtain ⟨p3, p4⟩ := Quo.mul_bd (a := u) (b := y) b2.2.2.1 b2.2.2.2.1 (by omega) b1.2.1
      obtain ⟨p5, p6⟩ := Quo.mul_bd (a := u) (b := x) b2.2.2.1 b2.2.2.2.1 b1.2.2.1 b1.2.2.2.1
      have wr1 : IntKind.i64.wrap (y + x) = y + x := by rw [IntKind.wrap_i64]; omega
      have wr2 : IntKind.i64.wrap (v * x) = v * x := by rw [IntKind.wrap_i64]; omega
      have wr3 : IntKind.i64.wrap (u * (y + x)) = v * x := by rw [hme, Int.mul_add, IntKind.wrap_i64]; omega
      have hij' : ¬ (i : Int) = (j : Int) := by omega
      obtain ⟨js, hjs⟩ : ∃ js, rs ++ [(⟨i, j, 0, 1⟩ : Rn)] = js := ⟨_, rfl⟩
      rw [hjs] at c3 hjl hjf
      have HJ := Lib.hid (And.intro hjl hjf)
      clear hw hn hx hy hu hv hD0 hw2 hn2 hsn v1 v2 hme b1 b2 p1 p2 p3 p4 p5 p6 hjl hjf hjs
      go_upto_region 5 with ((go_at_call 20; (with_reducible refine ((c1 _ ?_).out).mono ?_); (focus ((exact HR0.out); done)); rintro e wi ⟨rfl, hb_wi⟩; have hs_wi := hb_wi.size; (try simp at hs_wi)))
      obtain ⟨V1, Xa, hV, hX, hC, hBd, hXl⟩ := new_cell hb_wi x y 27
      rw [← hV, ← hX]
      have HB1 := Lib.hid (HB0.out.trans (hBd.mono HB0.out.size))
      have HR1 := Lib.hid (HR0.out.below hBd)
      have Ca1 := Lib.hid hC
      have hla := hC.lt
      clear hV hX hC hBd hXl hb_wi hs_wi HB0 HR0
      go_upto_region 6 with ((go_at_call 21; (with_reducible refine ((c2 _ ?_).out).mono ?_); (focus ((exact HR1.out); done)); rintro e wi ⟨rfl, hb_wi⟩; have hs_wi := hb_wi.size; (try simp at hs_wi)))
      obtain ⟨V2, Xb, hV, hX, hC, hBd, hXl⟩ := new_cell hb_wi x y 27
      rw [← hV, ← hX]
      have HB2 := Lib.hid (HB1.out.trans (hBd.mono HB1.out.size))
      have HR2 := Lib.hid (HR1.out.below hBd)
      have Ca2 := Lib.hid (Ca1.out.below hBd)
      have Cb2 := Lib.hid hC
      have hlb := hC.lt
      clear hV hX hC hBd hXl hb_wi hs_wi HB1 HR1 Ca1
      obtain ⟨ap, aq, -, -⟩ := Ca2.out
      obtain ⟨bp, bq, -, -⟩ := Cb2.out
      go_upto_region 11 with (first
        | (go_at_call 20; (with_reducible refine ((c3 _ _ _ ?_).out).mono ?_); (focus (exact (show Own w2 g2 35 4 (m + 1) d2 (flat js) from by rw [HJ.out.2]; exact HN2.out.1).runs; done)); rintro e wi ⟨rfl, hb_wi⟩; have hs_wi := hb_wi.size)
        | (at_builtin; refine wp_append _ rfl _ _ 23 rfl 35 _ 4 32 Try.underlying23 info_run rfl (by decide) (by decide) g1 m d1 (flat rs) rfl (HN1.out.1.alloc _) _ 1 1 [(i : Int), (j : Int), 0, 1] rfl rfl (by have := four_cells w1 i j 0 1 35; simpa using this) (by omega) ?_; intro g2 d2 w2 hown2 hg2 hloc2 hsz2; have HN2 := Lib.hid (And.intro hown2 (And.intro hg2 (And.intro hloc2 hsz2))); clear hown2 hg2 hloc2 hsz2)
        | (at_builtin; refine wp_append _ rfl _ _ 23 rfl 35 _ 4 32 Try.underlying23 info_run rfl (by decide) (by decide) _ 0 0 [] rfl (Own.empty _ _ 4) ⟨B, 0, none⟩ m c (flat rs) rfl (by rw [flat_len, HM.out]) (runs_cells (HR2.out.alloc _)) (by omega) ?_; intro g1 d1 w1 hown1 hg1 hloc1 hsz1; have HN1 := Lib.hid (show Own w1 g1 35 4 m d1 (flat rs) ∧ _ ∧ _ ∧ _ from And.intro (by simpa using hown1) (And.intro hg1 (And.intro hloc1 hsz1))); clear hown1 hg1 hloc1 hsz1; simp only [Nat.zero_add]))
      have hB1 : Below V2.heap.size V2 w1 := below_gr ((Below.refl V2.heap.size V2).alloc (Nat.le_refl _) (.cells #[] 35)) HN1.out.2.1 (Nat.le_refl _) (by simp)
      have hg1 : V2.heap.size ≤ g1 := by
        rcases HN1.out.2.2.1 with e | e
        · omega
        · simp at e; omega
      have hB2 : Below V2.heap.size V2 w2 := below_gr (hB1.alloc hB1.size (.cells #[.int .i64 (i : Int), .int .i64 (j : Int), .int .i64 0, .int .i64 1] 35)) HN2.out.2.1 hg1 (by have := hB1.size; simp; omega)
      have hBi : Below V2.heap.size V2 wi := hB2.trans (hb_wi.mono hB2.size)
      obtain ⟨V3, Xc, hV, hX, hC, hBd, hXl⟩ := new_cell hBi u v 27
      rw [← hV, ← hX]
      have HB3 := Lib.hid (HB2.out.trans ((hBd).mono HB2.out.size))
      have HR3 := Lib.hid (HR2.out.below (hBd))
      have Ca3 := Lib.hid (Ca2.out.below (hBd))
      have Cb3 := Lib.hid (Cb2.out.below (hBd))
      clear HB2 HR2 Ca2 Cb2 hV hX hBd hBi hb_wi hs_wi hB2 hB1 ap aq bp bq
      obtain ⟨cp, cq, -, -⟩ := hC
      obtain ⟨ap, aq, -, -⟩ := Ca3.out
      have HBe := HB3.out
      go_wp2_with fail
      exact bodyPost_ret (v := .bool true) (by simp [results, Try.results4, go_sem]) rfl ⟨rfl, HBe⟩
  · have c1 := fun w h => Lib.hid (iSpreadOf_no N u v (some ⟨B, 0, none⟩) c m rs w h HM.out (by omega) hy)
    have c2 := fun w h => Lib.hid (sSpreadOf_no N u v (some ⟨B, 0, none⟩) c m rs w h HM.out (by omega) hy)
    clear hy
    go_upto_region 5 with ((go_at_call 20; (with_reducible refine ((c1 _ ?_).out).mono ?_); (focus ((exact HR0.out); done)); rintro e wi ⟨rfl, hb_wi⟩; have hs_wi := hb_wi.size; (try simp at hs_wi)))
    obtain ⟨V1, Xa, hV, hX, hC, hBd, hXl⟩ := new_cell hb_wi 0 0 27
    rw [← hV, ← hX]
    have HB1 := Lib.hid (HB0.out.trans (hBd.mono HB0.out.size))
    have HR1 := Lib.hid (HR0.out.below hBd)
    have Ca1 := Lib.hid hC
    have hla := hC.lt
    clear hV hX hC hBd hXl hb_wi hs_wi HB0 HR0
    go_upto_region 6 with ((go_at_call 21; (with_reducible refine ((c2 _ ?_).out).mono ?_); (focus ((exact HR1.out); done)); rintro e wi ⟨rfl, hb_wi⟩; have hs_wi := hb_wi.size; (try simp at hs_wi)))
    obtain ⟨V2, Xb, hV, hX, hC, hBd, hXl⟩ := new_cell hb_wi 0 0 27
    rw [← hV, ← hX]
    have HB2 := Lib.hid (HB1.out.trans (hBd.mono HB1.out.size))
    have HR2 := Lib.hid (HR1.out.below hBd)
    have Ca2 := Lib.hid (Ca1.out.below hBd)
    have Cb2 := Lib.hid hC
    have hlb := hC.lt
    clear hV hX hC hBd hXl hb_wi hs_wi HB1 HR1 Ca1
    obtain ⟨ap, aq, -, -⟩ := Ca2.out
    obtain ⟨bp, bq, -, -⟩ := Cb2.out
    have HBe := HB2.out
    go_wp2_with fail
    exact bodyPost_ret (v := .bool true) (by simp [results, Try.results4, go_sem]) rfl ⟨rfl, HBe⟩

end Go.Proofs.Ytenllemaccacgaa.fnSpreadMore
