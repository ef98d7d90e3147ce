/-
  For every code the law FnSpreadWorst returns true: impl.SpreadWorst answers as the reference model does; the spread from the node 0 of no node is greater than that of the answer, and of no lesser node as great. No condition: every list of bytes is taken.
-/
import Derived.Test.YtenllemaccacgaaRg
import Derived.Test.YtenllemaccacgaaRd
import Derived.Test.YtenllemaccacgaaCode
namespace Go.Proofs.Ytenllemaccacgaa.fnSpreadWorst
open Go.ChangeShapes Go.WideShapes Go.ChangeAt Go.RowKit
set_option linter.unusedVariables false

set_option maxHeartbeats 8000000 in
set_option maxRecDepth 100000 in
theorem walk (len cap : Nat) (p : Option Addr) (w : World) (hl : len ≤ 1048576) (h : Hid (Code' w (.slice p len cap))) :
    Calls Try.prog 8 #[.slice p len cap] w fun e w' => e = .returned (.bool true) ∧ Below w.heap.size w w' := by
  have hl' : ¬ (1048576 : Int) < (len : Int) := by omega
  go_enter Try.func8, Try.ntmps8
  go_upto_region 4 with (go_at_call 37; (with_reducible refine (drawWorst_is _ _ h).mono ?_); rintro e wd ⟨N, m, rs, B, ⟨c, hmc, rfl⟩, hmm, ⟨hN2, hN6⟩, hl8, hR, hb_wd⟩; have HB0 := Lib.hid hb_wd; have HR0 := Lib.hid hR; have HM := Lib.hid hmm; clear hR hb_wd)
  have hm8 : m ≤ 8 := by have := HM.out; omega
  clear h hl8 hmm
  cases hw : nWhole (N : Int) rs
  · have c1 := fun w h => Lib.hid (iWorst_no N (some ⟨B, 0, none⟩) c m rs w h HM.out (by omega) hw)
    have c2 := fun w h => Lib.hid (sWorst_no N (some ⟨B, 0, none⟩) c m rs w h HM.out (by omega) hw)
    clear hw
    go_wp2_with (first | (go_at_call 38; (with_reducible refine ((c1 _ ?_).out).mono ?_); (focus ((exact HR0.out); done)); rintro e wi ⟨rfl, hb_wi⟩; have hs_wi := hb_wi.size; (try simp at hs_wi)) | (go_at_call 39; (with_reducible refine ((c2 _ ?_).out).mono ?_); (focus ((exact HR0.out.below hb_wi); done)); rintro e ws ⟨rfl, hb_ws⟩; have hs_ws := hb_ws.size; (try simp at hs_ws)))
    have hB := HB0.out.trans ((hb_wi.trans (hb_ws.mono hs_wi)).mono HB0.out.size)
    exact bodyPost_ret (v := .bool true) (by simp [results, Try.results8, go_sem]) rfl ⟨rfl, hB⟩
  · have hD0 := trN_pos1 hw
    have hbl : wst N rs N < N := bst_lt (f := fun i => spN N rs 0 i) (n := N) (by omega)
    have c1 := fun w h => Lib.hid (iWorst_yes N (some ⟨B, 0, none⟩) c m rs w h hw HM.out)
    have c2 := fun w h => Lib.hid (sWorst_yes N (some ⟨B, 0, none⟩) c m rs w h hw HM.out)
    have c3 := fun (i : Nat) (hi : i < N) w h => Lib.hid (by have := iSpreadOf_yes N 0 i (some ⟨B, 0, none⟩) c m rs w h hw HM.out (by omega) hi; rw [show (((0 : Nat)) : Int) = (0 : Int) from rfl] at this; exact this)
    have hmax : ∀ k : Nat, k < N → spN N rs 0 k ≤ spN N rs 0 (wst N rs N) ∧ (spN N rs 0 k = spN N rs 0 (wst N rs N) → wst N rs N ≤ k) := fun k hk => bst_max (f := fun i => spN N rs 0 i) hk
    obtain ⟨g, hg⟩ : ∃ g, wst N rs N = g := ⟨_, rfl⟩
    rw [hg] at c1 c2 hbl hmax
    have HW := Lib.hid (And.intro hw (And.intro hD0 hmax))
    have c4 := c3 g hbl
    obtain ⟨ya, hya⟩ : ∃ x, sprT N rs 0 g = x := ⟨_, rfl⟩
    obtain ⟨yb, hyb⟩ : ∃ x, sprL N rs 0 g = x := ⟨_, rfl⟩
    rw [hya, hyb] at c4
    have HY := Lib.hid (And.intro hya hyb)
    clear hw hD0 hmax hg hya hyb
    go_upto_region 6 with (first | (go_at_call 38; (with_reducible refine ((c1 _ ?_).out).mono ?_); (focus ((exact HR0.out); done)); rintro e wi ⟨rfl, hb_wi⟩; have hs_wi := hb_wi.size; (try simp at hs_wi)) | (go_at_call 39; (with_reducible refine ((c2 _ ?_).out).mono ?_); (focus ((exact HR0.out.below hb_wi); done)); rintro e ws ⟨rfl, hb_ws⟩; have hs_ws := hb_ws.size; (try simp at hs_ws)))
    have hBd := hb_wi.trans (hb_ws.mono hs_wi)
    have HR1 := Lib.hid (HR0.out.below hBd)
    have HB1 := Lib.hid (HB0.out.trans (hBd.mono HB0.out.size))
    clear hBd hb_wi hb_ws hs_wi hs_ws HR0 HB0 c1 c2
    go_upto_region 9 with ((go_at_call 20; (with_reducible refine ((c4 _ ?_).out).mono ?_); (focus ((exact HR1.out); done)); rintro e wi ⟨rfl, hb_wi⟩; have hs_wi := hb_wi.size; (try simp at hs_wi)))
    obtain ⟨V, M, hV, hM, hC, hBd, hMl⟩ := new_cell hb_wi ya yb 27
    rw [← hV, ← hM]
    have H0 := Lib.hid (And.intro hC (And.intro (HR1.out.below hBd) (HB1.out.trans (hBd.mono HB1.out.size))))
    clear hV hM hC hBd hMl hb_wi hs_wi c4 HR1 HB1
    go_wp2_with fail
    go_loopw [11] (fun i wr => ∃ j : Nat, j ≤ N ∧ i = .int .i64 j ∧ Cell2 wr M ya yb ∧ Runs wr (some ⟨B, 0, none⟩) rs ∧ Below w.heap.size w wr) (fun i _ => N - (intOf i).toNat)
    case atStart => exact ⟨0, Nat.zero_le _, rfl, H0.out.1, H0.out.2.1, H0.out.2.2⟩
    case round =>
      clear H0
      rename World => wr
      obtain ⟨j, hj, rfl, hC, hR, hb⟩ := hrel
      have hbs := hb.size
      have hMl := hC.lt
      by_cases hlt : j < N
      · have hlt' : (j : Int) < (N : Int) := by omega
        have c5 := c3 j hlt
        have v1 := spr_val (i := 0) (j := j) HW.out.1 (by omega) hlt
        have v2 := spr_val (i := 0) (j := g) HW.out.1 (by omega) hbl
        have hord := order_val v1 v2 HW.out.2.1
        obtain ⟨m1, m2⟩ := HW.out.2.2 j hlt
        obtain ⟨xa, hxa⟩ : ∃ x, sprT N rs 0 j = x := ⟨_, rfl⟩
        obtain ⟨xb, hxb⟩ : ∃ x, sprL N rs 0 j = x := ⟨_, rfl⟩
        rw [hxa, hxb, HY.out.1, HY.out.2] at hord
        rw [hxa, hxb] at c5
        have c6 := fun w => Lib.hid (by have := iOrder_any xa xb ya yb w; rw [hord.2, hord.1] at this; exact this)
        obtain ⟨od, hod⟩ : ∃ o, Quo.sg (spN N rs 0 j - spN N rs 0 g) = o := ⟨_, rfl⟩
        have ho1 : od ≤ 0 := by rw [← hod]; exact sg_le (by omega)
        have ho2 : od = 0 → g ≤ j := fun h => m2 (by rw [← hod] at h; have := sg_nil.1 h; omega)
        rw [hod] at c6
        have HX := Lib.hid (And.intro hC (And.intro hR hb))
        clear hC hR hb v1 v2 hord m1 m2 hxa hxb hod
        go_upto_region 13 with ((go_at_call 20; (with_reducible refine ((c5 _ ?_).out).mono ?_); (focus ((exact HX.out.2.1); done)); rintro e wi ⟨rfl, hb_wi⟩; have hs_wi := hb_wi.size; (try simp at hs_wi)))
        obtain ⟨V, X, hV, hX, hC, hBd, hXl⟩ := new_cell hb_wi xa xb 27
        rw [← hV, ← hX]
        have HV := Lib.hid (And.intro (HX.out.1.below hBd) (And.intro (HX.out.2.1.below hBd) (HX.out.2.2.trans (hBd.mono hbs))))
        obtain ⟨k1, k2, -, -⟩ := hC
        obtain ⟨n1, n2, -, -⟩ := HV.out.1
        have ho3 : ¬ (0 : Int) < od := by omega
        clear hV hX hBd hXl hb_wi hs_wi c5
        by_cases h0 : od = 0
        · have hgj := ho2 h0
          have hgj' : ¬ (j : Int) < (g : Int) := by omega
          have hgj2 : ¬ j < g := by omega
          subst h0
          clear ho1 ho2 ho3
          go_wp2_with (go_at_call 23; (with_reducible refine ((c6 _).out).mono ?_); rintro e w2 ⟨rfl, hb_w2⟩)
          go_roundw
          case rel => exact ⟨j + 1, by omega, by go_num, HV.out.1.below hb_w2, HV.out.2.1.below hb_w2, HV.out.2.2.trans (hb_w2.mono HV.out.2.2.size)⟩
          case measure => simp [intOf]; omega
        · have h0' : (od == 0) = false := by simpa using h0
          clear ho1 ho2
          go_wp2_with (go_at_call 23; (with_reducible refine ((c6 _).out).mono ?_); rintro e w2 ⟨rfl, hb_w2⟩)
          go_roundw
          case rel => exact ⟨j + 1, by omega, by go_num, HV.out.1.below hb_w2, HV.out.2.1.below hb_w2, HV.out.2.2.trans (hb_w2.mono HV.out.2.2.size)⟩
          case measure => simp [intOf]; omega
      · have e : N = j := by omega
        subst e
        have HX := Lib.hid hb
        clear hC hR hb
        go_wp2_with fail
        exact bodyPost_ret (v := .bool true) (by simp [results, Try.results8, go_sem]) rfl ⟨rfl, HX.out⟩

end Go.Proofs.Ytenllemaccacgaa.fnSpreadWorst
