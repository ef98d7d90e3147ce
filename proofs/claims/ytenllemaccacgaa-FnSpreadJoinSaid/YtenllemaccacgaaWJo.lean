/-
  For every code the law FnSpreadJoin returns true: impl.SpreadOf answers as the reference model does; the spread counts the trees of the net whose two nodes are joined, over the trees of the net. No condition: every list of bytes is taken.
-/
import Derived.Test.YtenllemaccacgaaRl
import Derived.Test.YtenllemaccacgaaRd
import Derived.Test.YtenllemaccacgaaZn
import Derived.Test.YtenllemaccacgaaCode
namespace Go.Proofs.Ytenllemaccacgaa.fnSpreadJoin
open Go.ChangeShapes Go.WideShapes Go.ChangeAt Go.RowKit
set_option linter.unusedVariables false

theorem ends_two (i j : Nat) (h : i ≠ j) : ∃ lo hi : Int, lo < hi ∧ Ends2 ⟨i, j, 0, 1⟩ lo hi := by
  rcases Nat.lt_or_ge i j with e | e
  · exact ⟨i, j, by omega, .inl ⟨rfl, rfl⟩⟩
  · exact ⟨j, i, by omega, .inr ⟨rfl, rfl⟩⟩
theorem erase_last (rs : List Rn) (r : Rn) (m : Nat) (h : rs.length = m) : (rs ++ [r]).eraseIdx m = rs ∧ (rs ++ [r])[m]? = some r := by
  subst h
  refine ⟨?_, ?_⟩
  · rw [List.eraseIdx_append_of_length_le (Nat.le_refl _), Nat.sub_self]; simp
  · rw [List.getElem?_append_right (Nat.le_refl _), Nat.sub_self]; rfl
set_option maxHeartbeats 8000000 in
set_option maxRecDepth 100000 in
theorem walk (len cap : Nat) (p : Option Addr) (w : World) (hl : len ≤ 1048576) (h : Hid (Code' w (.slice p len cap))) :
    Calls Try.prog 9 #[.slice p len cap] w fun e w' => e = .returned (.bool true) ∧ Below w.heap.size w w' := by
  have hl' : ¬ (1048576 : Int) < (len : Int) := by omega
  go_enter Try.func9, Try.ntmps9
  go_upto_region 4 with (go_at_call 19; (with_reducible refine (drawSpread_is _ _ h).mono ?_); rintro e wd ⟨N, m, rs, B, u, v, ⟨c, hmc, rfl⟩, hmm, ⟨⟨hN2, hN6⟩, hl8, hR, hb_wd⟩, ⟨hu1, hu2⟩, hv1, hv2⟩; have HB0 := Lib.hid hb_wd; have HR0 := Lib.hid hR; have HM := Lib.hid hmm; clear hR hb_wd)
  have hm8 : m ≤ 8 := by have := HM.out; omega
  clear h hl8 hmm
  by_cases hy : nWhole (N : Int) rs = true ∧ (0 ≤ u ∧ u < (N : Int)) ∧ (0 ≤ v ∧ v < (N : Int))
  · obtain ⟨i, rfl⟩ : ∃ i : Nat, u = (i : Int) := ⟨u.toNat, by omega⟩
    obtain ⟨j, rfl⟩ : ∃ j : Nat, v = (j : Int) := ⟨v.toNat, by omega⟩
    have hw := hy.1
    have hi : i < N := by omega
    have hj : j < N := by omega
    have hn := whole_nok hw
    have hD0 := trN_pos1 hw
    clear hy hu1 hu2 hv1 hv2
    have c1 := fun w h => Lib.hid (iSpreadOf_yes N i j (some ⟨B, 0, none⟩) c m rs w h hw HM.out hi hj)
    have c2 := fun w h => Lib.hid (sSpreadOf_yes N i j (some ⟨B, 0, none⟩) c m rs w h hw HM.out hi hj)
    by_cases hij : i = j
    · have hy0 : 0 < sprL N rs i j := by have := Quo.qv_true (spr_val (i := i) (j := j) hw hi hj).1; omega
      obtain ⟨x, hx⟩ : ∃ x, sprT N rs i j = x := ⟨_, rfl⟩
      obtain ⟨y, hy⟩ : ∃ x, sprL N rs i j = x := ⟨_, rfl⟩
      rw [hx, hy] at c1 c2
      rw [hy] at hy0
      have hij' : (i : Int) = (j : Int) := by omega
      subst hij
      clear hw hn hx hy hD0
      go_upto_region 5 with ((go_at_call 20; (with_reducible refine ((c1 _ ?_).out).mono ?_); (focus ((exact HR0.out); done)); rintro e wi ⟨rfl, hb_wi⟩; have hs_wi := hb_wi.size; (try simp at hs_wi)))
      obtain ⟨V1, Xa, hV, hX, hC, hBd, hXl⟩ := new_cell hb_wi x y 27
      rw [← hV, ← hX]
      have HB1 := Lib.hid (HB0.out.trans (hBd.mono HB0.out.size))
      have HR1 := Lib.hid (HR0.out.below hBd)
      have Ca1 := Lib.hid hC
      have hla := hC.lt
      clear hV hX hC hBd hXl hb_wi hs_wi HB0 HR0
      go_upto_region 6 with ((go_at_call 21; (with_reducible refine ((c2 _ ?_).out).mono ?_); (focus ((exact HR1.out); done)); rintro e wi ⟨rfl, hb_wi⟩; have hs_wi := hb_wi.size; (try simp at hs_wi)))
      obtain ⟨V2, Xb, hV, hX, hC, hBd, hXl⟩ := new_cell hb_wi x y 27
      rw [← hV, ← hX]
      have HB2 := Lib.hid (HB1.out.trans (hBd.mono HB1.out.size))
      have HR2 := Lib.hid (HR1.out.below hBd)
      have Ca2 := Lib.hid (Ca1.out.below hBd)
      have Cb2 := Lib.hid hC
      have hlb := hC.lt
      clear hV hX hC hBd hXl hb_wi hs_wi HB1 HR1 Ca1
      obtain ⟨ap, aq, -, -⟩ := Ca2.out
      obtain ⟨bp, bq, -, -⟩ := Cb2.out
      have HBe := HB2.out
      go_wp2_with fail
      exact bodyPost_ret (v := .bool true) (by simp [results, Try.results9, go_sem]) rfl ⟨rfl, HBe⟩
    · by_cases hN2' : N < 3
      · have hi0 : ¬ m = 12 := by omega
        have hi0' : ¬ (m : Int) = 12 := by omega
        have hi0b : ((m : Int) == 12) = false := by rw [beq_eq_false_iff_ne]; exact hi0'
        have hijb : ((i : Int) == (j : Int)) = false := by rw [beq_eq_false_iff_ne]; omega
        have hmI : (m : Int) ≤ 8 := by omega
        have hw2 := snoc_whole hw (by have := HM.out; omega) hij hi hj
        have hn2 := whole_nok hw2
        have hsn := spN_snoc (r := ⟨i, j, 0, 1⟩) (nOk_in hn) hij hi hj (.inl ⟨rfl, rfl⟩)
        have hjl : (rs ++ [(⟨i, j, 0, 1⟩ : Rn)]).length = m + 1 := by rw [List.length_append, HM.out]; rfl
        have hjf : flat (rs ++ [(⟨i, j, 0, 1⟩ : Rn)]) = flat rs ++ [(i : Int), (j : Int), 0, 1] := by rw [flat_append]; rfl
        obtain ⟨n, hNn⟩ : ∃ n, N = n + 1 := ⟨N - 1, by omega⟩
        have hlast := erase_last rs ⟨i, j, 0, 1⟩ m HM.out
        have hsp := spr_of (i := i) (j := j) hw hi hj
        have zl := spN_low hn hi hj
        have zt := trN_low hn
        have c3 := fun p c w h => Lib.hid (by have := iTrees_yes N n p c (m + 1) (rs ++ [⟨i, j, 0, 1⟩]) w h hn2 hjl hNn; rw [trN_tree hn2 hNn, hsn.2, Int.one_mul] at this; exact this)
        have c4 := fun w h => Lib.hid (by have := iTrees_yes N n (some ⟨B, 0, none⟩) c m rs w h hn HM.out hNn; rw [trN_tree hn hNn] at this; exact this)
        have c5 := fun w => Lib.hid (by have := iof_any (spN N rs i j) (trN N rs) w; rw [hsp.1, hsp.2.1, hsp.2.2] at this; exact this)
        have hN2e : N = 2 := by omega
        have hN2I : ((N : Int) == 2) = true := by rw [beq_iff_eq]; omega
        have hS1 : spN N rs i j = 1 := by subst hN2e; exact spN_two (nOk_in hn) hij hi hj
        have c6 := fun p c w h => Lib.hid (iMerge_no N m p c (m + 1) (rs ++ [⟨i, j, 0, 1⟩]) w h hjl (by omega) (fun hc => by omega))
        rw [hS1] at c3 c5 zl
        obtain ⟨x, hx⟩ : ∃ x, sprT N rs i j = x := ⟨_, rfl⟩
        obtain ⟨y, hy⟩ : ∃ x, sprL N rs i j = x := ⟨_, rfl⟩
        rw [hx, hy] at c1 c2 c5
        obtain ⟨D, hD⟩ : ∃ D, trN N rs = D := ⟨_, rfl⟩
        rw [hD] at c3 c4 c5 zt
        have hDG : IntKind.i64.wrap (D + 1 - D) = 1 := by rw [IntKind.wrap_i64]; omega
        have hDG2 : D + 1 - D = 1 := by omega
        have hij' : ¬ (i : Int) = (j : Int) := by omega
        obtain ⟨js, hjs⟩ : ∃ js, rs ++ [(⟨i, j, 0, 1⟩ : Rn)] = js := ⟨_, rfl⟩
        rw [hjs] at c3 c6 hjl hjf
        have HJ := Lib.hid (And.intro hjl hjf)
        clear hw hn hx hy hD hD0 hw2 hn2 hsn hjl hjf hjs hlast hsp hNn hN2e hS1
        go_upto_region 5 with ((go_at_call 20; (with_reducible refine ((c1 _ ?_).out).mono ?_); (focus ((exact HR0.out); done)); rintro e wi ⟨rfl, hb_wi⟩; have hs_wi := hb_wi.size; (try simp at hs_wi)))
        obtain ⟨V1, Xa, hV, hX, hC, hBd, hXl⟩ := new_cell hb_wi x y 27
        rw [← hV, ← hX]
        have HB1 := Lib.hid (HB0.out.trans (hBd.mono HB0.out.size))
        have HR1 := Lib.hid (HR0.out.below hBd)
        have Ca1 := Lib.hid hC
        have hla := hC.lt
        clear hV hX hC hBd hXl hb_wi hs_wi HB0 HR0
        go_upto_region 6 with ((go_at_call 21; (with_reducible refine ((c2 _ ?_).out).mono ?_); (focus ((exact HR1.out); done)); rintro e wi ⟨rfl, hb_wi⟩; have hs_wi := hb_wi.size; (try simp at hs_wi)))
        obtain ⟨V2, Xb, hV, hX, hC, hBd, hXl⟩ := new_cell hb_wi x y 27
        rw [← hV, ← hX]
        have HB2 := Lib.hid (HB1.out.trans (hBd.mono HB1.out.size))
        have HR2 := Lib.hid (HR1.out.below hBd)
        have Ca2 := Lib.hid (Ca1.out.below hBd)
        have Cb2 := Lib.hid hC
        have hlb := hC.lt
        clear hV hX hC hBd hXl hb_wi hs_wi HB1 HR1 Ca1
        obtain ⟨ap, aq, -, -⟩ := Ca2.out
        obtain ⟨bp, bq, -, -⟩ := Cb2.out
        go_upto_region 11 with (first
          | (at_builtin; refine wp_append _ rfl _ _ 23 rfl 35 _ 4 32 Try.underlying23 info_run rfl (by decide) (by decide) g1 m d1 (flat rs) rfl (HN1.out.1.alloc _) _ 1 1 [(i : Int), (j : Int), 0, 1] rfl rfl (by have := four_cells w1 i j 0 1 35; simpa using this) (by omega) ?_; intro g2 d2 w2 hown2 hg2 hloc2 hsz2; have HN2 := Lib.hid (And.intro hown2 (And.intro hg2 (And.intro hloc2 hsz2))); clear hown2 hg2 hloc2 hsz2)
          | (at_builtin; refine wp_append _ rfl _ _ 23 rfl 35 _ 4 32 Try.underlying23 info_run rfl (by decide) (by decide) _ 0 0 [] rfl (Own.empty _ _ 4) ⟨B, 0, none⟩ m c (flat rs) rfl (by rw [flat_len, HM.out]) (runs_cells (HR2.out.alloc _)) (by omega) ?_; intro g1 d1 w1 hown1 hg1 hloc1 hsz1; have HN1 := Lib.hid (show Own w1 g1 35 4 m d1 (flat rs) ∧ _ ∧ _ ∧ _ from And.intro (by simpa using hown1) (And.intro hg1 (And.intro hloc1 hsz1))); clear hown1 hg1 hloc1 hsz1; simp only [Nat.zero_add]))
        have hB1 : Below V2.heap.size V2 w1 := below_gr ((Below.refl V2.heap.size V2).alloc (Nat.le_refl _) (.cells #[] 35)) HN1.out.2.1 (Nat.le_refl _) (by simp)
        have hg1 : V2.heap.size ≤ g1 := by
          rcases HN1.out.2.2.1 with e | e
          · omega
          · simp at e; omega
        have hB2 : Below V2.heap.size V2 w2 := below_gr (hB1.alloc hB1.size (.cells #[.int .i64 (i : Int), .int .i64 (j : Int), .int .i64 0, .int .i64 1] 35)) HN2.out.2.1 hg1 (by have := hB1.size; simp; omega)
        have HB3 := Lib.hid (HB2.out.trans ((hB2).mono HB2.out.size))
        have HR3 := Lib.hid (HR2.out.below (hB2))
        have Ca3 := Lib.hid (Ca2.out.below (hB2))
        have Cb3 := Lib.hid (Cb2.out.below (hB2))
        clear HB2 HR2 Ca2 Cb2 ap aq bp bq
        have HRJ : Hid (Runs w2 (some ⟨g2, 0, none⟩) js) := Lib.hid (show Own w2 g2 35 4 (m + 1) d2 (flat js) from by rw [HJ.out.2]; exact HN2.out.1).runs
        clear HN1 HN2 hB1 hg1 hB2
        go_upto_region 12 with (first
          | (go_at_call 36; (with_reducible refine ((c3 _ _ _ ?_).out).mono ?_); (focus ((exact HRJ.out); done)); rintro e w3 ⟨rfl, hb_w3⟩; have hs_w3 := hb_w3.size; (try simp at hs_w3))
          | (go_at_call 36; (with_reducible refine ((c4 _ ?_).out).mono ?_); (focus ((exact HR3.out.below (by repeat (first | assumption | exact Below.refl _ _ | (refine below_chain ?_ (by assumption) (by first | omega | (simp <;> omega) | simp)) | (refine Below.alloc ?_ (by first | omega | (simp <;> omega) | simp) _) | (apply below_drewN) | (apply below_drew) | (refine Below.setCell ?_ (by first | omega | (simp <;> omega) | simp) _)))); done)); rintro e w4 ⟨rfl, hb_w4⟩; have hs_w4 := hb_w4.size; (try simp at hs_w4)))
        have hB4 : Below w2.heap.size w2 w4 := hb_w3.trans (hb_w4.mono hs_w3)
        have HRK := Lib.hid (HRJ.out.below hB4)
        have HB4 := Lib.hid (HB3.out.trans ((hB4).mono HB3.out.size))
        have HR4 := Lib.hid (HR3.out.below (hB4))
        have Ca4 := Lib.hid (Ca3.out.below (hB4))
        have Cb4 := Lib.hid (Cb3.out.below (hB4))
        clear HB3 HR3 Ca3 Cb3 hb_w3 hb_w4 hs_w3 hs_w4 hB4 HRJ
        go_upto_region 13 with (first
          | (go_at_call 36; (with_reducible refine ((c4 _ ?_).out).mono ?_); (focus ((exact HR4.out); done)); rintro e w5 ⟨rfl, hb_w5⟩; have hs_w5 := hb_w5.size; (try simp at hs_w5))
          | ((go_at_call 35; (with_reducible refine ((c5 _).out).mono ?_); rintro e wi ⟨rfl, hb_wi⟩; have hs_wi := hb_wi.size; (try simp at hs_wi)); have hBi : Below w4.heap.size w4 wi := hb_w5.trans (hb_wi.mono hs_w5)))
        obtain ⟨V5, Xc, hV, hX, hC, hBd, hXl⟩ := new_cell hBi x y 27
        rw [← hV, ← hX]
        have HRL := Lib.hid (HRK.out.below hBd)
        have Cc5 := Lib.hid hC
        have HB5 := Lib.hid (HB4.out.trans ((hBd).mono HB4.out.size))
        have HR5 := Lib.hid (HR4.out.below (hBd))
        have Ca5 := Lib.hid (Ca4.out.below (hBd))
        have Cb5 := Lib.hid (Cb4.out.below (hBd))
        clear HB4 HR4 Ca4 Cb4 hV hX hC hBd hXl hBi hb_wi hs_wi hb_w5 hs_w5 HRK
        go_upto_region 14 with ((go_at_call 40; (with_reducible refine ((c6 _ _ _ ?_).out).mono ?_); (focus ((exact HRL.out); done)); rintro e w6 ⟨⟨q6, d6, rfl⟩, hb_w6⟩; have hs_w6 := hb_w6.size; (try simp at hs_w6)))
        have HB6 := Lib.hid (HB5.out.trans ((hb_w6).mono HB5.out.size))
        have HR6 := Lib.hid (HR5.out.below (hb_w6))
        have Ca6 := Lib.hid (Ca5.out.below (hb_w6))
        have Cb6 := Lib.hid (Cb5.out.below (hb_w6))
        have Cc6 := Lib.hid (Cc5.out.below (hb_w6))
        clear HB5 HR5 Ca5 Cb5 Cc5 hb_w6 hs_w6 HRL
        obtain ⟨ap, aq, -, -⟩ := Ca6.out
        obtain ⟨cp, cq, -, -⟩ := Cc6.out
        have HBe := HB6.out
        go_wp2_with fail
        exact bodyPost_ret (v := .bool true) (by simp [results, Try.results9, go_sem]) rfl ⟨rfl, HBe⟩
      · have hi0 : ¬ m = 12 := by omega
        have hi0' : ¬ (m : Int) = 12 := by omega
        have hi0b : ((m : Int) == 12) = false := by rw [beq_eq_false_iff_ne]; exact hi0'
        have hijb : ((i : Int) == (j : Int)) = false := by rw [beq_eq_false_iff_ne]; omega
        have hmI : (m : Int) ≤ 8 := by omega
        have hw2 := snoc_whole hw (by have := HM.out; omega) hij hi hj
        have hn2 := whole_nok hw2
        have hsn := spN_snoc (r := ⟨i, j, 0, 1⟩) (nOk_in hn) hij hi hj (.inl ⟨rfl, rfl⟩)
        have hjl : (rs ++ [(⟨i, j, 0, 1⟩ : Rn)]).length = m + 1 := by rw [List.length_append, HM.out]; rfl
        have hjf : flat (rs ++ [(⟨i, j, 0, 1⟩ : Rn)]) = flat rs ++ [(i : Int), (j : Int), 0, 1] := by rw [flat_append]; rfl
        obtain ⟨n, hNn⟩ : ∃ n, N = n + 1 := ⟨N - 1, by omega⟩
        have hlast := erase_last rs ⟨i, j, 0, 1⟩ m HM.out
        have hsp := spr_of (i := i) (j := j) hw hi hj
        have zl := spN_low hn hi hj
        have zt := trN_low hn
        have c3 := fun p c w h => Lib.hid (by have := iTrees_yes N n p c (m + 1) (rs ++ [⟨i, j, 0, 1⟩]) w h hn2 hjl hNn; rw [trN_tree hn2 hNn, hsn.2, Int.one_mul] at this; exact this)
        have c4 := fun w h => Lib.hid (by have := iTrees_yes N n (some ⟨B, 0, none⟩) c m rs w h hn HM.out hNn; rw [trN_tree hn hNn] at this; exact this)
        have c5 := fun w => Lib.hid (by have := iof_any (spN N rs i j) (trN N rs) w; rw [hsp.1, hsp.2.1, hsp.2.2] at this; exact this)
        obtain ⟨M, hnM⟩ : ∃ M, n = M + 1 := ⟨n - 1, by omega⟩
        have hN3 : 3 ≤ N := by omega
        have hN2I : ((N : Int) == 2) = false := by rw [beq_eq_false_iff_ne]; omega
        obtain ⟨lo, hi', hlh, he⟩ := ends_two i j hij
        have hok2 : nOk (n : Int) (mrg lo hi' (rs ++ [⟨i, j, 0, 1⟩])) = true := mrg_ok (M := n) (by rw [← hNn]; exact hn2) (by omega) hlast.2 hlh he
        obtain ⟨q, hq⟩ : ∃ q, (mrg lo hi' (rs ++ [⟨i, j, 0, 1⟩])).length = q := ⟨_, rfl⟩
        have hdet : det n (lap0 (rs ++ [(⟨i, j, 0, 1⟩ : Rn)])) = det n (lap0 ((rs ++ [(⟨i, j, 0, 1⟩ : Rn)]).eraseIdx m)) + 1 * det M (lap0 (mrg lo hi' (rs ++ [(⟨i, j, 0, 1⟩ : Rn)]))) := by
          subst hnM
          exact det_cutM (by rw [← hNn]; exact hn2) (by omega) hlast.2 hlh he
        rw [hlast.1, trN_tree hn2 hNn, trN_tree hn hNn, hsn.2, Int.one_mul, Int.one_mul] at hdet
        have hdet' : det M (lap0 (mrg lo hi' (rs ++ [⟨i, j, 0, 1⟩]))) = spN N rs i j := by omega
        obtain ⟨ms, hms⟩ : ∃ ms, mrg lo hi' (rs ++ [⟨i, j, 0, 1⟩]) = ms := ⟨_, rfl⟩
        have c6 := fun p c w h => Lib.hid (iMerge_yes N n p c (m + 1) (rs ++ [⟨i, j, 0, 1⟩]) m ⟨i, j, 0, 1⟩ lo hi' w h hn2 hN3 hNn hjl hlast.2 hlh he)
        rw [hms] at c6 hq hok2 hdet'
        have c6 := fun p c w h => Lib.hid ((c6 p c w h).out.mono (fun e w' ⟨v, he, hv⟩ => (⟨v, he, hv.p hq⟩ : ∃ v, e = Ending.returned (.tuple #[.int .i64 n, v, .bool true]) ∧ NewP w q ms v w')))
        have c7 := fun p c w h => Lib.hid (by have := iTrees_yes n M p c q ms w h hok2 hq hnM; rw [hdet'] at this; exact this)
        obtain ⟨x, hx⟩ : ∃ x, sprT N rs i j = x := ⟨_, rfl⟩
        obtain ⟨y, hy⟩ : ∃ x, sprL N rs i j = x := ⟨_, rfl⟩
        rw [hx, hy] at c1 c2 c5
        obtain ⟨D, hD⟩ : ∃ D, trN N rs = D := ⟨_, rfl⟩
        rw [hD] at c3 c4 c5 zt
        obtain ⟨G, hG⟩ : ∃ G, spN N rs i j = G := ⟨_, rfl⟩
        rw [hG] at c3 c5 c7 zl
        have hDG : IntKind.i64.wrap (D + G - D) = G := by rw [IntKind.wrap_i64]; omega
        have hDG2 : D + G - D = G := by omega
        have hij' : ¬ (i : Int) = (j : Int) := by omega
        obtain ⟨js, hjs⟩ : ∃ js, rs ++ [(⟨i, j, 0, 1⟩ : Rn)] = js := ⟨_, rfl⟩
        rw [hjs] at c3 c6 hjl hjf
        have HJ := Lib.hid (And.intro hjl hjf)
        clear hw hn hx hy hD hD0 hw2 hn2 hsn hjl hjf hjs hlast hsp hNn hnM hN3 hlh he hok2 hq hdet hdet' hms hG
        go_upto_region 5 with ((go_at_call 20; (with_reducible refine ((c1 _ ?_).out).mono ?_); (focus ((exact HR0.out); done)); rintro e wi ⟨rfl, hb_wi⟩; have hs_wi := hb_wi.size; (try simp at hs_wi)))
        obtain ⟨V1, Xa, hV, hX, hC, hBd, hXl⟩ := new_cell hb_wi x y 27
        rw [← hV, ← hX]
        have HB1 := Lib.hid (HB0.out.trans (hBd.mono HB0.out.size))
        have HR1 := Lib.hid (HR0.out.below hBd)
        have Ca1 := Lib.hid hC
        have hla := hC.lt
        clear hV hX hC hBd hXl hb_wi hs_wi HB0 HR0
        go_upto_region 6 with ((go_at_call 21; (with_reducible refine ((c2 _ ?_).out).mono ?_); (focus ((exact HR1.out); done)); rintro e wi ⟨rfl, hb_wi⟩; have hs_wi := hb_wi.size; (try simp at hs_wi)))
        obtain ⟨V2, Xb, hV, hX, hC, hBd, hXl⟩ := new_cell hb_wi x y 27
        rw [← hV, ← hX]
        have HB2 := Lib.hid (HB1.out.trans (hBd.mono HB1.out.size))
        have HR2 := Lib.hid (HR1.out.below hBd)
        have Ca2 := Lib.hid (Ca1.out.below hBd)
        have Cb2 := Lib.hid hC
        have hlb := hC.lt
        clear hV hX hC hBd hXl hb_wi hs_wi HB1 HR1 Ca1
        obtain ⟨ap, aq, -, -⟩ := Ca2.out
        obtain ⟨bp, bq, -, -⟩ := Cb2.out
        go_upto_region 11 with (first
          | (at_builtin; refine wp_append _ rfl _ _ 23 rfl 35 _ 4 32 Try.underlying23 info_run rfl (by decide) (by decide) g1 m d1 (flat rs) rfl (HN1.out.1.alloc _) _ 1 1 [(i : Int), (j : Int), 0, 1] rfl rfl (by have := four_cells w1 i j 0 1 35; simpa using this) (by omega) ?_; intro g2 d2 w2 hown2 hg2 hloc2 hsz2; have HN2 := Lib.hid (And.intro hown2 (And.intro hg2 (And.intro hloc2 hsz2))); clear hown2 hg2 hloc2 hsz2)
          | (at_builtin; refine wp_append _ rfl _ _ 23 rfl 35 _ 4 32 Try.underlying23 info_run rfl (by decide) (by decide) _ 0 0 [] rfl (Own.empty _ _ 4) ⟨B, 0, none⟩ m c (flat rs) rfl (by rw [flat_len, HM.out]) (runs_cells (HR2.out.alloc _)) (by omega) ?_; intro g1 d1 w1 hown1 hg1 hloc1 hsz1; have HN1 := Lib.hid (show Own w1 g1 35 4 m d1 (flat rs) ∧ _ ∧ _ ∧ _ from And.intro (by simpa using hown1) (And.intro hg1 (And.intro hloc1 hsz1))); clear hown1 hg1 hloc1 hsz1; simp only [Nat.zero_add]))
        have hB1 : Below V2.heap.size V2 w1 := below_gr ((Below.refl V2.heap.size V2).alloc (Nat.le_refl _) (.cells #[] 35)) HN1.out.2.1 (Nat.le_refl _) (by simp)
        have hg1 : V2.heap.size ≤ g1 := by
          rcases HN1.out.2.2.1 with e | e
          · omega
          · simp at e; omega
        have hB2 : Below V2.heap.size V2 w2 := below_gr (hB1.alloc hB1.size (.cells #[.int .i64 (i : Int), .int .i64 (j : Int), .int .i64 0, .int .i64 1] 35)) HN2.out.2.1 hg1 (by have := hB1.size; simp; omega)
        have HB3 := Lib.hid (HB2.out.trans ((hB2).mono HB2.out.size))
        have HR3 := Lib.hid (HR2.out.below (hB2))
        have Ca3 := Lib.hid (Ca2.out.below (hB2))
        have Cb3 := Lib.hid (Cb2.out.below (hB2))
        clear HB2 HR2 Ca2 Cb2 ap aq bp bq
        have HRJ : Hid (Runs w2 (some ⟨g2, 0, none⟩) js) := Lib.hid (show Own w2 g2 35 4 (m + 1) d2 (flat js) from by rw [HJ.out.2]; exact HN2.out.1).runs
        clear HN1 HN2 hB1 hg1 hB2
        go_upto_region 12 with (first
          | (go_at_call 36; (with_reducible refine ((c3 _ _ _ ?_).out).mono ?_); (focus ((exact HRJ.out); done)); rintro e w3 ⟨rfl, hb_w3⟩; have hs_w3 := hb_w3.size; (try simp at hs_w3))
          | (go_at_call 36; (with_reducible refine ((c4 _ ?_).out).mono ?_); (focus ((exact HR3.out.below (by repeat (first | assumption | exact Below.refl _ _ | (refine below_chain ?_ (by assumption) (by first | omega | (simp <;> omega) | simp)) | (refine Below.alloc ?_ (by first | omega | (simp <;> omega) | simp) _) | (apply below_drewN) | (apply below_drew) | (refine Below.setCell ?_ (by first | omega | (simp <;> omega) | simp) _)))); done)); rintro e w4 ⟨rfl, hb_w4⟩; have hs_w4 := hb_w4.size; (try simp at hs_w4)))
        have hB4 : Below w2.heap.size w2 w4 := hb_w3.trans (hb_w4.mono hs_w3)
        have HRK := Lib.hid (HRJ.out.below hB4)
        have HB4 := Lib.hid (HB3.out.trans ((hB4).mono HB3.out.size))
        have HR4 := Lib.hid (HR3.out.below (hB4))
        have Ca4 := Lib.hid (Ca3.out.below (hB4))
        have Cb4 := Lib.hid (Cb3.out.below (hB4))
        clear HB3 HR3 Ca3 Cb3 hb_w3 hb_w4 hs_w3 hs_w4 hB4 HRJ
        go_upto_region 13 with (first
          | (go_at_call 36; (with_reducible refine ((c4 _ ?_).out).mono ?_); (focus ((exact HR4.out); done)); rintro e w5 ⟨rfl, hb_w5⟩; have hs_w5 := hb_w5.size; (try simp at hs_w5))
          | ((go_at_call 35; (with_reducible refine ((c5 _).out).mono ?_); rintro e wi ⟨rfl, hb_wi⟩; have hs_wi := hb_wi.size; (try simp at hs_wi)); have hBi : Below w4.heap.size w4 wi := hb_w5.trans (hb_wi.mono hs_w5)))
        obtain ⟨V5, Xc, hV, hX, hC, hBd, hXl⟩ := new_cell hBi x y 27
        rw [← hV, ← hX]
        have HRL := Lib.hid (HRK.out.below hBd)
        have Cc5 := Lib.hid hC
        have HB5 := Lib.hid (HB4.out.trans ((hBd).mono HB4.out.size))
        have HR5 := Lib.hid (HR4.out.below (hBd))
        have Ca5 := Lib.hid (Ca4.out.below (hBd))
        have Cb5 := Lib.hid (Cb4.out.below (hBd))
        clear HB4 HR4 Ca4 Cb4 hV hX hC hBd hXl hBi hb_wi hs_wi hb_w5 hs_w5 HRK
        go_upto_region 14 with ((go_at_call 40; (with_reducible refine ((c6 _ _ _ ?_).out).mono ?_); (focus ((exact HRL.out); done)); rintro e w6 ⟨v, rfl, p6, d6, rfl, o6, hb_w6⟩; have hs_w6 := hb_w6.size; (try simp at hs_w6)))
        have HO6 := Lib.hid o6
        clear o6
        have HB6 := Lib.hid (HB5.out.trans ((hb_w6).mono HB5.out.size))
        have HR6 := Lib.hid (HR5.out.below (hb_w6))
        have Ca6 := Lib.hid (Ca5.out.below (hb_w6))
        have Cb6 := Lib.hid (Cb5.out.below (hb_w6))
        have Cc6 := Lib.hid (Cc5.out.below (hb_w6))
        clear HB5 HR5 Ca5 Cb5 Cc5 hb_w6 hs_w6 HRL
        obtain ⟨ap, aq, -, -⟩ := Ca6.out
        obtain ⟨cp, cq, -, -⟩ := Cc6.out
        go_wp2_with ((go_at_call 36; (with_reducible refine ((c7 _ _ _ ?_).out).mono ?_); (focus ((exact HO6.out); done)); rintro e w7 ⟨rfl, hb_w7⟩; have hs_w7 := hb_w7.size; (try simp at hs_w7)))
        have HBe := HB6.out.trans (hb_w7.mono HB6.out.size)
        exact bodyPost_ret (v := .bool true) (by simp [results, Try.results9, go_sem]) rfl ⟨rfl, HBe⟩
  · have c1 := fun w h => Lib.hid (iSpreadOf_no N u v (some ⟨B, 0, none⟩) c m rs w h HM.out (by omega) hy)
    have c2 := fun w h => Lib.hid (sSpreadOf_no N u v (some ⟨B, 0, none⟩) c m rs w h HM.out (by omega) hy)
    clear hy
    go_upto_region 5 with ((go_at_call 20; (with_reducible refine ((c1 _ ?_).out).mono ?_); (focus ((exact HR0.out); done)); rintro e wi ⟨rfl, hb_wi⟩; have hs_wi := hb_wi.size; (try simp at hs_wi)))
    obtain ⟨V1, Xa, hV, hX, hC, hBd, hXl⟩ := new_cell hb_wi 0 0 27
    rw [← hV, ← hX]
    have HB1 := Lib.hid (HB0.out.trans (hBd.mono HB0.out.size))
    have HR1 := Lib.hid (HR0.out.below hBd)
    have Ca1 := Lib.hid hC
    have hla := hC.lt
    clear hV hX hC hBd hXl hb_wi hs_wi HB0 HR0
    go_upto_region 6 with ((go_at_call 21; (with_reducible refine ((c2 _ ?_).out).mono ?_); (focus ((exact HR1.out); done)); rintro e wi ⟨rfl, hb_wi⟩; have hs_wi := hb_wi.size; (try simp at hs_wi)))
    obtain ⟨V2, Xb, hV, hX, hC, hBd, hXl⟩ := new_cell hb_wi 0 0 27
    rw [← hV, ← hX]
    have HB2 := Lib.hid (HB1.out.trans (hBd.mono HB1.out.size))
    have HR2 := Lib.hid (HR1.out.below hBd)
    have Ca2 := Lib.hid (Ca1.out.below hBd)
    have Cb2 := Lib.hid hC
    have hlb := hC.lt
    clear hV hX hC hBd hXl hb_wi hs_wi HB1 HR1 Ca1
    obtain ⟨ap, aq, -, -⟩ := Ca2.out
    obtain ⟨bp, bq, -, -⟩ := Cb2.out
    have HBe := HB2.out
    go_wp2_with fail
    exact bodyPost_ret (v := .bool true) (by simp [results, Try.results9, go_sem]) rfl ⟨rfl, HBe⟩

end Go.Proofs.Ytenllemaccacgaa.fnSpreadJoin
