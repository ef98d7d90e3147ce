/-
  The suspected run by the program: the walk.
-/
import Derived.Test.YtenllemaccacgaaGreatDoorRp
namespace Go.Proofs.YtenllemaccacgaaGreatDoor
open Go.RowKit
set_option linter.unusedVariables false

theorem lpI_le {x : Nat → Int} : ∀ k, (lpI x k).length ≤ k
  | 0 => Nat.le_refl _
  | k + 1 => by
    unfold lpI
    have := lpI_le (x := x) k
    split
    · omega
    · rw [List.length_append]; simp; omega
theorem lpQ_in {x : Nat → Int} {Q : Nat → Int × Int} {z : Int × Int} : ∀ {m : Nat}, z ∈ lpQ x Q m → ∃ k, k < m ∧ x k ≠ 0 ∧ z = Q k
  | 0, h => by cases h
  | m + 1, h => by
    unfold lpQ at h
    split at h
    · obtain ⟨k, h1, h2⟩ := lpQ_in h; exact ⟨k, by omega, h2⟩
    · rename_i hx
      rcases List.mem_append.1 h with h | h
      · obtain ⟨k, h1, h2⟩ := lpQ_in h; exact ⟨k, by omega, h2⟩
      · exact ⟨m, by omega, hx, by simpa using h⟩
theorem cell_overQ {w w' : World} {ob : Obj} {g P i : Nat} {v : Value} (h : w.cell? ⟨P, i, none⟩ = some v) (hg : (w.alloc ob).grownBy w' (some g)) (hne : P ≠ g) : w'.cell? ⟨P, i, none⟩ = some v := by
  have hP : P < w.heap.size := World.block_lt_of_cell? w _ h
  exact (World.cell?_of_block (a := ⟨P, i, none⟩) (hg.block P (by simp; omega) (by simpa using hne))).trans ((World.cell?_of_block (a := ⟨P, i, none⟩) (Deep.blk_alloc_lt _ _ _ hP)).trans h)

set_option maxHeartbeats 8000000 in
set_option maxRecDepth 100000 in
theorem iBlunder_of (N K : Nat) (p : Option Addr) (c m : Nat) (rs : List Rn) (a b x y : Nat → Int) (f ok : Nat → Bool) (Q : Nat → Int × Int) (w : World) (h : RunsE w p rs) (hw : nWhole (N : Int) rs = true) (hm : rs.length = m) (hK : N * N = K)
    (hR : ∀ k : Nat, k < m → ∀ w, RunsE w p rs → Hid (Calls Tryz.prog 11 #[.int .i64 N, .slice p m c, .int .i64 k] w fun e w' => e = .returned (.tuple #[.agg #[.int .i64 (a k), .int .i64 (b k)], .bool (f k)]) ∧ Below w.heap.size w w'))
    (hF : ∀ k : Nat, k < m → ∀ (g : Nat) w, Own w g 3 1 K K (gr N (lap rs)) → Runs w p rs → Hid (Calls Tryz.prog 24 #[.agg #[.int .i64 N, .slice p m c, .int .i64 N, .slice (some ⟨g, 0, none⟩) K K, .int .i64 (trN N rs)], .int .i64 k] w fun e w' => e = .returned (.tuple #[.agg #[.int .i64 (x k), .int .i64 (y k)], .bool true]) ∧ Below w.heap.size w w'))
    (hQ : ∀ k : Nat, k < m → f k = true → x k ≠ 0 → ∀ w, Hid (Calls Tryz.prog 32 #[.agg #[.int .i64 (a k), .int .i64 (b k)], .agg #[.int .i64 (x k), .int .i64 (y k)]] w fun e w' => e = .returned (.tuple #[.agg #[.int .i64 (Q k).1, .int .i64 (Q k).2], .bool (ok k)]) ∧ Below w.heap.size w w'))
    (hq : ∀ k, k < m → ok k = true → x k ≠ 0 → Quo.qv (Q k).1 (Q k).2 = true)
    (h1 : ∀ k, k < m → f k = false → ok k = false) (h2 : ∀ k, k < m → f k = true → x k = 0 → ok k = true) :
    Calls Tryz.prog 15 #[.int .i64 N, .slice p m c] w fun e w' => e = .returned (.tuple #[.int .i64 (ansQ x Q ok m).1, .bool (ansQ x Q ok m).2]) ∧ Below w.heap.size w w' := by
  have hn := whole_nok hw
  have hl : m ≤ 12 := by rw [← hm]; exact (nOk_true hn).2.2.1
  have c1 := fun w h => Lib.hid (iSpreads_yes N K p c m rs w h hw hm hK)
  obtain ⟨D, hD⟩ : ∃ D, trN N rs = D := ⟨_, rfl⟩
  rw [hD] at c1
  rw [hD] at hF
  obtain ⟨az, haz⟩ : ∃ a, ansQ x Q ok m = a := ⟨_, rfl⟩
  obtain ⟨a1, a2⟩ := az
  rw [haz]
  have HA := Lib.hid (And.intro haz (And.intro hq (And.intro h1 h2)))
  have HH := Lib.hid (And.intro hR (And.intro hF hQ))
  have H := Lib.hid h
  clear h hw hm hn haz hq hR hF hQ h1 h2 hK hD
  go_enter Tryz.func15, Tryz.ntmps15
  go_upto_region 2 with ((go_at_call 23; (with_reducible refine ((c1 _ ?_).out).mono ?_); (focus ((exact H.out.runs); done)); rintro e wa ⟨g, rfl, hg, ho, hb_wa⟩; have hs_wa := hb_wa.size; (try simp at hs_wa)))
  have h5 := Cell5.new wa (.int .i64 (N : Int)) (.slice p m c) (.int .i64 (N : Int)) (.slice (some ⟨g, 0, none⟩) K K) (.int .i64 D) 55
  have hal : Below wa.heap.size wa (wa.alloc (.cells #[.int .i64 (N : Int), .slice p m c, .int .i64 (N : Int), .slice (some ⟨g, 0, none⟩) K K, .int .i64 D] 55)) := (Below.refl _ _).alloc (Nat.le_refl _) _
  obtain ⟨V, hV⟩ : ∃ V, V = wa.alloc (.cells #[.int .i64 (N : Int), .slice p m c, .int .i64 (N : Int), .slice (some ⟨g, 0, none⟩) K K, .int .i64 D] 55) := ⟨_, rfl⟩
  obtain ⟨S, hS⟩ : ∃ S, S = wa.heap.size := ⟨_, rfl⟩
  rw [← hV] at h5 hal ⊢
  rw [← hS] at h5 ⊢
  have HV := Lib.hid (And.intro h5 (And.intro (ho.below hal) (And.intro (H.out.below (hb_wa.trans (hal.mono hs_wa))) (hb_wa.trans (hal.mono hs_wa)))))
  have hwV : w.heap.size ≤ V.heap.size := HV.out.2.2.2.size
  obtain ⟨⟨m0, m1, m2, m3, m4⟩, -⟩ := h5
  clear hV hS hal ho hb_wa hs_wa c1 hg
  go_wp2_with fail
  clear m0 m1 m2 m3 m4
  go_loopw [7, 8, 25] (fun A L i wr => ∃ j : Nat, j ≤ m ∧ i = .int .i64 j ∧ Pair V.heap.size wr (lpI x j) (lpQ x Q j) A L ∧ okQ ok j = true ∧ Below V.heap.size V wr) (fun _ _ i _ => m - (intOf i).toNat)
  case atStart => exact ⟨0, Nat.zero_le _, rfl, .inl ⟨rfl, rfl, rfl, rfl⟩, rfl, Below.refl _ _⟩
  case round =>
    rename World => wr
    obtain ⟨j, hj, rfl, hP, hok, hb⟩ := hrel
    have hbs := hb.size
    by_cases hlt : j < m
    · have hlt' : (j : Int) < (m : Int) := by omega
      have c2 := HH.out.1 j hlt
      have c3 := HH.out.2.1 j hlt
      have c4 := HH.out.2.2 j hlt
      have hh1 := HA.out.2.2.1 j hlt
      have hh2 := HA.out.2.2.2 j hlt
      have hbad : ok j = false → a1 = 0 ∧ a2 = false := fun hkj => by
        have := HA.out.1
        unfold ansQ at this
        rw [okQ_bad hlt hkj] at this
        simp at this
        exact ⟨this.1.symm, this.2⟩
      have hIs : ¬ x j = 0 → lpI x (j + 1) = lpI x j ++ [(j : Int)] ∧ lpQ x Q (j + 1) = lpQ x Q j ++ [((Q j).1, (Q j).2)] := fun h => ⟨by show (if x j = 0 then lpI x j else _) = _; rw [if_neg h], by show (if x j = 0 then lpQ x Q j else _) = _; rw [if_neg h]⟩
      have hI0 : x j = 0 → lpI x (j + 1) = lpI x j ∧ lpQ x Q (j + 1) = lpQ x Q j := fun h => ⟨by show (if x j = 0 then lpI x j else _) = _; rw [if_pos h], by show (if x j = 0 then lpQ x Q j else _) = _; rw [if_pos h]⟩
      have hok1 : ok j = true → okQ ok (j + 1) = true := fun h => by show (okQ ok j && ok j) = true; rw [hok, h]; rfl
      obtain ⟨av, hav⟩ : ∃ v, a j = v := ⟨_, rfl⟩
      obtain ⟨bv, hbv⟩ : ∃ v, b j = v := ⟨_, rfl⟩
      obtain ⟨fv, hfv⟩ : ∃ v, f j = v := ⟨_, rfl⟩
      obtain ⟨xv, hxv⟩ : ∃ v, x j = v := ⟨_, rfl⟩
      obtain ⟨yv, hyv⟩ : ∃ v, y j = v := ⟨_, rfl⟩
      obtain ⟨qu, hqu⟩ : ∃ v, (Q j).1 = v := ⟨_, rfl⟩
      obtain ⟨qw, hqw⟩ : ∃ v, (Q j).2 = v := ⟨_, rfl⟩
      obtain ⟨kv, hkv⟩ : ∃ v, ok j = v := ⟨_, rfl⟩
      rw [hav, hbv, hfv] at c2
      rw [hxv, hyv] at c3
      rw [hav, hbv, hfv, hxv, hyv, hqu, hqw, hkv] at c4
      rw [hfv, hkv] at hh1 hh2
      rw [hxv] at hh2 hIs hI0
      rw [hqu, hqw] at hIs
      rw [hkv] at hbad hok1
      have HX := Lib.hid (And.intro (HV.out.1.below hb) (And.intro (HV.out.2.1.below hb) (And.intro (HV.out.2.2.1.below hb) (And.intro hb hP))))
      have HC := Lib.hid (And.intro hh1 (And.intro hh2 (And.intro hbad (And.intro hIs (And.intro hI0 hok1)))))
      obtain ⟨⟨m0, m1, m2, m3, m4⟩, -⟩ := HX.out.1
      clear hb hP hok hav hbv hfv hxv hyv hqu hqw hkv hh1 hh2 hbad hIs hI0 hok1
      go_upto_region 8 with ((go_at_call 11; (with_reducible refine ((c2 _ ?_).out).mono ?_); (focus ((exact HX.out.2.2.1); done)); rintro e wi ⟨rfl, hb_wi⟩; have hs_wi := hb_wi.size; (try simp at hs_wi)))
      obtain ⟨V1, X1, hV, hX, hC, hBd, hXl⟩ := new_cell hb_wi av bv 27
      rw [← hV, ← hX]
      have H1 := Lib.hid (And.intro (HX.out.1.below hBd) (And.intro (HX.out.2.1.below hBd) (And.intro (HX.out.2.2.1.below hBd) (And.intro (HX.out.2.2.2.1.trans (hBd.mono hbs)) (And.intro (HX.out.2.2.2.2.below hBd) hC)))))
      have hs1 : V.heap.size ≤ V1.heap.size := by have := hBd.size; omega
      clear hV hX hC hBd hXl hb_wi hs_wi c2 m0 m1 m2 m3 m4 HX
      obtain ⟨⟨m0, m1, m2, m3, m4⟩, -⟩ := H1.out.1
      go_upto_region 9 with ((go_at_call 24; (with_reducible refine ((c3 _ _ ?_ ?_).out).mono ?_); (focus ((exact H1.out.2.1); done)); (focus ((exact H1.out.2.2.1.runs); done)); rintro e wi ⟨rfl, hb_wi⟩; have hs_wi := hb_wi.size; (try simp at hs_wi)))
      obtain ⟨V2, X2, hV, hX, hC, hBd, hXl⟩ := new_cell hb_wi xv yv 27
      rw [← hV, ← hX]
      have H2 := Lib.hid (And.intro (H1.out.2.2.2.1.trans (hBd.mono hs1)) (And.intro (H1.out.2.2.2.2.1.below hBd) (And.intro (H1.out.2.2.2.2.2.below hBd) hC)))
      have hs2 : V.heap.size ≤ V2.heap.size := by have := hBd.size; omega
      clear hV hX hC hBd hXl hb_wi hs_wi c3 m0 m1 m2 m3 m4 H1
      obtain ⟨k1, k2, -, -⟩ := H2.out.2.2.1
      obtain ⟨k3, k4, -, -⟩ := H2.out.2.2.2
      cases fv
      · obtain ⟨e1, e2⟩ := HC.out.2.2.1 (HC.out.1 rfl)
        subst e1 e2
        have HBe := HV.out.2.2.2.trans (H2.out.1.mono hwV)
        clear c4 k1 k2 k3 k4
        go_wp2_with fail
        refine bodyPost_ret (v := .tuple #[.int .i64 0, .bool false]) (by simp [results, Tryz.results15, go_sem]) rfl ⟨rfl, HBe⟩
      · by_cases hx0 : xv = 0
        · have e1 := HC.out.2.2.2.2.1 hx0
          have e2 := HC.out.2.2.2.2.2 (HC.out.2.1 rfl hx0)
          have HE := Lib.hid (And.intro e1 e2)
          subst hx0
          clear c4 e1 e2
          go_wp2_with fail
          go_roundw
          case rel => exact ⟨j + 1, by omega, by go_num, by rw [HE.out.1.1, HE.out.1.2]; exact H2.out.2.1, HE.out.2, H2.out.1⟩
          case measure => simp [intOf]; omega
        · have hx0b : (xv == 0) = false := by simpa using hx0
          have c5 := c4 rfl hx0
          clear c4
          rcases H2.out.2.1 with ⟨n1, n2, rfl, rfl⟩ | ⟨n, gA, cA, gB, cB, hn0, rfl, rfl, hlA, hlB, hne, hoA, hoB⟩
          · go_upto_region 13 with ((go_at_call 32; (with_reducible refine ((c5 _).out).mono ?_); rintro e wi ⟨rfl, hb_wi⟩; have hs_wi := hb_wi.size; (try simp at hs_wi)))
            obtain ⟨V3, X3, hV, hX, hC, hBd, hXl⟩ := new_cell hb_wi qu qw 27
            rw [← hV, ← hX]
            have H3 := Lib.hid (And.intro (H2.out.1.trans (hBd.mono hs2)) (And.intro (H2.out.2.1.below hBd) hC))
            have hs3 : V.heap.size ≤ V3.heap.size := by have := hBd.size; omega
            clear hV hX hC hBd hXl hb_wi hs_wi c5 k1 k2 k3 k4
            cases kv
            · obtain ⟨e1, e2⟩ := HC.out.2.2.1 rfl
              subst e1 e2
              have HBe := HV.out.2.2.2.trans (H3.out.1.mono hwV)
              go_wp2_with fail
              refine bodyPost_ret (v := .tuple #[.int .i64 0, .bool false]) (by simp [results, Tryz.results15, go_sem]) rfl ⟨rfl, HBe⟩
            · have e1 := HC.out.2.2.2.1 hx0
              have e2 := HC.out.2.2.2.2.2 rfl
              have HE := Lib.hid (And.intro e1 e2)
              clear e1 e2 H2
              obtain ⟨k5, k6, -, -⟩ := H3.out.2.2
              have hX3 := H3.out.2.2.lt
              have hb3 := H3.out.1
              go_upto_region 16 with (at_builtin; refine wp_append_nil _ rfl _ _ 31 rfl 3 _ 1 8 Tryz.underlying31 info_int rfl (by decide) (by decide) rfl _ 1 1 [(j : Int)] rfl (by decide) rfl (one_cell V3 (j : Int) 3) (by omega) ?_; intro d1 w1 hown1 hb_w1 hlt1; have HO1 := Lib.hid (show Own w1 (V3.heap.size + 1) 3 1 1 d1 [(j : Int)] ∧ V3.heap.size + 1 < w1.heap.size ∧ Below V3.heap.size V3 w1 from ⟨by simpa using hown1, by simpa using hlt1, ((Below.refl V3.heap.size V3).alloc (Nat.le_refl _) (.cells #[.int .i64 (j : Int)] 3)).trans (hb_w1.mono (by simp))⟩); clear hown1 hb_w1 hlt1)
              have r5 := cell_below_keep HO1.out.2.2 k5
              have r6 := cell_below_keep HO1.out.2.2 k6
              clear k5 k6 hb3
              go_upto_region 17 with (at_builtin; refine wp_append_nil _ rfl _ _ 67 rfl 27 _ 2 16 Tryz.underlying67 info_quo rfl (by decide) (by decide) rfl _ 1 1 [qu, qw] rfl (by decide) rfl (two_new w1 qu qw 27) (by omega) ?_; intro d2 w2 hown2 hb_w2 hlt2; have HO2 := Lib.hid (show Own w2 (w1.heap.size + 1) 27 2 1 d2 [qu, qw] ∧ Below w1.heap.size w1 w2 from ⟨by simpa using hown2, ((Below.refl w1.heap.size w1).alloc (Nat.le_refl _) (.cells #[.int .i64 qu, .int .i64 qw] 27)).trans (hb_w2.mono (by simp))⟩); clear hown2 hb_w2 hlt2)
              have hs13 := HO1.out.2.2.size
              have HP : Hid (Pair V.heap.size w2 (lpI x (j + 1)) (lpQ x Q (j + 1)) (.slice (some ⟨V3.heap.size + 1, 0, none⟩) 1 d1) (.slice (some ⟨w1.heap.size + 1, 0, none⟩) 1 d2)) := Lib.hid (by
                rw [HE.out.1.1, HE.out.1.2, n1, n2]
                exact .inr ⟨1, _, d1, _, d2, by omega, rfl, rfl, by omega, by omega, by have := HO1.out.2.1; omega, HO1.out.1.below HO2.out.2, HO2.out.1⟩)
              have HBf := Lib.hid (H3.out.1.trans ((HO1.out.2.2.trans (HO2.out.2.mono hs13)).mono hs3))
              clear r5 r6 n1 n2 HO1 HO2
              go_wp2_with fail
              go_roundw
              case rel => exact ⟨j + 1, by omega, by go_num, HP.out, HE.out.2, HBf.out⟩
              case measure => simp [intOf]; omega
          · go_upto_region 13 with ((go_at_call 32; (with_reducible refine ((c5 _).out).mono ?_); rintro e wi ⟨rfl, hb_wi⟩; have hs_wi := hb_wi.size; (try simp at hs_wi)))
            obtain ⟨V3, X3, hV, hX, hC, hBd, hXl⟩ := new_cell hb_wi qu qw 27
            rw [← hV, ← hX]
            have H3 := Lib.hid (And.intro (H2.out.1.trans (hBd.mono hs2)) (And.intro (H2.out.2.1.below hBd) hC))
            have hs3 : V.heap.size ≤ V3.heap.size := by have := hBd.size; omega
            have hBd3 := Lib.hid hBd
            have hXA : X3 ≠ gA := by have := hoA.lt; omega
            have hXB : X3 ≠ gB := by have := hoB.lt; omega
            clear hV hX hC hBd hXl hb_wi hs_wi c5 k1 k2 k3 k4
            cases kv
            · obtain ⟨e1, e2⟩ := HC.out.2.2.1 rfl
              subst e1 e2
              have HBe := HV.out.2.2.2.trans (H3.out.1.mono hwV)
              go_wp2_with fail
              refine bodyPost_ret (v := .tuple #[.int .i64 0, .bool false]) (by simp [results, Tryz.results15, go_sem]) rfl ⟨rfl, HBe⟩
            · have e1 := HC.out.2.2.2.1 hx0
              have e2 := HC.out.2.2.2.2.2 rfl
              have HE := Lib.hid (And.intro e1 e2)
              clear e1 e2 H2
              obtain ⟨k5, k6, -, -⟩ := H3.out.2.2
              have hX3 := H3.out.2.2.lt
              have hoA3 := hoA.below hBd3.out
              have hoB3 := hoB.below hBd3.out
              have hn12 : n ≤ 12 := by have e1 := hoA.len; have e2 := lpI_le (x := x) j; omega
              have hlq : (lpQ x Q j).length = n := by have e1 := hoA.len; have e2 := lp_len (x := x) (Q := Q) j; omega
              have HOO := Lib.hid (And.intro hoA3 hoB3)
              clear hoA hoB hoA3 hoB3
              go_upto_region 16 with (at_builtin; refine wp_append _ rfl _ _ 31 rfl 3 _ 1 8 Tryz.underlying31 info_int rfl (by decide) (by decide) gA n cA (lpI x j) rfl (HOO.out.1.alloc _) _ 1 1 [(j : Int)] rfl rfl (one_cell V3 (j : Int) 3) (by omega) ?_; intro g1 d1 w1 hown1 hg1 hloc1 hsz1; have HO1 := Lib.hid (And.intro hown1 (And.intro hg1 hloc1)); have r5 := cell_overQ k5 hg1 hXA; have r6 := cell_overQ k6 hg1 hXA; have hs31 : V3.heap.size + 1 ≤ w1.heap.size := (by simpa using hsz1); clear hown1 hg1 hloc1 hsz1)
              have hoB1 := (HOO.out.2.alloc (.cells #[.int .i64 (j : Int)] 3)).grown HO1.out.2.1 (by omega)
              have hbw1 : Below V.heap.size V w1 := below_gr (H3.out.1.alloc hs3 (.cells #[.int .i64 (j : Int)] 3)) HO1.out.2.1 hlA (by simp; omega)
              have hg1 : V.heap.size ≤ g1 ∧ g1 ≠ gB ∧ g1 < w1.heap.size := by
                have e0 := HO1.out.1.lt
                have e2 := HOO.out.2.lt
                rcases HO1.out.2.2 with e | e
                · exact ⟨by omega, by omega, by omega⟩
                · simp at e; exact ⟨by omega, by omega, by omega⟩
              have HOB := Lib.hid (And.intro hoB1 hbw1)
              clear hoB1 hbw1 k5 k6
              go_upto_region 17 with (at_builtin; refine wp_append _ rfl _ _ 67 rfl 27 _ 2 16 Tryz.underlying67 info_quo rfl (by decide) (by decide) gB n cB (flq (lpQ x Q j)) rfl (HOB.out.1.alloc _) _ 1 1 [qu, qw] rfl rfl (two_new w1 qu qw 27) (by omega) ?_; intro g2 d2 w2 hown2 hg2 hloc2 hsz2; have HO2 := Lib.hid (And.intro hown2 (And.intro hg2 hloc2)); clear hown2 hg2 hloc2 hsz2)
              have hoA2 := (HO1.out.1.alloc (.cells #[.int .i64 qu, .int .i64 qw] 27)).grown HO2.out.2.1 hg1.2.1
              have hbw2 : Below V.heap.size V w2 := below_gr (HOB.out.2.alloc (by omega) (.cells #[.int .i64 qu, .int .i64 qw] 27)) HO2.out.2.1 hlB (by simp; omega)
              have hg2 : V.heap.size ≤ g2 ∧ g1 ≠ g2 := by
                rcases HO2.out.2.2 with e | e
                · exact ⟨by omega, by omega⟩
                · simp at e; exact ⟨by omega, by omega⟩
              have HP : Hid (Pair V.heap.size w2 (lpI x (j + 1)) (lpQ x Q (j + 1)) (.slice (some ⟨g1, 0, none⟩) (n + 1) d1) (.slice (some ⟨g2, 0, none⟩) (n + 1) d2)) := Lib.hid (by
                rw [HE.out.1.1, HE.out.1.2]
                exact .inr ⟨n + 1, g1, d1, g2, d2, by omega, rfl, rfl, hg1.1, hg2.1, hg2.2, hoA2, by rw [flq_append]; exact HO2.out.1⟩)
              have HBf := Lib.hid hbw2
              clear r5 r6 HO1 HO2 hoA2 hbw2 hg1 hg2 HOB HOO
              go_wp2_with fail
              go_roundw
              case rel => exact ⟨j + 1, by omega, by go_num, HP.out, HE.out.2, HBf.out⟩
              case measure => simp [intOf]; omega
    · have e : m = j := by omega
      subst e
      have hans := HA.out.1
      unfold ansQ at hans
      rw [if_pos hok] at hans
      have HBe := Lib.hid (HV.out.2.2.2.trans (hb.mono hwV))
      cases eb : bstQ x Q m with
      | none =>
        obtain ⟨n1, n2⟩ := (bst_gix (x := x) (Q := Q) m).1 eb
        rw [eb] at hans
        simp at hans
        have e1 : a1 = 0 := hans.1.symm
        have e2 : a2 = false := by first | exact hans.2 | exact hans.2.symm
        subst e1 e2
        rcases hP with ⟨-, -, rfl, rfl⟩ | ⟨n, gA, cA, gB, cB, hn0, rfl, rfl, hlA, hlB, hne, hoA, hoB⟩
        · have c6 := fun w => Lib.hid (iGreatest 0 0 none [] w (.inl rfl) rfl (by omega) (fun x hx => by cases hx))
          clear hb hok hans n1 n2 eb
          go_wp2_with ((go_at_call 33; (with_reducible refine ((c6 _).out).mono ?_); rintro e wi ⟨rfl, hb_wi⟩; have hs_wi := hb_wi.size; (try simp at hs_wi)))
          refine bodyPost_ret (v := .tuple #[.int .i64 0, .bool false]) (by simp [results, Tryz.results15, go_sem]) rfl ⟨rfl, HBe.out.trans (hb_wi.mono (by have := HBe.out.size; omega))⟩
        · have := hoA.len
          rw [n1] at this
          simp at this
          omega
      | some v =>
        obtain ⟨i, t⟩ := v
        obtain ⟨n1, n2⟩ := (bst_gix (x := x) (Q := Q) m).2 i t eb
        rw [eb] at hans
        simp at hans
        have e1 : a1 = (i : Int) := hans.1.symm
        have e2 : a2 = true := by first | exact hans.2 | exact hans.2.symm
        subst e1 e2
        rcases hP with ⟨l1, -, -, -⟩ | ⟨n, gA, cA, gB, cB, hn0, rfl, rfl, hlA, hlB, hne, hoA, hoB⟩
        · rw [l1] at n1; simp at n1
        · have hlI : (lpI x m).length = n := by have := hoA.len; omega
          have hlQ : (lpQ x Q m).length = n := by have := lp_len (x := x) (Q := Q) m; omega
          have hn12 : n ≤ 12 := by have := lpI_le (x := x) m; omega
          rw [hlQ] at n1 n2
          have c6 := fun w h => Lib.hid (by have := iGreatest n cB (some ⟨gB, 0, none⟩) (lpQ x Q m) w h hlQ (by omega) (fun z hz => by
            obtain ⟨k, h1, h2, rfl⟩ := lpQ_in hz
            exact HA.out.2.1 k h1 (okQ_all h1 hok) h2); rw [decide_eq_true hn0] at this; exact this)
          have hgn : gix (lpQ x Q m) n < n := by have := (List.getElem?_eq_some_iff.1 n1).1; omega
          obtain ⟨gi, hgi⟩ : ∃ g, gix (lpQ x Q m) n = g := ⟨_, rfl⟩
          rw [hgi] at c6 n1 hgn
          have hgnI : (gi : Int) < (n : Int) := by omega
          have s1 := hoA.cells n1
          have HOQ := Lib.hid hoB.quosW
          clear hb hok hans n2 eb hoA hoB hgi hlI hlQ
          go_wp2_with ((go_at_call 33; (with_reducible refine ((c6 _ ?_).out).mono ?_); (focus ((exact HOQ.out); done)); rintro e wi ⟨rfl, hb_wi⟩; have hs_wi := hb_wi.size; (try simp at hs_wi)); have s2 := cell_below_keep hb_wi s1)
          refine bodyPost_ret (v := .tuple #[.int .i64 i, .bool true]) (by simp [results, Tryz.results15, go_sem]) rfl ⟨rfl, HBe.out.trans (hb_wi.mono (by have := HBe.out.size; omega))⟩
end Go.Proofs.YtenllemaccacgaaGreatDoor
