/-
  For every code the law FnSpreadSeries returns true: impl.SpreadRun answers as the reference model does; two runs behind each other of twice the weight, through a new node, leave the spread of the nodes as it was. No condition: every list of bytes is taken.
-/
import Derived.Test.YtenllemaccacgaaRl
import Derived.Test.YtenllemaccacgaaRd
import Derived.Test.YtenllemaccacgaaCode
namespace Go.Proofs.Ytenllemaccacgaa.fnSpreadSeries
open Go.ChangeShapes Go.WideShapes Go.ChangeAt Go.RowKit
set_option linter.unusedVariables false

/-- the net with the run in two -/
def twoR (rs : List Rn) (k N : Nat) (r : Rn) : List Rn := rs.set k ⟨r.f, N, 0, 2 * r.g⟩ ++ [⟨N, r.t, 0, 2 * r.g⟩]
theorem twoR_perm {rs : List Rn} {k N : Nat} {r : Rn} (hr : rs[k]? = some r) : (twoR rs k N r).Perm ((⟨r.f, N, 0, 2 * r.g⟩ : Rn) :: ⟨N, r.t, 0, 2 * r.g⟩ :: rs.eraseIdx k) := by
  have hk := (List.getElem?_eq_some_iff.1 hr).1
  have h2 : (rs.set k (⟨r.f, N, 0, 2 * r.g⟩ : Rn))[k]? = some ⟨r.f, N, 0, 2 * r.g⟩ := by rw [List.getElem?_set, if_pos rfl, if_pos hk]
  have h3 := erase_perm h2
  rw [List.eraseIdx_set_eq] at h3
  unfold twoR
  exact (List.perm_append_singleton _ _).trans ((List.Perm.cons _ h3).trans (List.Perm.swap _ _ _))
theorem twoR_ok {N k : Nat} {rs : List Rn} {r : Rn} (hn : nOk (N : Int) rs = true) (hN : N < 6) (hl : rs.length ≤ 11) (hg : 2 * r.g ≤ 9) (hr : rs[k]? = some r) : nOk ((N + 1 : Nat) : Int) (twoR rs k N r) = true := by
  obtain ⟨a, b, c, d⟩ := nOk_true hn
  have h0 := rOk_true (d k r hr)
  refine nOk_of (by omega) (by omega) (by unfold twoR; simp; omega) (fun i x hx => ?_)
  have hm := (twoR_perm (N := N) hr).mem_iff.1 (List.mem_of_getElem? hx)
  rcases List.mem_cons.1 hm with e | e
  · subst e
    exact rOk_of h0.1 (by simp; omega) (by simp) (by simp; omega) (by simp; omega) (by simp) (by simp) (by simp; omega) (by simp; omega)
  · rcases List.mem_cons.1 e with e | e
    · subst e
      exact rOk_of (by simp) (by simp; omega) h0.2.2.1 (by simp; omega) (by simp; omega) (by simp) (by simp) (by simp; omega) (by simp; omega)
    · obtain ⟨j, hj⟩ := List.getElem?_of_mem (List.eraseIdx_subset e)
      have := rOk_true (d j x hj)
      exact rOk_of this.1 (by omega) this.2.2.1 (by omega) this.2.2.2.2.1 this.2.2.2.2.2.1 this.2.2.2.2.2.2.1 this.2.2.2.2.2.2.2.1 this.2.2.2.2.2.2.2.2
theorem twoR_spread {N k : Nat} {rs : List Rn} {r : Rn} (hn : nOk (N : Int) rs = true) (hr : rs[k]? = some r) :
    spN (N + 1) (twoR rs k N r) r.f.toNat r.t.toNat = 4 * r.g * spN N rs r.f.toNat r.t.toNat ∧ trN (N + 1) (twoR rs k N r) = 4 * r.g * trN N rs := by
  obtain ⟨e1, e2, e3, e4, e5⟩ := run_ends hn hr
  have hp := spN_perm (N := N + 1) (i := r.f.toNat) (j := r.t.toNat) (twoR_perm (N := N) hr)
  have hs := spN_series (N := N) (f := r.f.toNat) (t := r.t.toNat) (a := ⟨r.f, N, 0, 2 * r.g⟩) (b := ⟨N, r.t, 0, 2 * r.g⟩) (rs := rs.eraseIdx k) (g := r.g) (nOk_in (erase_ok hn k)) e1 e2 e3 (.inl ⟨by simp; omega, rfl⟩) (.inr ⟨rfl, by simp; omega⟩) rfl rfl
  have he := spN_erase (nOk_in hn) hr (ok_runs hn r (List.mem_of_getElem? hr)).1
  rw [hp.1, hp.2, hs.1, hs.2, ← he.1]
  refine ⟨rfl, ?_⟩
  rw [he.2]
set_option maxHeartbeats 8000000 in
set_option maxRecDepth 100000 in
theorem walk (len cap : Nat) (p : Option Addr) (w : World) (hl : len ≤ 1048576) (h : Hid (Code' w (.slice p len cap))) :
    Calls Try.prog 10 #[.slice p len cap] w fun e w' => e = .returned (.bool true) ∧ Below w.heap.size w w' := by
  have hl' : ¬ (1048576 : Int) < (len : Int) := by omega
  go_enter Try.func10, Try.ntmps10
  go_upto_region 4 with (go_at_call 32; (with_reducible refine (drawSprRun_is _ _ h).mono ?_); rintro e wd ⟨N, m, rs, B, u, ⟨c, hmc, rfl⟩, hmm, ⟨⟨hN2, hN6⟩, hl8, hR, hb_wd⟩, hu1, hu2⟩; have HB0 := Lib.hid hb_wd; have HR0 := Lib.hid hR; have HM := Lib.hid hmm; clear hR hb_wd)
  have hm8 : m ≤ 8 := by have := HM.out; omega
  clear h hl8 hmm
  by_cases hy : nWhole (N : Int) rs = true ∧ 0 ≤ u ∧ u < (m : Int)
  · obtain ⟨k, r, rfl, hk, hr⟩ := hasRun_nat (rs := rs) (k := u) ⟨hy.2.1, by have := HM.out; omega⟩
    have hw := hy.1
    have hkm : k < m := by have := HM.out; omega
    have hkm' : (k : Int) < (m : Int) := by omega
    have hn := whole_nok hw
    have hD0 := trN_pos1 hw
    have hro := ok_runs hn r (List.mem_of_getElem? hr)
    clear hy hu1 hu2
    have c1 := fun w h => Lib.hid (iSpreadRun_yes N k (some ⟨B, 0, none⟩) c m rs r w h hw HM.out hr)
    have c2 := fun w h => Lib.hid (sSpreadRun_yes N k (some ⟨B, 0, none⟩) c m rs r w h hw HM.out hr)
    have hgp := gsp_pos hw hr
    have hx0 : 0 < srT N rs r := by
      have h1 := Quo.T_nn (a := gsp N rs r) (b := trN N rs) (gsp_le hn hr).1 hD0
      have h2 := Quo.T_zero_iff (a := gsp N rs r) (b := trN N rs) (by omega)
      have h3 : gsp N rs r ≠ 0 := by unfold gsp; omega
      unfold srT
      rcases Int.lt_or_eq_of_le h1 with h | h
      · exact h
      · exact absurd (h2.1 h.symm) h3
    obtain ⟨x, hx⟩ : ∃ x, srT N rs r = x := ⟨_, rfl⟩
    obtain ⟨y, hy⟩ : ∃ x, srL N rs r = x := ⟨_, rfl⟩
    rw [hx, hy] at c1 c2
    rw [hx] at hx0
    obtain ⟨e1, e2, e3, e4, e5⟩ := run_ends hn hr
    have hmI : (m : Int) ≤ 8 := by omega
    by_cases h6' : N = 6
    · have H6 := Lib.hid h6'
      clear h6' hgp hx hy hw hD0
      go_upto_region 5 with ((go_at_call 33; (with_reducible refine ((c1 _ ?_).out).mono ?_); (focus ((exact HR0.out); done)); rintro e wi ⟨rfl, hb_wi⟩; have hs_wi := hb_wi.size; (try simp at hs_wi)))
      obtain ⟨V1, Xa, hV, hX, hC, hBd, hXl⟩ := new_cell hb_wi x y 27
      rw [← hV, ← hX]
      have HB1 := Lib.hid (HB0.out.trans (hBd.mono HB0.out.size))
      have HR1 := Lib.hid (HR0.out.below hBd)
      have Ca1 := Lib.hid hC
      have hla := hC.lt
      clear hV hX hC hBd hXl hb_wi hs_wi HB0 HR0
      go_upto_region 6 with ((go_at_call 34; (with_reducible refine ((c2 _ ?_).out).mono ?_); (focus ((exact HR1.out); done)); rintro e wi ⟨rfl, hb_wi⟩; have hs_wi := hb_wi.size; (try simp at hs_wi)))
      obtain ⟨V2, Xb, hV, hX, hC, hBd, hXl⟩ := new_cell hb_wi x y 27
      rw [← hV, ← hX]
      have HB2 := Lib.hid (HB1.out.trans (hBd.mono HB1.out.size))
      have HR2 := Lib.hid (HR1.out.below hBd)
      have Ca2 := Lib.hid (Ca1.out.below hBd)
      have Cb2 := Lib.hid hC
      have hlb := hC.lt
      clear hV hX hC hBd hXl hb_wi hs_wi HB1 HR1 Ca1
      obtain ⟨ap, aq, -, -⟩ := Ca2.out
      obtain ⟨bp, bq, -, -⟩ := Cb2.out
      clear hr hk hn hro e1 e2 e3 e4 e5
      obtain rfl := H6.out
      have HBe := HB2.out
      go_wp2_with fail
      exact bodyPost_ret (v := .bool true) (by simp [results, Try.results10, go_sem]) rfl ⟨rfl, HBe⟩
    · by_cases hg9 : (9 : Int) < 2 * r.g
      · have h6 : ¬ (N : Int) = 6 := by omega
        have h6n : ¬ N = 6 := by omega
        have h6b : ((N : Int) == 6) = false := by rw [beq_eq_false_iff_ne]; exact h6
        have wg : IntKind.i64.wrap (2 * r.g) = 2 * r.g := by rw [IntKind.wrap_i64]; omega
        clear hgp hx hy hw hD0
        go_upto_region 5 with ((go_at_call 33; (with_reducible refine ((c1 _ ?_).out).mono ?_); (focus ((exact HR0.out); done)); rintro e wi ⟨rfl, hb_wi⟩; have hs_wi := hb_wi.size; (try simp at hs_wi)))
        obtain ⟨V1, Xa, hV, hX, hC, hBd, hXl⟩ := new_cell hb_wi x y 27
        rw [← hV, ← hX]
        have HB1 := Lib.hid (HB0.out.trans (hBd.mono HB0.out.size))
        have HR1 := Lib.hid (HR0.out.below hBd)
        have Ca1 := Lib.hid hC
        have hla := hC.lt
        clear hV hX hC hBd hXl hb_wi hs_wi HB0 HR0
        go_upto_region 6 with ((go_at_call 34; (with_reducible refine ((c2 _ ?_).out).mono ?_); (focus ((exact HR1.out); done)); rintro e wi ⟨rfl, hb_wi⟩; have hs_wi := hb_wi.size; (try simp at hs_wi)))
        obtain ⟨V2, Xb, hV, hX, hC, hBd, hXl⟩ := new_cell hb_wi x y 27
        rw [← hV, ← hX]
        have HB2 := Lib.hid (HB1.out.trans (hBd.mono HB1.out.size))
        have HR2 := Lib.hid (HR1.out.below hBd)
        have Ca2 := Lib.hid (Ca1.out.below hBd)
        have Cb2 := Lib.hid hC
        have hlb := hC.lt
        clear hV hX hC hBd hXl hb_wi hs_wi HB1 HR1 Ca1
        obtain ⟨ap, aq, -, -⟩ := Ca2.out
        obtain ⟨bp, bq, -, -⟩ := Cb2.out
        obtain ⟨B', o', r', heq, hr', hBl, d1, d2, d3, d4⟩ := HR2.out.at (i := k) (by have := HM.out; omega)
        cases heq
        obtain rfl : r = r' := by rw [hr] at hr'; cases hr'; rfl
        rw [Nat.zero_add] at d1 d2 d3 d4
        clear hr hr' hk hn e1 e2 e3 e4 e5 d1 d2 d3
        have HBe := HB2.out
        go_wp2_with fail
        exact bodyPost_ret (v := .bool true) (by simp [results, Try.results10, go_sem]) rfl ⟨rfl, HBe⟩
      · have h6 : ¬ (N : Int) = 6 := by omega
        have h6n : ¬ N = 6 := by omega
        have h6b : ((N : Int) == 6) = false := by rw [beq_eq_false_iff_ne]; exact h6
        have wg : IntKind.i64.wrap (2 * r.g) = 2 * r.g := by rw [IntKind.wrap_i64]; omega
        have wN : IntKind.i64.wrap ((N : Int) + 1) = (N : Int) + 1 := by rw [IntKind.wrap_i64]; omega
        have hn2 := twoR_ok (k := k) hn (by omega) (by have := HM.out; omega) (by omega) hr
        have hts := twoR_spread hn hr
        have hw2 : nWhole ((N + 1 : Nat) : Int) (twoR rs k N r) = true := by
          rw [← trN_whole hn2, hts.2]
          exact Int.mul_pos (by omega) hD0
        have hsame : sprT (N + 1) (twoR rs k N r) r.f.toNat r.t.toNat = sprT N rs r.f.toNat r.t.toNat ∧ sprL (N + 1) (twoR rs k N r) r.f.toNat r.t.toNat = sprL N rs r.f.toNat r.t.toNat := by
          have h0 := Int.mul_pos (show (0 : Int) < 4 * r.g by omega) hD0
          exact Quo.TL_val (by rw [hts.2]; omega) (by omega) (by rw [hts.1, hts.2]; grind)
        have hjl : (twoR rs k N r).length = m + 1 := by unfold twoR; rw [List.length_append, List.length_set, HM.out]; rfl
        have hjf : flat (twoR rs k N r) = flat (rs.set k ⟨r.f, N, 0, 2 * r.g⟩) ++ [(N : Int), r.t, 0, 2 * r.g] := by unfold twoR; rw [flat_append]; rfl
        have c3 := fun w h => Lib.hid (by have := iSpreadOf_yes N r.f.toNat r.t.toNat (some ⟨B, 0, none⟩) c m rs w h hw HM.out e1 e2; rw [e4, e5] at this; exact this)
        have c4 := fun p c w h => Lib.hid (by have := iSpreadOf_yes (N + 1) r.f.toNat r.t.toNat p c (m + 1) (twoR rs k N r) w h hw2 hjl (by omega) (by omega); rw [e4, e5, hsame.1, hsame.2, Int.natCast_add, Int.natCast_one] at this; exact this)
        obtain ⟨u, hu⟩ : ∃ x, sprT N rs r.f.toNat r.t.toNat = x := ⟨_, rfl⟩
        obtain ⟨v, hv⟩ : ∃ x, sprL N rs r.f.toNat r.t.toNat = x := ⟨_, rfl⟩
        rw [hu, hv] at c3 c4
        obtain ⟨js, hjs⟩ : ∃ js, twoR rs k N r = js := ⟨_, rfl⟩
        rw [hjs] at c4 hjf
        have HJ := Lib.hid (And.intro hjf hk)
        clear hgp hx hy hw hD0 hn2 hts hw2 hsame hjl hjf hu hv hjs
        go_upto_region 5 with ((go_at_call 33; (with_reducible refine ((c1 _ ?_).out).mono ?_); (focus ((exact HR0.out); done)); rintro e wi ⟨rfl, hb_wi⟩; have hs_wi := hb_wi.size; (try simp at hs_wi)))
        obtain ⟨V1, Xa, hV, hX, hC, hBd, hXl⟩ := new_cell hb_wi x y 27
        rw [← hV, ← hX]
        have HB1 := Lib.hid (HB0.out.trans (hBd.mono HB0.out.size))
        have HR1 := Lib.hid (HR0.out.below hBd)
        have Ca1 := Lib.hid hC
        have hla := hC.lt
        clear hV hX hC hBd hXl hb_wi hs_wi HB0 HR0
        go_upto_region 6 with ((go_at_call 34; (with_reducible refine ((c2 _ ?_).out).mono ?_); (focus ((exact HR1.out); done)); rintro e wi ⟨rfl, hb_wi⟩; have hs_wi := hb_wi.size; (try simp at hs_wi)))
        obtain ⟨V2, Xb, hV, hX, hC, hBd, hXl⟩ := new_cell hb_wi x y 27
        rw [← hV, ← hX]
        have HB2 := Lib.hid (HB1.out.trans (hBd.mono HB1.out.size))
        have HR2 := Lib.hid (HR1.out.below hBd)
        have Ca2 := Lib.hid (Ca1.out.below hBd)
        have Cb2 := Lib.hid hC
        have hlb := hC.lt
        clear hV hX hC hBd hXl hb_wi hs_wi HB1 HR1 Ca1
        obtain ⟨ap, aq, -, -⟩ := Ca2.out
        obtain ⟨bp, bq, -, -⟩ := Cb2.out
        obtain ⟨B', o', r', heq, hr', hBl, d1, d2, d3, d4⟩ := HR2.out.at (i := k) (by have := HM.out; omega)
        cases heq
        obtain rfl : r = r' := by rw [hr] at hr'; cases hr'; rfl
        rw [Nat.zero_add] at d1 d2 d3 d4
        have hh : ¬ (9 : Int) < 2 * r.g := by omega
        clear hr hr' hn e1 e2 e3 e4 e5
        go_upto_region 11 with fail
        obtain ⟨V3, hV⟩ : ∃ V, V = V2.alloc (.cells #[.int .i64 r.f, .int .i64 r.t, .int .i64 r.s, .int .i64 r.g] 35) := ⟨_, rfl⟩
        obtain ⟨Rb, hRb⟩ : ∃ R, R = V2.heap.size := ⟨_, rfl⟩
        have hBd : Below V2.heap.size V2 (V2.alloc (.cells #[.int .i64 r.f, .int .i64 r.t, .int .i64 r.s, .int .i64 r.g] 35)) := (Below.refl _ _).alloc (Nat.le_refl _) _
        have z1 : (V2.alloc (.cells #[.int .i64 r.f, .int .i64 r.t, .int .i64 r.s, .int .i64 r.g] 35)).cell? ⟨V2.heap.size, 0, none⟩ = some (.int .i64 r.f) := by simp [go_sem]
        have z2 : (V2.alloc (.cells #[.int .i64 r.f, .int .i64 r.t, .int .i64 r.s, .int .i64 r.g] 35)).cell? ⟨V2.heap.size, 1, none⟩ = some (.int .i64 r.t) := by simp [go_sem]
        have z4 : (V2.alloc (.cells #[.int .i64 r.f, .int .i64 r.t, .int .i64 r.s, .int .i64 r.g] 35)).cell? ⟨V2.heap.size, 3, none⟩ = some (.int .i64 r.g) := by simp [go_sem]
        rw [← hV] at hBd z1 z2 z4 ⊢
        rw [← hRb] at z1 z2 z4 ⊢
        have hRl := World.block_lt_of_cell? V3 _ z1
        have HRV := Lib.hid hRl
        have HB3 := Lib.hid (HB2.out.trans ((hBd).mono HB2.out.size))
        have HR3 := Lib.hid (HR2.out.below (hBd))
        have Ca3 := Lib.hid (Ca2.out.below (hBd))
        have Cb3 := Lib.hid (Cb2.out.below (hBd))
        clear HB2 HR2 Ca2 Cb2 hV hRb hBd d1 d2 d3 d4 ap aq bp bq
        go_upto_region 12 with (at_builtin; refine wp_append _ rfl _ _ 23 rfl 35 _ 4 32 Try.underlying23 info_run rfl (by decide) (by decide) _ 0 0 [] rfl (Own.empty _ _ 4) ⟨B, 0, none⟩ m c (flat rs) rfl (by rw [flat_len, HM.out]) (runs_cells (HR3.out.alloc _)) (by omega) ?_; intro g1 d1 w1 hown1 hg1 hloc1 hsz1; have HN1 := Lib.hid (show Own w1 g1 35 4 m d1 (flat rs) ∧ _ ∧ _ ∧ _ from And.intro (by simpa using hown1) (And.intro hg1 (And.intro hloc1 hsz1))); clear hown1 hg1 hloc1 hsz1; simp only [Nat.zero_add])
        have hB1 : Below V3.heap.size V3 w1 := below_gr ((Below.refl V3.heap.size V3).alloc (Nat.le_refl _) (.cells #[] 35)) HN1.out.2.1 (Nat.le_refl _) (by simp)
        have hg1 : V3.heap.size ≤ g1 := by
          rcases HN1.out.2.2.1 with e | e
          · omega
          · simp at e; omega
        have hRV2 : Rb < V3.heap.size := HRV.out
        have hRg : ¬ Rb = g1 := by omega
        have hgR : ¬ g1 = Rb := by omega
        have y1 := cell_below_keep hB1 z1
        have y2 := cell_below_keep hB1 z2
        have y4 := cell_below_keep hB1 z4
        have hfl : (flat rs).length = m * 4 := by rw [flat_len, HM.out]
        have hgl1 := HN1.out.1.lt
        have q0 := HN1.out.1.cells (i := k * 4) (List.getElem?_eq_getElem (by omega))
        have q1 := HN1.out.1.cells (i := k * 4 + 1) (List.getElem?_eq_getElem (by omega))
        have q2 := HN1.out.1.cells (i := k * 4 + 2) (List.getElem?_eq_getElem (by omega))
        have q3 := HN1.out.1.cells (i := k * 4 + 3) (List.getElem?_eq_getElem (by omega))
        have r0 := HN1.out.1.frozen (k * 4)
        have r1 := HN1.out.1.frozen (k * 4 + 1)
        have r2 := HN1.out.1.frozen (k * 4 + 2)
        have r3 := HN1.out.1.frozen (k * 4 + 3)
        obtain ⟨o0, ho0⟩ : ∃ y, (flat rs)[k * 4]'(by omega) = y := ⟨_, rfl⟩
        obtain ⟨o1, ho1⟩ : ∃ y, (flat rs)[k * 4 + 1]'(by omega) = y := ⟨_, rfl⟩
        obtain ⟨o2, ho2⟩ : ∃ y, (flat rs)[k * 4 + 2]'(by omega) = y := ⟨_, rfl⟩
        obtain ⟨o3, ho3⟩ : ∃ y, (flat rs)[k * 4 + 3]'(by omega) = y := ⟨_, rfl⟩
        rw [ho0] at q0
        rw [ho1] at q1
        rw [ho2] at q2
        rw [ho3] at q3
        have hS4 := HN1.out.1.set4 HJ.out.2 ⟨r.f, N, 0, 2 * r.g⟩
        dsimp only at hS4
        have hBS : Below V3.heap.size V3 ((((w1.setCell ⟨g1, k * 4, none⟩ (.int .i64 r.f)).setCell ⟨g1, k * 4 + 1, none⟩ (.int .i64 (N : Int))).setCell ⟨g1, k * 4 + 2, none⟩ (.int .i64 0)).setCell ⟨g1, k * 4 + 3, none⟩ (.int .i64 (2 * r.g))) := (((hB1.setCell (p := ⟨g1, k * 4, none⟩) hg1 _).setCell (p := ⟨g1, k * 4 + 1, none⟩) hg1 _).setCell (p := ⟨g1, k * 4 + 2, none⟩) hg1 _).setCell (p := ⟨g1, k * 4 + 3, none⟩) hg1 _
        have HS := Lib.hid (And.intro hS4 hBS)
        clear hS4 hBS ho0 ho1 ho2 ho3 hB1
        go_upto_region 13 with fail
        have k1 := cell_set_keep (.int .i64 (2 * r.g)) (a := ⟨g1, k * 4 + 3, none⟩) hRg (cell_set_keep (.int .i64 0) (a := ⟨g1, k * 4 + 2, none⟩) hRg (cell_set_keep (.int .i64 (N : Int)) (a := ⟨g1, k * 4 + 1, none⟩) hRg (cell_set_keep (.int .i64 r.f) (a := ⟨g1, k * 4, none⟩) hRg y1)))
        have k2 := cell_set_keep (.int .i64 (2 * r.g)) (a := ⟨g1, k * 4 + 3, none⟩) hRg (cell_set_keep (.int .i64 0) (a := ⟨g1, k * 4 + 2, none⟩) hRg (cell_set_keep (.int .i64 (N : Int)) (a := ⟨g1, k * 4 + 1, none⟩) hRg (cell_set_keep (.int .i64 r.f) (a := ⟨g1, k * 4, none⟩) hRg y2)))
        have k4 := cell_set_keep (.int .i64 (2 * r.g)) (a := ⟨g1, k * 4 + 3, none⟩) hRg (cell_set_keep (.int .i64 0) (a := ⟨g1, k * 4 + 2, none⟩) hRg (cell_set_keep (.int .i64 (N : Int)) (a := ⟨g1, k * 4 + 1, none⟩) hRg (cell_set_keep (.int .i64 r.f) (a := ⟨g1, k * 4, none⟩) hRg y4)))
        have hS4 := HS.out.1
        have hBS := HS.out.2
        obtain ⟨W4, hW4⟩ : ∃ W, W = (((w1.setCell ⟨g1, k * 4, none⟩ (.int .i64 r.f)).setCell ⟨g1, k * 4 + 1, none⟩ (.int .i64 (N : Int))).setCell ⟨g1, k * 4 + 2, none⟩ (.int .i64 0)).setCell ⟨g1, k * 4 + 3, none⟩ (.int .i64 (2 * r.g)) := ⟨_, rfl⟩
        rw [← hW4] at k1 k2 k4 hS4 hBS ⊢
        have HS4 := Lib.hid hS4
        have HG1 := Lib.hid hg1
        have hR4 := World.block_lt_of_cell? W4 _ k1
        clear hW4 HS hS4 HN1 y1 y2 y4 q0 q1 q2 q3 r0 r1 r2 r3 z1 z2 z4
        have HBS := Lib.hid hBS
        clear hBS
        have hfs : (flat (rs.set k ⟨r.f, N, 0, 2 * r.g⟩)).length = m * 4 := by rw [flat_len, List.length_set, HM.out]
        go_upto_region 14 with (at_builtin; refine wp_append _ rfl _ _ 23 rfl 35 _ 4 32 Try.underlying23 info_run rfl (by decide) (by decide) g1 m d1 (flat (rs.set k ⟨r.f, N, 0, 2 * r.g⟩)) rfl (HS4.out.alloc _) _ 1 1 [(N : Int), r.t, 0, 2 * r.g] rfl rfl (by have := four_cells W4 N r.t 0 (2 * r.g) 35; simpa using this) (by omega) ?_; intro g2 d2 w2 hown2 hg2 hloc2 hsz2; have HN2 := Lib.hid (And.intro hown2 (And.intro hg2 (And.intro hloc2 hsz2))); clear hown2 hg2 hloc2 hsz2)
        have hV3g := HBS.out.size
        have hB2 : Below V3.heap.size V3 w2 := below_gr (HBS.out.alloc HBS.out.size (.cells #[.int .i64 (N : Int), .int .i64 r.t, .int .i64 0, .int .i64 (2 * r.g)] 35)) HN2.out.2.1 HG1.out (by simp; omega)
        have HRJ : Hid (Runs w2 (some ⟨g2, 0, none⟩) js) := Lib.hid (show Own w2 g2 35 4 (m + 1) d2 (flat js) from by rw [HJ.out.1]; exact HN2.out.1).runs
        have hg1' := HG1.out
        have hR4' : Rb < V3.heap.size := HRV.out
        have hBW := HN2.out.2.1
        have hal4 : Below W4.heap.size W4 (W4.alloc (.cells #[.int .i64 (N : Int), .int .i64 r.t, .int .i64 0, .int .i64 (2 * r.g)] 35)) := (Below.refl _ _).alloc (Nat.le_refl _) _
        have j1 := ((gcell hBW).1 Rb 0 (by simp; omega) (by omega)).trans (cell_below_keep hal4 k1)
        have j2 := ((gcell hBW).1 Rb 1 (by simp; omega) (by omega)).trans (cell_below_keep hal4 k2)
        clear k1 k2 k4 hal4 hBW
        have HRJ0 := HRJ
        have HB4 := Lib.hid (HB3.out.trans ((hB2).mono HB3.out.size))
        have HR4 := Lib.hid (HR3.out.below (hB2))
        have Ca4 := Lib.hid (Ca3.out.below (hB2))
        have Cb4 := Lib.hid (Cb3.out.below (hB2))
        clear HB3 HR3 Ca3 Cb3 hB2 HN2 HS4 HBS
        go_upto_region 15 with ((go_at_call 20; (with_reducible refine ((c3 _ ?_).out).mono ?_); (focus ((exact HR4.out); done)); rintro e wi ⟨rfl, hb_wi⟩; have hs_wi := hb_wi.size; (try simp at hs_wi)))
        obtain ⟨V5, Xc, hV, hX, hC, hBd, hXl⟩ := new_cell hb_wi u v 27
        rw [← hV, ← hX]
        have HB5 := Lib.hid (HB4.out.trans (hBd.mono HB4.out.size))
        have HR5 := Lib.hid (HR4.out.below hBd)
        have Ca5 := Lib.hid (Ca4.out.below hBd)
        have Cb5 := Lib.hid (Cb4.out.below hBd)
        have Cc5 := Lib.hid hC
        have hlc := hC.lt
        have j1 := cell_below_keep hBd j1
        have j2 := cell_below_keep hBd j2
        have HRJ := Lib.hid (HRJ.out.below hBd)
        clear hV hX hC hBd hXl hb_wi hs_wi HB4 HR4 Ca4 Cb4
        go_upto_region 16 with ((go_at_call 20; (with_reducible refine ((c4 _ _ _ ?_).out).mono ?_); (focus ((exact HRJ.out); done)); rintro e wi ⟨rfl, hb_wi⟩; have hs_wi := hb_wi.size; (try simp at hs_wi)))
        obtain ⟨V6, Xd, hV, hX, hC, hBd, hXl⟩ := new_cell hb_wi u v 27
        rw [← hV, ← hX]
        have HB6 := Lib.hid (HB5.out.trans (hBd.mono HB5.out.size))
        have HR6 := Lib.hid (HR5.out.below hBd)
        have Ca6 := Lib.hid (Ca5.out.below hBd)
        have Cb6 := Lib.hid (Cb5.out.below hBd)
        have Cc6 := Lib.hid (Cc5.out.below hBd)
        have Cd6 := Lib.hid hC
        have hld := hC.lt
        have j1 := cell_below_keep hBd j1
        have j2 := cell_below_keep hBd j2
        have HRJ := Lib.hid (HRJ.out.below hBd)
        clear hV hX hC hBd hXl hb_wi hs_wi HB5 HR5 Ca5 Cb5 Cc5
        obtain ⟨ap, aq, -, -⟩ := Ca6.out
        obtain ⟨cp, cq, -, -⟩ := Cc6.out
        obtain ⟨dp, dq, -, -⟩ := Cd6.out
        have HBe := HB6.out
        go_wp2_with fail
        exact bodyPost_ret (v := .bool true) (by simp [results, Try.results10, go_sem]) rfl ⟨rfl, HBe⟩
  · have c1 := fun w h => Lib.hid (iSpreadRun_no N u (some ⟨B, 0, none⟩) c m rs w h HM.out (by omega) hy)
    have c2 := fun w h => Lib.hid (sSpreadRun_no N u (some ⟨B, 0, none⟩) c m rs w h HM.out (by omega) hy)
    clear hy
    go_upto_region 5 with ((go_at_call 33; (with_reducible refine ((c1 _ ?_).out).mono ?_); (focus ((exact HR0.out); done)); rintro e wi ⟨rfl, hb_wi⟩; have hs_wi := hb_wi.size; (try simp at hs_wi)))
    obtain ⟨V1, Xa, hV, hX, hC, hBd, hXl⟩ := new_cell hb_wi 0 0 27
    rw [← hV, ← hX]
    have HB1 := Lib.hid (HB0.out.trans (hBd.mono HB0.out.size))
    have HR1 := Lib.hid (HR0.out.below hBd)
    have Ca1 := Lib.hid hC
    have hla := hC.lt
    clear hV hX hC hBd hXl hb_wi hs_wi HB0 HR0
    go_upto_region 6 with ((go_at_call 34; (with_reducible refine ((c2 _ ?_).out).mono ?_); (focus ((exact HR1.out); done)); rintro e wi ⟨rfl, hb_wi⟩; have hs_wi := hb_wi.size; (try simp at hs_wi)))
    obtain ⟨V2, Xb, hV, hX, hC, hBd, hXl⟩ := new_cell hb_wi 0 0 27
    rw [← hV, ← hX]
    have HB2 := Lib.hid (HB1.out.trans (hBd.mono HB1.out.size))
    have HR2 := Lib.hid (HR1.out.below hBd)
    have Ca2 := Lib.hid (Ca1.out.below hBd)
    have Cb2 := Lib.hid hC
    have hlb := hC.lt
    clear hV hX hC hBd hXl hb_wi hs_wi HB1 HR1 Ca1
    obtain ⟨ap, aq, -, -⟩ := Ca2.out
    obtain ⟨bp, bq, -, -⟩ := Cb2.out
    have HBe := HB2.out
    go_wp2_with fail
    exact bodyPost_ret (v := .bool true) (by simp [results, Try.results10, go_sem]) rfl ⟨rfl, HBe⟩

end Go.Proofs.Ytenllemaccacgaa.fnSpreadSeries
