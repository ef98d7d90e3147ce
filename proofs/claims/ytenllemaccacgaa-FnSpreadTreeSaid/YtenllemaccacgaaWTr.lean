/-
  For every code the law FnSpreadTree returns true: impl.SpreadOf answers as the reference model does; in a tree the spreads along the way add up. No condition: every list of bytes is taken.
-/
import Derived.Test.YtenllemaccacgaaRl
import Derived.Test.YtenllemaccacgaaRd
import Derived.Test.YtenllemaccacgaaZm
import Derived.Test.YtenllemaccacgaaZo
import Derived.Test.YtenllemaccacgaaCode
namespace Go.Proofs.Ytenllemaccacgaa.fnSpreadTree
open Go.ChangeShapes Go.WideShapes Go.ChangeAt Go.RowKit
set_option linter.unusedVariables false

/-- no run ahead of the k-th leads on -/
def NoG (N : Nat) (rs : List Rn) (i j k : Nat) : Prop := ∀ (k' u : Nat) (r : Rn), k' < k → rs[k']? = some r → u < N → Joins2 r i u → ¬ Same (rs.eraseIdx k') u j
theorem NoG.step {N i j k : Nat} {rs : List Rn} {r : Rn} (h : NoG N rs i j k) (hr : rs[k]? = some r) (hno : ∀ u : Nat, u < N → Joins2 r i u → ¬ Same (rs.eraseIdx k) u j) : NoG N rs i j (k + 1) := fun k' u r' hk hr' hu hJ => by
  rcases Nat.lt_or_ge k' k with hlt | hge
  · exact h k' u r' hlt hr' hu hJ
  · have e : k' = k := by omega
    subst e
    rw [hr] at hr'
    cases hr'
    exact hno u hu hJ
theorem NoG.fin {N i j : Nat} {rs : List Rn} (h : NoG N rs i j rs.length) (hw : nWhole (N : Int) rs = true) (hi : i < N) (hj : j < N) (hij : i ≠ j) : False := by
  obtain ⟨k, u, r, hr, hu, hJ, hs⟩ := tree_run hw hi hj hij
  exact h k u r (List.getElem?_eq_some_iff.1 hr).1 hr hu hJ hs
theorem qv_inv {g : Int} (h1 : 1 ≤ g) (h2 : g ≤ 9) : Quo.qv 1 g = true := by
  have : g = 1 ∨ g = 2 ∨ g = 3 ∨ g = 4 ∨ g = 5 ∨ g = 6 ∨ g = 7 ∨ g = 8 ∨ g = 9 := by omega
  rcases this with rfl | rfl | rfl | rfl | rfl | rfl | rfl | rfl | rfl <;> rfl
theorem tree_add {N i j k u : Nat} {r : Rn} {rs : List Rn} (hw : nWhole (N : Int) rs = true) (hl : rs.length + 1 ≤ N) (hi : i < N) (hj : j < N) (hu : u < N) (hr : rs[k]? = some r) (hJ : Joins2 r i u) (hs : Same (rs.eraseIdx k) u j) :
    Quo.gT (Quo.both (sprT N rs u j) (sprL N rs u j) 1 r.g) (sprT N rs u j * r.g + 1 * sprL N rs u j) (sprL N rs u j * r.g) = sprT N rs i j ∧ Quo.gL (Quo.both (sprT N rs u j) (sprL N rs u j) 1 r.g) (sprT N rs u j * r.g + 1 * sprL N rs u j) (sprL N rs u j * r.g) = sprL N rs i j ∧ Quo.gOk (Quo.both (sprT N rs u j) (sprL N rs u j) 1 r.g) (sprT N rs u j * r.g + 1 * sprL N rs u j) (sprL N rs u j * r.g) = true := by
  obtain ⟨X, hD, hS⟩ := tree_step hw hl hi hj hu hr hJ hs
  have hro := ok_runs (whole_nok hw) r (List.mem_of_getElem? hr)
  have hD0 := trN_pos1 hw
  have v1 := spr_val (i := u) (j := j) hw hu hj
  have v0 := spr_val (i := i) (j := j) hw hi hj
  have v2 : Quo.Val 1 r.g X (trN N rs) := ⟨qv_inv hro.2.1 hro.2.2.1, by omega, by rw [hD, Int.one_mul, Int.mul_comm]⟩
  rw [hS] at v0
  obtain ⟨a, b, ⟨h1, h2, h3⟩, v3⟩ := add_val v1 v2 v0.ok
  have e := v0.uniq v3
  exact ⟨h1.trans e.1.symm, h2.trans e.2.symm, h3⟩
theorem take_get' {α : Type} {l : List α} {j i : Nat} {x : α} (h : (l.take j)[i]? = some x) : l[i]? = some x := by
  rw [List.getElem?_take] at h
  split at h
  · exact h
  · cases h
theorem runs_take {w : World} {p : Option Addr} {rs : List Rn} (h : Runs w p rs) (j : Nat) : Runs w p (rs.take j) := by
  rcases h with rfl | ⟨B, o, e, hB, hc⟩
  · exact .inl (by simp)
  · exact .inr ⟨B, o, e, hB, fun i r hi => hc i r (take_get' hi)⟩
theorem runs_drop {w : World} {B o k : Nat} {rs : List Rn} (h : Runs w (some ⟨B, o, none⟩) rs) : Runs w (some ⟨B, o + k * 4, none⟩) (rs.drop k) := by
  rcases h with rfl | ⟨B', o', e, hB, hc⟩
  · exact .inl (by simp)
  · simp at e
    obtain ⟨rfl, rfl⟩ := e
    refine .inr ⟨_, _, rfl, hB, fun i r hi => ?_⟩
    rw [show o + k * 4 + i * 4 = o + (k + i) * 4 by omega]
    exact hc (k + i) r (by rw [← hi, List.getElem?_drop])
theorem wrap_idt {x : Int} (h : -9223372036854775808 ≤ x) (h2 : x ≤ 9223372036854775807) : IntKind.i64.wrap x = x := by
  rw [IntKind.wrap_i64]; omega
/-- an append, as it runs -/
theorem run_appt {P : Program} (w : World) (t ty e : TypeId) (z : Value) (sz bytes : Nat) (ht : P.underlying t = some (.slice e)) (hinfo : (P.info? e).map (fun i => (i.zero, i.size, i.bytes)) = some (some z, sz, bytes)) (hzs : z.cells.size = sz) (hsz : 0 < sz) (hby : bytes ≤ 32)
    (g n cap : Nat) (xs : List Int) (hown : Own w g e sz n cap xs) (ad : Addr) (m c : Nat) (news : List Int) (hl : news.length = m * sz) (hnews : ∀ (j : Nat) (z : Int), news[j]? = some z → w.cell? (ad.add j) = some (.int .i64 z)) (h63 : n + m ≤ 4194304) :
    ∃ g' cap' w', (Builtin.append_ #[t, t] ty #[.slice (some ⟨g, 0, none⟩) n cap, .slice (some ad) m c]).run P w = .ok (.slice (some ⟨g', 0, none⟩) (n + m) cap') w' ∧ Own w' g' e sz (n + m) cap' (xs ++ news) ∧ w.grownBy w' (some g) ∧ (g' = g ∨ g' = w.heap.size) := by
  obtain ⟨i, hi, hzz⟩ := Option.map_eq_some_iff.1 hinfo
  simp only [Prod.mk.injEq] at hzz
  obtain ⟨hz, hs', hb⟩ := hzz
  have h32 : (n + m) * bytes ≤ 4194304 * 32 := Nat.mul_le_mul h63 hby
  obtain ⟨v', w', hr, hown', hg, hnil, hloc⟩ := run_append_own_at (P := P) w 0 t ty e i z sz bytes ht hi hz hs' hb hzs hsz (.slice (some ⟨g, 0, none⟩) n cap) n (ivs xs) (hown.row (Nat.zero_le _)) ad m c (ivs news) (by simpa [ivs] using hl) (by
    intro j u hu
    rw [ivs, List.getElem?_map] at hu
    obtain ⟨z', hz', rfl⟩ := Option.map_eq_some_iff.1 hu
    exact hnews j z' hz') (by
    intro u hu
    rw [ivs, List.mem_map] at hu
    obtain ⟨z', _, rfl⟩ := hu
    rfl) (by unfold maxLen; omega) (by omega) (Nat.zero_le _)
  have hgw : w.grownBy w' (some g) := hg
  obtain ⟨hl', ⟨rfl, h0⟩ | ⟨g', cap', cur, rfl, hb', hgg, h1, h2, h3, h4⟩⟩ := hown'
  · have := hnil.1 rfl
    simp at this
  · exact ⟨g', cap', w', hr, ⟨by simpa [ivs] using hl', .inr ⟨g', cap', cur, rfl, Nat.le_refl _, hgg, h1, h2, h3, by rw [h4]; simp [ivs]⟩⟩, hgw, by simpa [Value.ownBlock] using hloc⟩
/-- a run in a block of its own -/
def Cell4 (W : World) (R : Nat) (f t s g : Int) : Prop := W.cell? ⟨R, 0, none⟩ = some (.int .i64 f) ∧ W.cell? ⟨R, 1, none⟩ = some (.int .i64 t) ∧ W.cell? ⟨R, 2, none⟩ = some (.int .i64 s) ∧ W.cell? ⟨R, 3, none⟩ = some (.int .i64 g)
theorem Cell4.below {W W' : World} {R : Nat} {f t s g : Int} (h : Cell4 W R f t s g) (hb : Below W.heap.size W W') : Cell4 W' R f t s g :=
  ⟨cell_below_keep hb h.1, cell_below_keep hb h.2.1, cell_below_keep hb h.2.2.1, cell_below_keep hb h.2.2.2⟩
theorem Cell4.new (W : World) (f t s g : Int) (T : TypeId) : Cell4 (W.alloc (.cells #[.int .i64 f, .int .i64 t, .int .i64 s, .int .i64 g] T)) W.heap.size f t s g := by
  refine ⟨?_, ?_, ?_, ?_⟩ <;> simp [go_sem]
theorem Cell4.lt {W : World} {R : Nat} {f t s g : Int} (h : Cell4 W R f t s g) : R < W.heap.size := World.block_lt_of_cell? W _ h.1
theorem whole_loopsN {N n : Nat} {rs : List Rn} (hw : nWhole (N : Int) rs = true) (hN : N = n + 1) : nLoops (N : Int) rs = (rs.length : Int) - n := by
  have h := nLoops_yes (whole_nok hw)
  have h1 : (roots (labs N rs) N : Int) = 1 := by exact_mod_cast (whole_iff.1 hw).2
  rw [h, h1]
  omega

set_option maxHeartbeats 8000000 in
set_option maxRecDepth 100000 in
theorem walk (len cap : Nat) (p : Option Addr) (w : World) (hl : len ≤ 1048576) (h : Hid (Code' w (.slice p len cap))) :
    Calls Try.prog 5 #[.slice p len cap] w fun e w' => e = .returned (.bool true) ∧ Below w.heap.size w w' := by
  have hl' : ¬ (1048576 : Int) < (len : Int) := by omega
  go_enter Try.func5, Try.ntmps5
  go_upto_region 4 with (go_at_call 19; (with_reducible refine (drawSpread_is _ _ h).mono ?_); rintro e wd ⟨N, m, rs, B, u, v, ⟨c, hmc, rfl⟩, hmm, ⟨⟨hN2, hN6⟩, hl8, hR, hb_wd⟩, ⟨hu1, hu2⟩, hv1, hv2⟩; have HB0 := Lib.hid hb_wd; have HR0 := Lib.hid hR; have HM := Lib.hid hmm; clear hR hb_wd)
  have hm8 : m ≤ 8 := by have := HM.out; omega
  clear h hl8 hmm
  by_cases hy : nWhole (N : Int) rs = true ∧ (0 ≤ u ∧ u < (N : Int)) ∧ (0 ≤ v ∧ v < (N : Int))
  · obtain ⟨i, rfl⟩ : ∃ i : Nat, u = (i : Int) := ⟨u.toNat, by omega⟩
    obtain ⟨j, rfl⟩ : ∃ j : Nat, v = (j : Int) := ⟨v.toNat, by omega⟩
    have hw := hy.1
    have hi : i < N := by omega
    have hj : j < N := by omega
    have hn := whole_nok hw
    have hD0 := trN_pos1 hw
    clear hy hu1 hu2 hv1 hv2
    have c1 := fun w h => Lib.hid (iSpreadOf_yes N i j (some ⟨B, 0, none⟩) c m rs w h hw HM.out hi hj)
    have c2 := fun w h => Lib.hid (sSpreadOf_yes N i j (some ⟨B, 0, none⟩) c m rs w h hw HM.out hi hj)
    obtain ⟨n, hNn⟩ : ∃ n, N = n + 1 := ⟨N - 1, by omega⟩
    have hloops := whole_loopsN hw hNn
    have c3 := fun w h => Lib.hid (show Calls Try.prog 24 #[.int .i64 N, .slice (some ⟨B, 0, none⟩) m c] w fun e w' => e = .returned (.int .i64 ((m : Int) - n)) ∧ Below w.heap.size w w' from by rw [← HM.out]; exact iLoops N (some ⟨B, 0, none⟩) c rs _ w h (by have := HM.out; omega) (by rw [HM.out]; rw [HM.out] at hloops; exact hloops))
    have hx0 : 0 ≤ sprT N rs i j := Quo.T_nn (spN_low hn hi hj).1 hD0
    obtain ⟨x, hx⟩ : ∃ x, sprT N rs i j = x := ⟨_, rfl⟩
    obtain ⟨y, hy⟩ : ∃ x, sprL N rs i j = x := ⟨_, rfl⟩
    rw [hx, hy] at c1 c2
    rw [hx] at hx0
    obtain ⟨ml, hml⟩ : ∃ ml : Int, (m : Int) - n = ml := ⟨_, rfl⟩
    rw [hml] at c3
    have HXY := Lib.hid (And.intro hx hy)
    have HW := Lib.hid (And.intro hw (And.intro hn hD0))
    have hmln : ml = 0 ∨ ml ≠ 0 := by omega
    have hmlN : (m : Int) - ml + 1 = N := by omega
    clear hw hn hD0 hloops hx hy hNn hmln hml
    go_upto_region 5 with ((go_at_call 20; (with_reducible refine ((c1 _ ?_).out).mono ?_); (focus ((exact HR0.out); done)); rintro e wi ⟨rfl, hb_wi⟩; have hs_wi := hb_wi.size; (try simp at hs_wi)))
    obtain ⟨V1, Xa, hV, hX, hC, hBd, hXl⟩ := new_cell hb_wi x y 27
    rw [← hV, ← hX]
    have HB1 := Lib.hid (HB0.out.trans (hBd.mono HB0.out.size))
    have HR1 := Lib.hid (HR0.out.below hBd)
    have Ca1 := Lib.hid hC
    have hla := hC.lt
    clear hV hX hC hBd hXl hb_wi hs_wi HB0 HR0
    go_upto_region 6 with ((go_at_call 21; (with_reducible refine ((c2 _ ?_).out).mono ?_); (focus ((exact HR1.out); done)); rintro e wi ⟨rfl, hb_wi⟩; have hs_wi := hb_wi.size; (try simp at hs_wi)))
    obtain ⟨V2, Xb, hV, hX, hC, hBd, hXl⟩ := new_cell hb_wi x y 27
    rw [← hV, ← hX]
    have HB2 := Lib.hid (HB1.out.trans (hBd.mono HB1.out.size))
    have HR2 := Lib.hid (HR1.out.below hBd)
    have Ca2 := Lib.hid (Ca1.out.below hBd)
    have Cb2 := Lib.hid hC
    have hlb := hC.lt
    clear hV hX hC hBd hXl hb_wi hs_wi HB1 HR1 Ca1
    obtain ⟨ap, aq, -, -⟩ := Ca2.out
    obtain ⟨bp, bq, -, -⟩ := Cb2.out
    by_cases hA : 0 < ml ∨ i = j
    · have hmlb : (0 < ml) = True ∨ (0 < ml) = False := by by_cases h : 0 < ml <;> simp [h]
      by_cases hml0 : 0 < ml
      · clear hA hmlb
        go_upto_region 9 with ((go_at_call 24; (with_reducible refine ((c3 _ ?_).out).mono ?_); (focus ((exact HR2.out); done)); rintro e wi ⟨rfl, hb_wi⟩; have hs_wi := hb_wi.size; (try simp at hs_wi)))
        obtain ⟨a1, a2, -, -⟩ := Ca2.out.below hb_wi
        have HBe := HB2.out.trans (hb_wi.mono HB2.out.size)
        clear ap aq bp bq
        go_wp2_with fail
        exact bodyPost_ret (v := .bool true) (by simp [results, Try.results5, go_sem]) rfl ⟨rfl, HBe⟩
      · have hij : i = j := by omega
        have hij' : (i : Int) = (j : Int) := by omega
        subst hij
        clear hA hmlb hij'
        go_upto_region 9 with ((go_at_call 24; (with_reducible refine ((c3 _ ?_).out).mono ?_); (focus ((exact HR2.out); done)); rintro e wi ⟨rfl, hb_wi⟩; have hs_wi := hb_wi.size; (try simp at hs_wi)))
        obtain ⟨a1, a2, -, -⟩ := Ca2.out.below hb_wi
        have HBe := HB2.out.trans (hb_wi.mono HB2.out.size)
        clear ap aq bp bq
        go_wp2_with fail
        exact bodyPost_ret (v := .bool true) (by simp [results, Try.results5, go_sem]) rfl ⟨rfl, HBe⟩
    · have hml0 : ¬ 0 < ml := by omega
      have hij : ¬ i = j := by omega
      have hij' : ¬ (i : Int) = (j : Int) := by omega
      have hijb : ((i : Int) == (j : Int)) = false := by rw [beq_eq_false_iff_ne]; exact hij'
      have hln : rs.length + 1 ≤ N := by have := HM.out; omega
      clear hA hx0
      go_upto_region 10 with ((go_at_call 24; (with_reducible refine ((c3 _ ?_).out).mono ?_); (focus ((exact HR2.out); done)); rintro e wi ⟨rfl, hb_wi⟩; have hs_wi := hb_wi.size; (try simp at hs_wi)))
      have HB3 := Lib.hid (HB2.out.trans (hb_wi.mono HB2.out.size))
      have HR3 := Lib.hid (HR2.out.below hb_wi)
      have Ca3 := Lib.hid (Ca2.out.below hb_wi)
      clear ap aq bp bq HB2 HR2 Ca2 Cb2 hb_wi hs_wi c1 c2 c3
      go_wp2_with fail
      go_loopw [11] (fun q wr => ∃ k : Nat, k ≤ m ∧ q = .int .i64 k ∧ NoG N rs i j k ∧ Below wi.heap.size wi wr) (fun q _ => m - (intOf q).toNat)
      case atStart => exact ⟨0, Nat.zero_le _, rfl, fun k' u r h => by omega, Below.refl _ _⟩
      case round =>
        rename World => wr
        obtain ⟨k, hk, rfl, hG, hb⟩ := hrel
        have hbs := hb.size
        by_cases hkm : k < m
        · have hkm' : (k : Int) < (m : Int) := by omega
          have hRk := (HR3.out.below hb).at (i := k) (by have := HM.out; omega)
          obtain ⟨B', o', r, e, hr, hBl, x1, x2, x3, x4⟩ := hRk
          cases e
          simp only [Nat.zero_add] at x1 x2 x3 x4
          obtain ⟨E1, E2, E3, E4, E5⟩ := run_ends HW.out.2.1 hr
          have hro := ok_runs HW.out.2.1 r (List.mem_of_getElem? hr)
          obtain ⟨f, hf⟩ : ∃ f, r.f = f := ⟨_, rfl⟩
          obtain ⟨t, ht⟩ : ∃ f, r.t = f := ⟨_, rfl⟩
          obtain ⟨sp, hsp⟩ : ∃ f, r.s = f := ⟨_, rfl⟩
          obtain ⟨g, hg⟩ : ∃ f, r.g = f := ⟨_, rfl⟩
          have hft : f ≠ t := by rw [← hf, ← ht]; exact hro.1
          have F1 : 0 ≤ f ∧ f < (N : Int) ∧ 0 ≤ t ∧ t < (N : Int) := by rw [← hf, ← ht]; refine ⟨?_, ?_, ?_, ?_⟩ <;> omega
          clear E1 E2 E3 E4 E5
          obtain ⟨E1, E2, E3, E4⟩ := F1
          rw [hf] at x1
          rw [ht] at x2
          rw [hsp] at x3
          rw [hg] at x4
          have hok3 := erase_ok HW.out.2.1 k
          have hel : (rs.eraseIdx k).length = m - 1 := by rw [List.length_eraseIdx, if_pos (by have := HM.out; omega), HM.out]
          have c5 := fun p c w h => Lib.hid (show Calls Try.prog 25 #[.int .i64 N, .slice p (m - 1) c] w fun e w' => ∃ (gl cl : Nat), e = .returned (.slice (some ⟨gl, 0, none⟩) N cl) ∧ Own w' gl 3 1 N cl (labs N (rs.eraseIdx k)) ∧ Below w.heap.size w w' from by
            have := iLinked_yes N p c (rs.eraseIdx k) w h hok3
            rw [hel] at this
            refine this.mono ?_
            rintro e w' ⟨v, rfl, gl, cl, rfl, hgl, ho, hb⟩
            rw [labs_len] at ho ⊢
            exact ⟨gl, cl, rfl, ho, hb⟩)
          have hlab : ∀ a b : Nat, a < N → b < N → (htAt (labs N (rs.eraseIdx k)) a = htAt (labs N (rs.eraseIdx k)) b ↔ Same (rs.eraseIdx k) a b) := fun a b ha hb => lab_same (N := N) (by omega) (by omega) (by omega) (by omega)
          have hget : ∀ a : Nat, a < N → (labs N (rs.eraseIdx k))[a]? = some (htAt (labs N (rs.eraseIdx k)) a) := fun a ha => by
            have := htAt_get (L := labs N (rs.eraseIdx k)) (x := (a : Int)) (by omega) (by rw [labs_len]; omega)
            simpa using this
          have c6 := fun (u : Nat) (hu : u < N) w h => Lib.hid (iSpreadOf_yes N u j (some ⟨B, 0, none⟩) c m rs w h HW.out.1 HM.out hu hj)
          have c7 := fun (u : Nat) (hu : u < N) (hJ : Joins2 r i u) (hs : Same (rs.eraseIdx k) u j) => tree_add HW.out.1 hln hi hj hu hr hJ hs
          rw [hg, HXY.out.1, HXY.out.2] at c7
          have hstep := fun hno => NoG.step hG hr hno
          have HK := Lib.hid (And.intro hr (And.intro hf ht))
          have hJu : ∀ u : Nat, Joins2 r i u ↔ (f = (i : Int) ∧ t = (u : Int)) ∨ (f = (u : Int) ∧ t = (i : Int)) := fun u => by unfold Joins2; rw [hf, ht]
          obtain ⟨es, hes⟩ : ∃ es, rs.eraseIdx k = es := ⟨_, rfl⟩
          rw [hes] at c5 hlab hget c7 hstep
          have HES := Lib.hid (And.intro hes hel)
          have HL := Lib.hid (And.intro hlab (And.intro hget (And.intro hstep (And.intro hJu c7))))
          clear hG hr hro hf ht hsp hg hok3 hel hlab hget hstep hJu c7 hes
          go_upto_region 14 with fail
          obtain ⟨V3, X3, hV, hX⟩ : ∃ (V : World) (X : Nat), V = wr.alloc (.cells #[.int .i64 f, .int .i64 t, .int .i64 sp, .int .i64 g] 35) ∧ X = wr.heap.size := ⟨_, _, rfl, rfl⟩
          rw [← hV, ← hX]
          have hC4 : Cell4 V3 X3 f t sp g := by rw [hV, hX]; exact Cell4.new _ _ _ _ _ _
          have hBd3 : Below wr.heap.size wr V3 := by rw [hV]; exact (Below.refl _ _).alloc (Nat.le_refl _) _
          have HB4 := Lib.hid (hb.trans (hBd3.mono hbs))
          have HR4 := Lib.hid ((HR3.out.below hb).below hBd3)
          have H4 := Lib.hid hC4
          have hB4 : B < V3.heap.size := by have := hBd3.size; omega
          have hwiV : wi.heap.size ≤ V3.heap.size := by have := hBd3.size; omega
          obtain ⟨q1, q2, -, -⟩ := hC4
          clear hV hX hBd3 hb hbs x1 x2 x3 x4 hBl
          have hkm1 : (k : Int) ≤ (m : Int) := by omega
          have hkc : (k : Int) ≤ (c : Int) := by omega
          have hkc' : k ≤ c := by omega
          have hk0 : (0 : Int) ≤ (k : Int) := by omega
          have hJ1 : ((k : Int) + 1) ≤ (m : Int) := by omega
          have hJ0 : (0 : Int) ≤ ((k : Int) + 1) := by omega
          have hJt : (((k : Int) + 1) : Int).toNat = (k + 1) := by omega
          have hJ2 : ((k : Int) + 1) ≤ (c : Int) := by omega
          have hc0 : ¬ c = 0 := by omega
          have hjI : (j : Int) < (N : Int) := by omega
          by_cases hfi : f = (i : Int)
          · obtain ⟨u, hu⟩ : ∃ u : Nat, t = (u : Int) := ⟨t.toNat, by omega⟩
            have huN : u < N := by omega
            have hJ : Joins2 r i u := (HL.out.2.2.2.1 u).2 (.inl ⟨hfi, hu⟩)
            have hJq : ∀ v : Nat, Joins2 r i v → v = u := fun v hv => by rcases (HL.out.2.2.2.1 v).1 hv with ⟨e1, e2⟩ | ⟨e1, e2⟩ <;> omega
            have HJq := Lib.hid (And.intro hJ hJq)
            clear hJ hJq
            subst hfi hu
            go_upto_region 19 with fail
            obtain ⟨o2, c2, ho2, hv8⟩ : ∃ o2 c2, Runs V3 (some ⟨B, o2, none⟩) (rs.drop (k + 1)) ∧ ((c = k + 1 ∧ o2 = 0 ∧ c2 = 0) ∨ (¬ c = k + 1 ∧ o2 = (k + 1) * 4 ∧ c2 = c - (k + 1))) := by
              by_cases e : c = k + 1
              · exact ⟨0, 0, .inl (List.drop_eq_nil_of_le (by have := HM.out; omega)), .inl ⟨e, rfl, rfl⟩⟩
              · exact ⟨_, _, by have := runs_drop (k := k + 1) HR4.out; rw [Nat.zero_add] at this; exact this, .inr ⟨e, rfl, rfl⟩⟩
            have HV := Lib.hid (And.intro ho2 hv8)
            clear ho2 hv8
            refine wp_region_any (by kernel_rfl) ?_
            change wpAny _ _ _ _ _ _ _ (World.drew _)
            refine wpAny_take (i := 1) (v := .slice (some ⟨B, 0, none⟩) m c) rfl (by kernel_rfl) (by kernel_rfl) (by kernel_rfl) (fun _ _ _ h => h) (Or.inl ⟨by rfl, ?_⟩) ?_
            focus ((intro w; go_simp); (try exact wrap_idt (by omega) (by omega)); done)
            refine wpAny_take (i := 2) (v := .int .i64 k) rfl (by kernel_rfl) (by kernel_rfl) (by kernel_rfl) (fun _ _ _ h => h) (Or.inl ⟨by rfl, ?_⟩) ?_
            focus ((intro w; go_simp); (try exact wrap_idt (by omega) (by omega)); done)
            refine wpAny_take (i := 3) (v := .slice (some ⟨B, 0, none⟩) k c) rfl (by kernel_rfl) (by kernel_rfl) (by kernel_rfl) (fun _ _ _ h => h) (Or.inl ⟨by rfl, ?_⟩) ?_
            focus ((intro w; go_simp); (try exact wrap_idt (by omega) (by omega)); done)
            refine wpAny_take (i := 5) (v := .slice (some ⟨B, 0, none⟩) m c) rfl (by kernel_rfl) (by kernel_rfl) (by kernel_rfl) (fun _ _ _ h => h) (Or.inl ⟨by rfl, ?_⟩) ?_
            focus ((intro w; go_simp); (try exact wrap_idt (by omega) (by omega)); done)
            refine wpAny_take (i := 6) (v := .int .i64 k) rfl (by kernel_rfl) (by kernel_rfl) (by kernel_rfl) (fun _ _ _ h => h) (Or.inl ⟨by rfl, ?_⟩) ?_
            focus ((intro w; go_simp); (try exact wrap_idt (by omega) (by omega)); done)
            refine wpAny_take (i := 7) (v := .int .i64 ((k : Int) + 1)) rfl (by kernel_rfl) (by kernel_rfl) (by kernel_rfl) (fun _ _ _ h => h) (Or.inl ⟨by rfl, ?_⟩) ?_
            focus ((intro w; go_simp); (try exact wrap_idt (by omega) (by omega)); done)
            refine wpAny_take (i := 8) (v := .slice (some ⟨B, o2, none⟩) (m - (k + 1)) c2) rfl (by kernel_rfl) (by kernel_rfl) (by kernel_rfl) (fun _ _ _ h => h) (Or.inl ⟨by rfl, ?_⟩) ?_
            focus
              obtain ⟨-, ⟨e1, e2, e3⟩ | ⟨e1, e2, e3⟩⟩ := HV.out
              · subst e1 e2 e3
                have e4 : m = k + 1 := by omega
                subst e4
                intro w; go_simp; done
              · have hc1 : ¬ c ≤ (k + 1) := by omega
                have hc2 : ¬ (c : Int) = ((k : Int) + 1) := by omega
                have hc3 : ((k : Int) + 1) < (c : Int) := by omega
                have hc4 : ¬ c - (k + 1) = 0 := by omega
                have hc5 : (k + 1) < c := by omega
                subst e2 e3
                intro w; go_simp; done
            refine wpAny_ready (rs := [0]) (by kernel_rfl) (by simp) ?_
            refine AllReady.cons rfl (fun K' hK => ?_) AllReady.nil
            go_simp
            refine hK _ _ ?_
            clear hK K'
            obtain ⟨gy, cy, w2, hrun, ho2, hg2, hl2⟩ := run_appt (P := Try.prog) (V3.drew.alloc (.cells #[] 35)) 23 23 35 _ 4 32 Try.underlying23 info_run rfl (by decide) (by decide) V3.drew.heap.size 0 0 [] (Own.empty _ _ _) ⟨B, 0, none⟩ k c (flat (rs.take k)) (by rw [flat_len, List.length_take, HM.out]; congr 1; omega) (runs_cells (runs_take ((show Runs V3.drew (some ⟨B, 0, none⟩) rs from HR4.out).alloc _) k)) (by omega)
            refine wpAny_all (rs := [4]) (by kernel_rfl) (by simp) (fun i hi => ?_)
            obtain rfl : i = 4 := by simpa using hi
            refine wpOp_append rfl rfl _ _ 23 rfl rfl rfl hrun ?_
            have hP2 : ¬ B = V3.drew.heap.size := by have : V3.drew.heap.size = V3.heap.size := rfl; omega
            have hRt : Runs w2 (some ⟨B, o2, none⟩) (rs.drop (k + 1)) := ((show Runs V3.drew (some ⟨B, o2, none⟩) (rs.drop (k + 1)) from HV.out.1).alloc (.cells #[] 35)).grown hg2 (fun o e => by (simp at e) <;> exact hP2 e.1)
            obtain ⟨gz, cz, w3, hrun3, ho3, hg3, hl3⟩ := run_appt (P := Try.prog) w2 23 23 35 _ 4 32 Try.underlying23 info_run rfl (by decide) (by decide) gy (0 + k) cy ([] ++ flat (rs.take k)) ho2 ⟨B, o2, none⟩ (m - (k + 1)) c2 (flat (rs.drop (k + 1))) (by rw [flat_len, List.length_drop, HM.out]) (runs_cells hRt) (by omega)
            have hKk : 0 + k + (m - (k + 1)) = m - 1 := by omega
            rw [hKk] at hrun3 ho3
            refine wpAny_all (rs := [9]) (by kernel_rfl) (by simp) (fun i hi => ?_)
            obtain rfl : i = 9 := by simpa using hi
            refine wpOp_append rfl rfl _ _ 23 rfl rfl rfl hrun3 ?_
            refine wpAny_take (i := 10) (v := .slice (some ⟨gz, 0, none⟩) (m - 1) cz) rfl (by kernel_rfl) (by kernel_rfl) (by kernel_rfl) (fun _ _ _ h => h) (Or.inl ⟨by rfl, ?_⟩) ?_
            focus ((intro w; go_simp); done)
            refine wpAny_done (by kernel_rfl) ?_ _
            have hsd : V3.drew.heap.size = V3.heap.size := rfl
            have hz2 := hg2.size
            have hz3 := hg3.size
            (try simp at hz2)
            have hgy : V3.heap.size ≤ gy := by rcases hl2 with e | e; (omega); (simp at e; omega)
            have hgz : V3.heap.size ≤ gz := by rcases hl3 with e | e; (omega); (omega)
            have hb1 : Below V3.heap.size V3 (V3.drew.alloc (.cells #[] 35)) := (show Below V3.heap.size V3 V3.drew from ⟨rfl, rfl, rfl, Nat.le_refl _, fun _ _ => rfl⟩).alloc (by omega) _
            have hb2 : Below V3.heap.size V3 w2 := below_gr hb1 hg2 (by omega) (by simp)
            have hb3 : Below V3.heap.size V3 w3 := below_gr hb2 hg3 (by omega) (by omega)
            have hs3 := hb3.size
            have hs3 := hb3.size
            have hXL : ([] ++ flat (rs.take k) ++ flat (rs.drop (k + 1)) : List Int) = flat es := by rw [← HES.out.1, List.eraseIdx_eq_take_drop_succ, flat_append]; simp
            rw [hXL] at ho3
            have HR5 := Lib.hid (HR4.out.below hb3)
            have H5 := Lib.hid (H4.out.below hb3)
            have HB5 := Lib.hid (HB4.out.trans (hb3.mono hwiV))
            have HO5 := Lib.hid ho3.runs
            have hwi3 : wi.heap.size ≤ w3.heap.size := by omega
            clear hrun hrun3 ho2 hg2 hl2 ho3 hg3 hl3 hb1 hb2 hb3 hRt hXL hz2 hz3 hs3 HV HR4 H4 HB4 hB4 hwiV hsd hgy hgz hP2 hKk
            go_upto_region 21 with (go_at_call 25; (with_reducible refine ((c5 _ _ _ ?_).out).mono ?_); (focus (exact HO5.out; done)); rintro e wl ⟨gl, cl, rfl, hol, hb_wl⟩; have hs_wl := hb_wl.size; have HO6 := Lib.hid hol; clear hol)
            have HR6 := Lib.hid (HR5.out.below hb_wl)
            have H6 := Lib.hid (H5.out.below hb_wl)
            have HB6 := Lib.hid (HB5.out.trans (hb_wl.mono hwi3))
            have hwil : wi.heap.size ≤ wl.heap.size := by omega
            clear HR5 H5 HB5 HO5 hb_wl hs_wl hwi3 c5
            obtain ⟨ea, hea⟩ : ∃ e, htAt (labs N es) u = e := ⟨_, rfl⟩
            obtain ⟨eb, heb⟩ : ∃ e, htAt (labs N es) j = e := ⟨_, rfl⟩
            have l1 := HO6.out.cells (HL.out.2.1 u huN)
            have l2 := HO6.out.cells (HL.out.2.1 j hj)
            have l3 := HO6.out.lt
            have hsm := HL.out.1 u j huN hj
            rw [hea] at l1 hsm
            rw [heb] at l2 hsm
            have huI : (u : Int) < (N : Int) := by omega
            have hu0 : decide ((u : Int) < 0) = false := by simp
            have hu1 : ¬ (u : Int) < 0 := by omega
            clear hea heb
            by_cases hee : ea = eb
            · have hSm := hsm.1 hee
              have hq := HL.out.2.2.2.2 u huN HJq.out.1 hSm
              have c8 := c6 u huN
              subst hee
              obtain ⟨xa, hxa⟩ : ∃ x, sprT N rs u j = x := ⟨_, rfl⟩
              obtain ⟨xb, hxb⟩ : ∃ x, sprL N rs u j = x := ⟨_, rfl⟩
              rw [hxa, hxb] at c8 hq
              have c9 := fun w => Lib.hid (by have := iAdd_any xa xb 1 g w; rw [hq.1, hq.2.1, hq.2.2] at this; exact this)
              clear hsm hSm hq hxa hxb HJq
              go_quiet (fail)
              all_goals
                clear l1 l2 l3
                go_upto_region 23 with ((go_at_call 20; (with_reducible refine ((c8 _ ?_).out).mono ?_); (focus ((exact HR6.out); done)); rintro e ws ⟨rfl, hb_ws⟩; have hs_ws := hb_ws.size; (try simp at hs_ws)))
                obtain ⟨V7, X7, hV, hX, hC, hBd, hXl⟩ := new_cell (P := wl) (show Below wl.heap.size wl ws from (by repeat (first | assumption | exact Below.refl _ _ | (refine below_chain ?_ (by assumption) (by first | omega | (simp <;> omega) | simp)) | (refine Below.alloc ?_ (by first | omega | (simp <;> omega) | simp) _) | (apply below_drewN) | (apply below_drew) | (refine Below.setCell ?_ (by first | omega | (simp <;> omega) | simp) _)))) xa xb 27
                rw [← hV, ← hX]
                have HB7 := Lib.hid (HB6.out.trans (hBd.mono hwil))
                have hs7 := hBd.size
                obtain ⟨s1, s2, -, -⟩ := hC
                obtain ⟨-, -, -, s4⟩ := H6.out.below hBd
                clear hV hX hBd hXl hb_ws hs_ws
                go_upto_region 24 with (go_at_call 22; (with_reducible refine ((c9 _).out).mono ?_); rintro e wt ⟨rfl, hb_wt⟩; have hs_wt := hb_wt.size)
                obtain ⟨V8, X8, hV, hX, hC, hBd, hXl⟩ := new_cell hb_wt x y 27
                rw [← hV, ← hX]
                have HB8 := Lib.hid (HB7.out.trans (hBd.mono HB7.out.size))
                obtain ⟨s5, s6, -, -⟩ := hC
                obtain ⟨a1, a2, -, -⟩ := Ca3.out.below HB8.out
                clear hV hX hBd hXl hb_wt hs_wt s1 s2 s4
                have HBe := HB3.out.trans (HB8.out.mono HB3.out.size)
                go_wp2_with fail
                exact bodyPost_ret (v := .bool true) (by simp [results, Try.results5, go_sem]) rfl ⟨rfl, HBe⟩
            · have heb2 : (ea == eb) = false := by rw [beq_eq_false_iff_ne]; exact hee
              have hno := fun h => hee (hsm.2 h)
              have hG1 := HL.out.2.2.1 (fun v hv hJv => by rw [HJq.out.2 v hJv]; exact hno)
              have HG1 := Lib.hid hG1
              clear hG1 hno hsm HJq
              go_quiet (fail)
              all_goals
                go_wp2_with fail
                go_roundw
                case rel => exact ⟨k + 1, by omega, by go_num, HG1.out, (by repeat (first | assumption | exact Below.refl _ _ | (refine below_chain ?_ (by assumption) (by first | omega | (simp <;> omega) | simp)) | (refine Below.alloc ?_ (by first | omega | (simp <;> omega) | simp) _) | (apply below_drewN) | (apply below_drew) | (refine Below.setCell ?_ (by first | omega | (simp <;> omega) | simp) _)))⟩
                case measure => simp [intOf]; omega
          · have hfb : (f == (i : Int)) = false := by rw [beq_eq_false_iff_ne]; exact hfi
            by_cases hti : t = (i : Int)
            · obtain ⟨u, hu⟩ : ∃ u : Nat, f = (u : Int) := ⟨f.toNat, by omega⟩
              have huN : u < N := by omega
              have hJ : Joins2 r i u := (HL.out.2.2.2.1 u).2 (.inr ⟨hu, hti⟩)
              have hJq : ∀ v : Nat, Joins2 r i v → v = u := fun v hv => by rcases (HL.out.2.2.2.1 v).1 hv with ⟨e1, e2⟩ | ⟨e1, e2⟩ <;> omega
              have HJq := Lib.hid (And.intro hJ hJq)
              clear hJ hJq
              subst hti hu
              go_upto_region 19 with fail
              obtain ⟨o2, c2, ho2, hv8⟩ : ∃ o2 c2, Runs V3 (some ⟨B, o2, none⟩) (rs.drop (k + 1)) ∧ ((c = k + 1 ∧ o2 = 0 ∧ c2 = 0) ∨ (¬ c = k + 1 ∧ o2 = (k + 1) * 4 ∧ c2 = c - (k + 1))) := by
                by_cases e : c = k + 1
                · exact ⟨0, 0, .inl (List.drop_eq_nil_of_le (by have := HM.out; omega)), .inl ⟨e, rfl, rfl⟩⟩
                · exact ⟨_, _, by have := runs_drop (k := k + 1) HR4.out; rw [Nat.zero_add] at this; exact this, .inr ⟨e, rfl, rfl⟩⟩
              have HV := Lib.hid (And.intro ho2 hv8)
              clear ho2 hv8
              refine wp_region_any (by kernel_rfl) ?_
              change wpAny _ _ _ _ _ _ _ (World.drew _)
              refine wpAny_take (i := 1) (v := .slice (some ⟨B, 0, none⟩) m c) rfl (by kernel_rfl) (by kernel_rfl) (by kernel_rfl) (fun _ _ _ h => h) (Or.inl ⟨by rfl, ?_⟩) ?_
              focus ((intro w; go_simp); (try exact wrap_idt (by omega) (by omega)); done)
              refine wpAny_take (i := 2) (v := .int .i64 k) rfl (by kernel_rfl) (by kernel_rfl) (by kernel_rfl) (fun _ _ _ h => h) (Or.inl ⟨by rfl, ?_⟩) ?_
              focus ((intro w; go_simp); (try exact wrap_idt (by omega) (by omega)); done)
              refine wpAny_take (i := 3) (v := .slice (some ⟨B, 0, none⟩) k c) rfl (by kernel_rfl) (by kernel_rfl) (by kernel_rfl) (fun _ _ _ h => h) (Or.inl ⟨by rfl, ?_⟩) ?_
              focus ((intro w; go_simp); (try exact wrap_idt (by omega) (by omega)); done)
              refine wpAny_take (i := 5) (v := .slice (some ⟨B, 0, none⟩) m c) rfl (by kernel_rfl) (by kernel_rfl) (by kernel_rfl) (fun _ _ _ h => h) (Or.inl ⟨by rfl, ?_⟩) ?_
              focus ((intro w; go_simp); (try exact wrap_idt (by omega) (by omega)); done)
              refine wpAny_take (i := 6) (v := .int .i64 k) rfl (by kernel_rfl) (by kernel_rfl) (by kernel_rfl) (fun _ _ _ h => h) (Or.inl ⟨by rfl, ?_⟩) ?_
              focus ((intro w; go_simp); (try exact wrap_idt (by omega) (by omega)); done)
              refine wpAny_take (i := 7) (v := .int .i64 ((k : Int) + 1)) rfl (by kernel_rfl) (by kernel_rfl) (by kernel_rfl) (fun _ _ _ h => h) (Or.inl ⟨by rfl, ?_⟩) ?_
              focus ((intro w; go_simp); (try exact wrap_idt (by omega) (by omega)); done)
              refine wpAny_take (i := 8) (v := .slice (some ⟨B, o2, none⟩) (m - (k + 1)) c2) rfl (by kernel_rfl) (by kernel_rfl) (by kernel_rfl) (fun _ _ _ h => h) (Or.inl ⟨by rfl, ?_⟩) ?_
              focus
                obtain ⟨-, ⟨e1, e2, e3⟩ | ⟨e1, e2, e3⟩⟩ := HV.out
                · subst e1 e2 e3
                  have e4 : m = k + 1 := by omega
                  subst e4
                  intro w; go_simp; done
                · have hc1 : ¬ c ≤ (k + 1) := by omega
                  have hc2 : ¬ (c : Int) = ((k : Int) + 1) := by omega
                  have hc3 : ((k : Int) + 1) < (c : Int) := by omega
                  have hc4 : ¬ c - (k + 1) = 0 := by omega
                  have hc5 : (k + 1) < c := by omega
                  subst e2 e3
                  intro w; go_simp; done
              refine wpAny_ready (rs := [0]) (by kernel_rfl) (by simp) ?_
              refine AllReady.cons rfl (fun K' hK => ?_) AllReady.nil
              go_simp
              refine hK _ _ ?_
              clear hK K'
              obtain ⟨gy, cy, w2, hrun, ho2, hg2, hl2⟩ := run_appt (P := Try.prog) (V3.drew.alloc (.cells #[] 35)) 23 23 35 _ 4 32 Try.underlying23 info_run rfl (by decide) (by decide) V3.drew.heap.size 0 0 [] (Own.empty _ _ _) ⟨B, 0, none⟩ k c (flat (rs.take k)) (by rw [flat_len, List.length_take, HM.out]; congr 1; omega) (runs_cells (runs_take ((show Runs V3.drew (some ⟨B, 0, none⟩) rs from HR4.out).alloc _) k)) (by omega)
              refine wpAny_all (rs := [4]) (by kernel_rfl) (by simp) (fun i hi => ?_)
              obtain rfl : i = 4 := by simpa using hi
              refine wpOp_append rfl rfl _ _ 23 rfl rfl rfl hrun ?_
              have hP2 : ¬ B = V3.drew.heap.size := by have : V3.drew.heap.size = V3.heap.size := rfl; omega
              have hRt : Runs w2 (some ⟨B, o2, none⟩) (rs.drop (k + 1)) := ((show Runs V3.drew (some ⟨B, o2, none⟩) (rs.drop (k + 1)) from HV.out.1).alloc (.cells #[] 35)).grown hg2 (fun o e => by (simp at e) <;> exact hP2 e.1)
              obtain ⟨gz, cz, w3, hrun3, ho3, hg3, hl3⟩ := run_appt (P := Try.prog) w2 23 23 35 _ 4 32 Try.underlying23 info_run rfl (by decide) (by decide) gy (0 + k) cy ([] ++ flat (rs.take k)) ho2 ⟨B, o2, none⟩ (m - (k + 1)) c2 (flat (rs.drop (k + 1))) (by rw [flat_len, List.length_drop, HM.out]) (runs_cells hRt) (by omega)
              have hKk : 0 + k + (m - (k + 1)) = m - 1 := by omega
              rw [hKk] at hrun3 ho3
              refine wpAny_all (rs := [9]) (by kernel_rfl) (by simp) (fun i hi => ?_)
              obtain rfl : i = 9 := by simpa using hi
              refine wpOp_append rfl rfl _ _ 23 rfl rfl rfl hrun3 ?_
              refine wpAny_take (i := 10) (v := .slice (some ⟨gz, 0, none⟩) (m - 1) cz) rfl (by kernel_rfl) (by kernel_rfl) (by kernel_rfl) (fun _ _ _ h => h) (Or.inl ⟨by rfl, ?_⟩) ?_
              focus ((intro w; go_simp); done)
              refine wpAny_done (by kernel_rfl) ?_ _
              have hsd : V3.drew.heap.size = V3.heap.size := rfl
              have hz2 := hg2.size
              have hz3 := hg3.size
              (try simp at hz2)
              have hgy : V3.heap.size ≤ gy := by rcases hl2 with e | e; (omega); (simp at e; omega)
              have hgz : V3.heap.size ≤ gz := by rcases hl3 with e | e; (omega); (omega)
              have hb1 : Below V3.heap.size V3 (V3.drew.alloc (.cells #[] 35)) := (show Below V3.heap.size V3 V3.drew from ⟨rfl, rfl, rfl, Nat.le_refl _, fun _ _ => rfl⟩).alloc (by omega) _
              have hb2 : Below V3.heap.size V3 w2 := below_gr hb1 hg2 (by omega) (by simp)
              have hb3 : Below V3.heap.size V3 w3 := below_gr hb2 hg3 (by omega) (by omega)
              have hs3 := hb3.size
              have hs3 := hb3.size
              have hXL : ([] ++ flat (rs.take k) ++ flat (rs.drop (k + 1)) : List Int) = flat es := by rw [← HES.out.1, List.eraseIdx_eq_take_drop_succ, flat_append]; simp
              rw [hXL] at ho3
              have HR5 := Lib.hid (HR4.out.below hb3)
              have H5 := Lib.hid (H4.out.below hb3)
              have HB5 := Lib.hid (HB4.out.trans (hb3.mono hwiV))
              have HO5 := Lib.hid ho3.runs
              have hwi3 : wi.heap.size ≤ w3.heap.size := by omega
              clear hrun hrun3 ho2 hg2 hl2 ho3 hg3 hl3 hb1 hb2 hb3 hRt hXL hz2 hz3 hs3 HV HR4 H4 HB4 hB4 hwiV hsd hgy hgz hP2 hKk
              go_upto_region 21 with (go_at_call 25; (with_reducible refine ((c5 _ _ _ ?_).out).mono ?_); (focus (exact HO5.out; done)); rintro e wl ⟨gl, cl, rfl, hol, hb_wl⟩; have hs_wl := hb_wl.size; have HO6 := Lib.hid hol; clear hol)
              have HR6 := Lib.hid (HR5.out.below hb_wl)
              have H6 := Lib.hid (H5.out.below hb_wl)
              have HB6 := Lib.hid (HB5.out.trans (hb_wl.mono hwi3))
              have hwil : wi.heap.size ≤ wl.heap.size := by omega
              clear HR5 H5 HB5 HO5 hb_wl hs_wl hwi3 c5
              obtain ⟨ea, hea⟩ : ∃ e, htAt (labs N es) u = e := ⟨_, rfl⟩
              obtain ⟨eb, heb⟩ : ∃ e, htAt (labs N es) j = e := ⟨_, rfl⟩
              have l1 := HO6.out.cells (HL.out.2.1 u huN)
              have l2 := HO6.out.cells (HL.out.2.1 j hj)
              have l3 := HO6.out.lt
              have hsm := HL.out.1 u j huN hj
              rw [hea] at l1 hsm
              rw [heb] at l2 hsm
              have huI : (u : Int) < (N : Int) := by omega
              have hu0 : decide ((u : Int) < 0) = false := by simp
              have hu1 : ¬ (u : Int) < 0 := by omega
              clear hea heb
              by_cases hee : ea = eb
              · have hSm := hsm.1 hee
                have hq := HL.out.2.2.2.2 u huN HJq.out.1 hSm
                have c8 := c6 u huN
                subst hee
                obtain ⟨xa, hxa⟩ : ∃ x, sprT N rs u j = x := ⟨_, rfl⟩
                obtain ⟨xb, hxb⟩ : ∃ x, sprL N rs u j = x := ⟨_, rfl⟩
                rw [hxa, hxb] at c8 hq
                have c9 := fun w => Lib.hid (by have := iAdd_any xa xb 1 g w; rw [hq.1, hq.2.1, hq.2.2] at this; exact this)
                clear hsm hSm hq hxa hxb HJq
                go_quiet (fail)
                all_goals
                  clear l1 l2 l3
                  go_upto_region 23 with ((go_at_call 20; (with_reducible refine ((c8 _ ?_).out).mono ?_); (focus ((exact HR6.out); done)); rintro e ws ⟨rfl, hb_ws⟩; have hs_ws := hb_ws.size; (try simp at hs_ws)))
                  obtain ⟨V7, X7, hV, hX, hC, hBd, hXl⟩ := new_cell (P := wl) (show Below wl.heap.size wl ws from (by repeat (first | assumption | exact Below.refl _ _ | (refine below_chain ?_ (by assumption) (by first | omega | (simp <;> omega) | simp)) | (refine Below.alloc ?_ (by first | omega | (simp <;> omega) | simp) _) | (apply below_drewN) | (apply below_drew) | (refine Below.setCell ?_ (by first | omega | (simp <;> omega) | simp) _)))) xa xb 27
                  rw [← hV, ← hX]
                  have HB7 := Lib.hid (HB6.out.trans (hBd.mono hwil))
                  have hs7 := hBd.size
                  obtain ⟨s1, s2, -, -⟩ := hC
                  obtain ⟨-, -, -, s4⟩ := H6.out.below hBd
                  clear hV hX hBd hXl hb_ws hs_ws
                  go_upto_region 24 with (go_at_call 22; (with_reducible refine ((c9 _).out).mono ?_); rintro e wt ⟨rfl, hb_wt⟩; have hs_wt := hb_wt.size)
                  obtain ⟨V8, X8, hV, hX, hC, hBd, hXl⟩ := new_cell hb_wt x y 27
                  rw [← hV, ← hX]
                  have HB8 := Lib.hid (HB7.out.trans (hBd.mono HB7.out.size))
                  obtain ⟨s5, s6, -, -⟩ := hC
                  obtain ⟨a1, a2, -, -⟩ := Ca3.out.below HB8.out
                  clear hV hX hBd hXl hb_wt hs_wt s1 s2 s4
                  have HBe := HB3.out.trans (HB8.out.mono HB3.out.size)
                  go_wp2_with fail
                  exact bodyPost_ret (v := .bool true) (by simp [results, Try.results5, go_sem]) rfl ⟨rfl, HBe⟩
              · have heb2 : (ea == eb) = false := by rw [beq_eq_false_iff_ne]; exact hee
                have hno := fun h => hee (hsm.2 h)
                have hG1 := HL.out.2.2.1 (fun v hv hJv => by rw [HJq.out.2 v hJv]; exact hno)
                have HG1 := Lib.hid hG1
                clear hG1 hno hsm HJq
                go_quiet (fail)
                all_goals
                  go_wp2_with fail
                  go_roundw
                  case rel => exact ⟨k + 1, by omega, by go_num, HG1.out, (by repeat (first | assumption | exact Below.refl _ _ | (refine below_chain ?_ (by assumption) (by first | omega | (simp <;> omega) | simp)) | (refine Below.alloc ?_ (by first | omega | (simp <;> omega) | simp) _) | (apply below_drewN) | (apply below_drew) | (refine Below.setCell ?_ (by first | omega | (simp <;> omega) | simp) _)))⟩
                  case measure => simp [intOf]; omega
            · have htb : (t == (i : Int)) = false := by rw [beq_eq_false_iff_ne]; exact hti
              have hJq : ∀ v : Nat, ¬ Joins2 r i v := fun v hv => by rcases (HL.out.2.2.2.1 v).1 hv with ⟨e1, e2⟩ | ⟨e1, e2⟩ <;> omega
              have HJq := Lib.hid hJq
              clear hJq
              go_upto_region 19 with fail
              obtain ⟨o2, c2, ho2, hv8⟩ : ∃ o2 c2, Runs V3 (some ⟨B, o2, none⟩) (rs.drop (k + 1)) ∧ ((c = k + 1 ∧ o2 = 0 ∧ c2 = 0) ∨ (¬ c = k + 1 ∧ o2 = (k + 1) * 4 ∧ c2 = c - (k + 1))) := by
                by_cases e : c = k + 1
                · exact ⟨0, 0, .inl (List.drop_eq_nil_of_le (by have := HM.out; omega)), .inl ⟨e, rfl, rfl⟩⟩
                · exact ⟨_, _, by have := runs_drop (k := k + 1) HR4.out; rw [Nat.zero_add] at this; exact this, .inr ⟨e, rfl, rfl⟩⟩
              have HV := Lib.hid (And.intro ho2 hv8)
              clear ho2 hv8
              refine wp_region_any (by kernel_rfl) ?_
              change wpAny _ _ _ _ _ _ _ (World.drew _)
              refine wpAny_take (i := 1) (v := .slice (some ⟨B, 0, none⟩) m c) rfl (by kernel_rfl) (by kernel_rfl) (by kernel_rfl) (fun _ _ _ h => h) (Or.inl ⟨by rfl, ?_⟩) ?_
              focus ((intro w; go_simp); (try exact wrap_idt (by omega) (by omega)); done)
              refine wpAny_take (i := 2) (v := .int .i64 k) rfl (by kernel_rfl) (by kernel_rfl) (by kernel_rfl) (fun _ _ _ h => h) (Or.inl ⟨by rfl, ?_⟩) ?_
              focus ((intro w; go_simp); (try exact wrap_idt (by omega) (by omega)); done)
              refine wpAny_take (i := 3) (v := .slice (some ⟨B, 0, none⟩) k c) rfl (by kernel_rfl) (by kernel_rfl) (by kernel_rfl) (fun _ _ _ h => h) (Or.inl ⟨by rfl, ?_⟩) ?_
              focus ((intro w; go_simp); (try exact wrap_idt (by omega) (by omega)); done)
              refine wpAny_take (i := 5) (v := .slice (some ⟨B, 0, none⟩) m c) rfl (by kernel_rfl) (by kernel_rfl) (by kernel_rfl) (fun _ _ _ h => h) (Or.inl ⟨by rfl, ?_⟩) ?_
              focus ((intro w; go_simp); (try exact wrap_idt (by omega) (by omega)); done)
              refine wpAny_take (i := 6) (v := .int .i64 k) rfl (by kernel_rfl) (by kernel_rfl) (by kernel_rfl) (fun _ _ _ h => h) (Or.inl ⟨by rfl, ?_⟩) ?_
              focus ((intro w; go_simp); (try exact wrap_idt (by omega) (by omega)); done)
              refine wpAny_take (i := 7) (v := .int .i64 ((k : Int) + 1)) rfl (by kernel_rfl) (by kernel_rfl) (by kernel_rfl) (fun _ _ _ h => h) (Or.inl ⟨by rfl, ?_⟩) ?_
              focus ((intro w; go_simp); (try exact wrap_idt (by omega) (by omega)); done)
              refine wpAny_take (i := 8) (v := .slice (some ⟨B, o2, none⟩) (m - (k + 1)) c2) rfl (by kernel_rfl) (by kernel_rfl) (by kernel_rfl) (fun _ _ _ h => h) (Or.inl ⟨by rfl, ?_⟩) ?_
              focus
                obtain ⟨-, ⟨e1, e2, e3⟩ | ⟨e1, e2, e3⟩⟩ := HV.out
                · subst e1 e2 e3
                  have e4 : m = k + 1 := by omega
                  subst e4
                  intro w; go_simp; done
                · have hc1 : ¬ c ≤ (k + 1) := by omega
                  have hc2 : ¬ (c : Int) = ((k : Int) + 1) := by omega
                  have hc3 : ((k : Int) + 1) < (c : Int) := by omega
                  have hc4 : ¬ c - (k + 1) = 0 := by omega
                  have hc5 : (k + 1) < c := by omega
                  subst e2 e3
                  intro w; go_simp; done
              refine wpAny_ready (rs := [0]) (by kernel_rfl) (by simp) ?_
              refine AllReady.cons rfl (fun K' hK => ?_) AllReady.nil
              go_simp
              refine hK _ _ ?_
              clear hK K'
              obtain ⟨gy, cy, w2, hrun, ho2, hg2, hl2⟩ := run_appt (P := Try.prog) (V3.drew.alloc (.cells #[] 35)) 23 23 35 _ 4 32 Try.underlying23 info_run rfl (by decide) (by decide) V3.drew.heap.size 0 0 [] (Own.empty _ _ _) ⟨B, 0, none⟩ k c (flat (rs.take k)) (by rw [flat_len, List.length_take, HM.out]; congr 1; omega) (runs_cells (runs_take ((show Runs V3.drew (some ⟨B, 0, none⟩) rs from HR4.out).alloc _) k)) (by omega)
              refine wpAny_all (rs := [4]) (by kernel_rfl) (by simp) (fun i hi => ?_)
              obtain rfl : i = 4 := by simpa using hi
              refine wpOp_append rfl rfl _ _ 23 rfl rfl rfl hrun ?_
              have hP2 : ¬ B = V3.drew.heap.size := by have : V3.drew.heap.size = V3.heap.size := rfl; omega
              have hRt : Runs w2 (some ⟨B, o2, none⟩) (rs.drop (k + 1)) := ((show Runs V3.drew (some ⟨B, o2, none⟩) (rs.drop (k + 1)) from HV.out.1).alloc (.cells #[] 35)).grown hg2 (fun o e => by (simp at e) <;> exact hP2 e.1)
              obtain ⟨gz, cz, w3, hrun3, ho3, hg3, hl3⟩ := run_appt (P := Try.prog) w2 23 23 35 _ 4 32 Try.underlying23 info_run rfl (by decide) (by decide) gy (0 + k) cy ([] ++ flat (rs.take k)) ho2 ⟨B, o2, none⟩ (m - (k + 1)) c2 (flat (rs.drop (k + 1))) (by rw [flat_len, List.length_drop, HM.out]) (runs_cells hRt) (by omega)
              have hKk : 0 + k + (m - (k + 1)) = m - 1 := by omega
              rw [hKk] at hrun3 ho3
              refine wpAny_all (rs := [9]) (by kernel_rfl) (by simp) (fun i hi => ?_)
              obtain rfl : i = 9 := by simpa using hi
              refine wpOp_append rfl rfl _ _ 23 rfl rfl rfl hrun3 ?_
              refine wpAny_take (i := 10) (v := .slice (some ⟨gz, 0, none⟩) (m - 1) cz) rfl (by kernel_rfl) (by kernel_rfl) (by kernel_rfl) (fun _ _ _ h => h) (Or.inl ⟨by rfl, ?_⟩) ?_
              focus ((intro w; go_simp); done)
              refine wpAny_done (by kernel_rfl) ?_ _
              have hsd : V3.drew.heap.size = V3.heap.size := rfl
              have hz2 := hg2.size
              have hz3 := hg3.size
              (try simp at hz2)
              have hgy : V3.heap.size ≤ gy := by rcases hl2 with e | e; (omega); (simp at e; omega)
              have hgz : V3.heap.size ≤ gz := by rcases hl3 with e | e; (omega); (omega)
              have hb1 : Below V3.heap.size V3 (V3.drew.alloc (.cells #[] 35)) := (show Below V3.heap.size V3 V3.drew from ⟨rfl, rfl, rfl, Nat.le_refl _, fun _ _ => rfl⟩).alloc (by omega) _
              have hb2 : Below V3.heap.size V3 w2 := below_gr hb1 hg2 (by omega) (by simp)
              have hb3 : Below V3.heap.size V3 w3 := below_gr hb2 hg3 (by omega) (by omega)
              have hs3 := hb3.size
              have hs3 := hb3.size
              have hXL : ([] ++ flat (rs.take k) ++ flat (rs.drop (k + 1)) : List Int) = flat es := by rw [← HES.out.1, List.eraseIdx_eq_take_drop_succ, flat_append]; simp
              rw [hXL] at ho3
              have HR5 := Lib.hid (HR4.out.below hb3)
              have H5 := Lib.hid (H4.out.below hb3)
              have HB5 := Lib.hid (HB4.out.trans (hb3.mono hwiV))
              have HO5 := Lib.hid ho3.runs
              have hwi3 : wi.heap.size ≤ w3.heap.size := by omega
              clear hrun hrun3 ho2 hg2 hl2 ho3 hg3 hl3 hb1 hb2 hb3 hRt hXL hz2 hz3 hs3 HV HR4 H4 HB4 hB4 hwiV hsd hgy hgz hP2 hKk
              go_upto_region 21 with (go_at_call 25; (with_reducible refine ((c5 _ _ _ ?_).out).mono ?_); (focus (exact HO5.out; done)); rintro e wl ⟨gl, cl, rfl, hol, hb_wl⟩; have hs_wl := hb_wl.size; have HO6 := Lib.hid hol; clear hol)
              have HR6 := Lib.hid (HR5.out.below hb_wl)
              have H6 := Lib.hid (H5.out.below hb_wl)
              have HB6 := Lib.hid (HB5.out.trans (hb_wl.mono hwi3))
              have hwil : wi.heap.size ≤ wl.heap.size := by omega
              clear HR5 H5 HB5 HO5 hb_wl hs_wl hwi3 c5
              have HG1 := Lib.hid (HL.out.2.2.1 (fun v hv hJv => absurd hJv (HJq.out v)))
              clear HJq
              go_quiet (fail)
              all_goals
                go_wp2_with fail
                go_roundw
                case rel => exact ⟨k + 1, by omega, by go_num, HG1.out, (by repeat (first | assumption | exact Below.refl _ _ | (refine below_chain ?_ (by assumption) (by first | omega | (simp <;> omega) | simp)) | (refine Below.alloc ?_ (by first | omega | (simp <;> omega) | simp) _) | (apply below_drewN) | (apply below_drew) | (refine Below.setCell ?_ (by first | omega | (simp <;> omega) | simp) _)))⟩
                case measure => simp [intOf]; omega
        · have e : m = k := by omega
          subst e
          exact absurd (by have := hG; rwa [← HM.out] at this) (fun h => NoG.fin h HW.out.1 hi hj hij)
  · have c1 := fun w h => Lib.hid (iSpreadOf_no N u v (some ⟨B, 0, none⟩) c m rs w h HM.out (by omega) hy)
    have c2 := fun w h => Lib.hid (sSpreadOf_no N u v (some ⟨B, 0, none⟩) c m rs w h HM.out (by omega) hy)
    clear hy
    go_upto_region 5 with ((go_at_call 20; (with_reducible refine ((c1 _ ?_).out).mono ?_); (focus ((exact HR0.out); done)); rintro e wi ⟨rfl, hb_wi⟩; have hs_wi := hb_wi.size; (try simp at hs_wi)))
    obtain ⟨V1, Xa, hV, hX, hC, hBd, hXl⟩ := new_cell hb_wi 0 0 27
    rw [← hV, ← hX]
    have HB1 := Lib.hid (HB0.out.trans (hBd.mono HB0.out.size))
    have HR1 := Lib.hid (HR0.out.below hBd)
    have Ca1 := Lib.hid hC
    have hla := hC.lt
    clear hV hX hC hBd hXl hb_wi hs_wi HB0 HR0
    go_upto_region 6 with ((go_at_call 21; (with_reducible refine ((c2 _ ?_).out).mono ?_); (focus ((exact HR1.out); done)); rintro e wi ⟨rfl, hb_wi⟩; have hs_wi := hb_wi.size; (try simp at hs_wi)))
    obtain ⟨V2, Xb, hV, hX, hC, hBd, hXl⟩ := new_cell hb_wi 0 0 27
    rw [← hV, ← hX]
    have HB2 := Lib.hid (HB1.out.trans (hBd.mono HB1.out.size))
    have HR2 := Lib.hid (HR1.out.below hBd)
    have Ca2 := Lib.hid (Ca1.out.below hBd)
    have Cb2 := Lib.hid hC
    have hlb := hC.lt
    clear hV hX hC hBd hXl hb_wi hs_wi HB1 HR1 Ca1
    obtain ⟨ap, aq, -, -⟩ := Ca2.out
    obtain ⟨bp, bq, -, -⟩ := Cb2.out
    have HBe := HB2.out
    go_wp2_with fail
    exact bodyPost_ret (v := .bool true) (by simp [results, Try.results5, go_sem]) rfl ⟨rfl, HBe⟩

end Go.Proofs.Ytenllemaccacgaa.fnSpreadTree
