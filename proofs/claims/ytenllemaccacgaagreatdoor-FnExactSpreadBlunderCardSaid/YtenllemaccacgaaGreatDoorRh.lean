/-
  The suspected run by the reference model and by the program: the same answer.
-/
import Derived.Test.YtenllemaccacgaaGreatDoorRq
namespace Go.Proofs.YtenllemaccacgaaGreatDoor
open Go.RowKit
set_option linter.unusedVariables false

theorem sBlunder_no (n : Int) (p : Option Addr) (c m : Nat) (rs : List Rn) (w : World) (h : Runs w p rs) (hm : rs.length = m) (hl : m ≤ 4000000000000000000) (hw : nWhole n rs = false) :
    Calls Tryz.prog 16 #[.int .i64 n, .slice p m c] w fun e w' => e = .returned (.tuple #[.int .i64 0, .bool false]) ∧ Below w.heap.size w w' := by
  have c1 := fun w h => Lib.hid (sWhole_m (p := p) (c := c) w hm h hl hw)
  have H := Lib.hid h
  clear h hm hl hw
  go_enter Tryz.func16, Tryz.ntmps16
  go_wp2_with ((go_at_call 34; (with_reducible refine ((c1 _ ?_).out).mono ?_); (focus ((exact H.out); done)); rintro e wa ⟨rfl, hb_wa⟩; have hs_wa := hb_wa.size; (try simp at hs_wa)))
  refine bodyPost_ret (v := .tuple #[.int .i64 0, .bool false]) (by simp [results, Tryz.results16, go_sem]) rfl ⟨rfl, hb_wa⟩
set_option maxHeartbeats 4000000 in
set_option maxRecDepth 100000 in
theorem iBlunder_no (n : Int) (p : Option Addr) (c m : Nat) (rs : List Rn) (w : World) (h : Runs w p rs) (hm : rs.length = m) (hl : m ≤ 4000000000000000000) (hw : nWhole n rs = false) :
    Calls Tryz.prog 15 #[.int .i64 n, .slice p m c] w fun e w' => e = .returned (.tuple #[.int .i64 0, .bool false]) ∧ Below w.heap.size w w' := by
  have c1 := fun w h => Lib.hid (iSpreads_no n p c m rs w h hm hl hw)
  have c3 := fun w => Lib.hid (show Calls Tryz.prog 33 #[.slice none 0 0] w fun e w' => e = .returned (.tuple #[.int .i64 0, .bool false]) ∧ Below w.heap.size w w' from iGreatest 0 0 none [] w (.inl rfl) rfl (by omega) (fun x hx => by cases hx))
  have H := Lib.hid h
  clear h hm hl hw
  go_enter Tryz.func15, Tryz.ntmps15
  go_upto_region 2 with ((go_at_call 23; (with_reducible refine ((c1 _ ?_).out).mono ?_); (focus ((exact H.out); done)); rintro e wa ⟨rfl, hb_wa⟩; have hs_wa := hb_wa.size; (try simp at hs_wa)))
  have h5 := Cell5.new wa (.int .i64 0) (.slice none 0 0) (.int .i64 0) (.slice none 0 0) (.int .i64 0) 55
  have hal : Below wa.heap.size wa (wa.alloc (.cells #[.int .i64 0, .slice none 0 0, .int .i64 0, .slice none 0 0, .int .i64 0] 55)) := (Below.refl _ _).alloc (Nat.le_refl _) _
  obtain ⟨V, hV⟩ : ∃ V, V = wa.alloc (.cells #[.int .i64 0, .slice none 0 0, .int .i64 0, .slice none 0 0, .int .i64 0] 55) := ⟨_, rfl⟩
  obtain ⟨S, hS⟩ : ∃ S, S = wa.heap.size := ⟨_, rfl⟩
  rw [← hV] at h5 hal ⊢
  rw [← hS] at h5 ⊢
  have HV := Lib.hid (hb_wa.trans (hal.mono hs_wa))
  obtain ⟨⟨m0, m1, m2, m3, m4⟩, -⟩ := h5
  clear hV hS hal hb_wa hs_wa c1
  go_wp2_with fail
  clear m0 m1 m2 m3 m4
  go_loopw [7, 8, 25] (fun A L i wr => A = .slice none 0 0 ∧ L = .slice none 0 0 ∧ i = .int .i64 0 ∧ Below w.heap.size w wr) (fun _ _ _ _ => 0)
  case atStart => exact ⟨rfl, rfl, rfl, HV.out⟩
  case round =>
    clear HV
    rename World => wr
    obtain ⟨rfl, rfl, rfl, hb⟩ := hrel
    have HB := Lib.hid hb
    have hbs := hb.size
    clear hb
    go_wp2_with ((go_at_call 33; (with_reducible refine ((c3 _).out).mono ?_); rintro e wi ⟨rfl, hb_wi⟩; have hs_wi := hb_wi.size; (try simp at hs_wi)))
    refine bodyPost_ret (v := .tuple #[.int .i64 0, .bool false]) (by simp [results, Tryz.results15, go_sem]) rfl ⟨rfl, HB.out.trans (hb_wi.mono hbs)⟩
theorem rO_qv {a b : Int} (h : Quo.rOk a b = true) : Quo.qv (Quo.rT a b) (Quo.rL a b) = true := by
  have e1 : Quo.rT a b = Quo.T a b := by unfold Quo.rT; rw [h]; rfl
  have e2 : Quo.rL a b = Quo.L a b := by unfold Quo.rL; rw [h]; rfl
  rw [e1, e2]
  unfold Quo.rOk at h
  simp only [Bool.and_eq_true] at h
  exact h.2
theorem rsB_qv {n : Nat} {rs : List Rn} {r : Rn} (h : rsB n rs r = true) : Quo.qv (rsT n rs r) (rsL n rs r) = true := by
  obtain ⟨hq1, hq2⟩ : Quo.qO (hT n rs r.t.toNat - hT n rs r.f.toNat) (dT n rs) = true ∧ Quo.qO (rest n rs r) (dT n rs) = true := by
    unfold rsB at h; simpa using h
  have hT1 : rsT n rs r = Quo.T (rest n rs r) (dT n rs) := by unfold rsT vT; rw [if_pos hq1, if_pos hq2]
  have hL1 : rsL n rs r = Quo.L (rest n rs r) (dT n rs) := by unfold rsL vL; rw [if_pos hq1, if_pos hq2]
  rw [hT1, hL1]
  exact hq2
/-- the runs by their numbers -/
def rnk (rs : List Rn) (k : Nat) : Rn := (rs[k]?).getD ⟨0, 0, 0, 0⟩
theorem rnk_at {rs : List Rn} {k : Nat} (h : k < rs.length) : rs[k]? = some (rnk rs k) := by
  unfold rnk; rw [List.getElem?_eq_getElem h]; rfl
noncomputable def bX (N : Nat) (rs : List Rn) (k : Nat) : Int := sfT N rs (rnk rs k)
noncomputable def bY (N : Nat) (rs : List Rn) (k : Nat) : Int := sfL N rs (rnk rs k)
noncomputable def bA (N n : Nat) (rs : List Rn) (k : Nat) : Int := if adjOk (N : Int) rs = true then rsT n rs (rnk rs k) else 0
noncomputable def bB (N n : Nat) (rs : List Rn) (k : Nat) : Int := if adjOk (N : Int) rs = true then rsL n rs (rnk rs k) else 0
noncomputable def bF (N n : Nat) (rs : List Rn) (k : Nat) : Bool := adjOk (N : Int) rs && rsB n rs (rnk rs k)
noncomputable def bQ (N n : Nat) (rs : List Rn) (k : Nat) : Int × Int := (Quo.rT ((bA N n rs k).natAbs * bY N rs k) (bB N n rs k * bX N rs k), Quo.rL ((bA N n rs k).natAbs * bY N rs k) (bB N n rs k * bX N rs k))
noncomputable def bOk (N n : Nat) (rs : List Rn) (k : Nat) : Bool := bF N n rs k && (decide (bX N rs k = 0) || Quo.rOk ((bA N n rs k).natAbs * bY N rs k) (bB N n rs k * bX N rs k))
section
variable {N n k : Nat} {rs : List Rn}
theorem bF_qv (h : bF N n rs k = true) : Quo.qv (bA N n rs k) (bB N n rs k) = true := by
  unfold bF at h
  simp only [Bool.and_eq_true] at h
  unfold bA bB
  rw [if_pos h.1, if_pos h.1]
  exact rsB_qv h.2
theorem bX_qv (hw : nWhole (N : Int) rs = true) (hk : k < rs.length) : Quo.qv (bX N rs k) (bY N rs k) = true ∧ 0 ≤ bX N rs k := by
  have hr := rnk_at hk
  have hgs := gsp_le (whole_nok hw) hr
  exact ⟨(sf_val hw hr).1, Quo.T_nn (by omega) (trN_pos1 hw)⟩
theorem bOk_flat (h : bF N n rs k = true) (h0 : bX N rs k = 0) : bOk N n rs k = true := by unfold bOk; rw [h]; simp [h0]
theorem bOk_no (h : bF N n rs k = false) : bOk N n rs k = false := by unfold bOk; rw [h]; rfl
theorem bOk_yes (h : bF N n rs k = true) (h0 : bX N rs k ≠ 0) : bOk N n rs k = Quo.rOk ((bA N n rs k).natAbs * bY N rs k) (bB N n rs k * bX N rs k) := by unfold bOk; rw [h]; simp [h0]
theorem bQ_qv (h : bOk N n rs k = true) (h0 : bX N rs k ≠ 0) : Quo.qv (bQ N n rs k).1 (bQ N n rs k).2 = true := by
  cases hf : bF N n rs k
  · rw [bOk_no hf] at h; cases h
  · rw [bOk_yes hf h0] at h; exact rO_qv h
theorem iBlunder_yes {p : Option Addr} {c m : Nat} {w : World} (h : RunsE w p rs) (hw : nWhole (N : Int) rs = true) (hm : rs.length = m) (hN : N = n + 1) :
    Calls Tryz.prog 15 #[.int .i64 N, .slice p m c] w fun e w' => e = .returned (.tuple #[.int .i64 (ansQ (bX N rs) (bQ N n rs) (bOk N n rs) m).1, .bool (ansQ (bX N rs) (bQ N n rs) (bOk N n rs) m).2]) ∧ Below w.heap.size w w' := by
  have hl : m ≤ 12 := by rw [← hm]; exact (nOk_true (whole_nok hw)).2.2.1
  refine iBlunder_of N (N * N) p c m rs (bA N n rs) (bB N n rs) (bX N rs) (bY N rs) (bF N n rs) (bOk N n rs) (bQ N n rs) w h hw hm rfl (fun k hk w h => ?_) (fun k hk g w ho h => ?_) (fun k hk hf h0 w => ?_) (fun k hk h h0 => bQ_qv h h0) (fun k hk hf => bOk_no hf) (fun k hk hf h0 => bOk_flat hf h0)
  · have hr := rnk_at (rs := rs) (k := k) (by omega)
    by_cases ha : adjOk (N : Int) rs = true
    · have := iRest_yes N n k p c m rs _ w h ha hm hN hr
      unfold bA bB bF
      rw [if_pos ha, if_pos ha, ha]
      exact Lib.hid this
    · have := iRest_no N k p c m rs w h hm (by omega) (fun hh => ha hh.1)
      unfold bA bB bF
      rw [if_neg ha, if_neg ha, show adjOk (N : Int) rs = false by simpa using ha]
      exact Lib.hid this
  · exact Lib.hid (iFreeM_yes N (N * N) k g p c m rs _ w ho h hw rfl hm (rnk_at (by omega)))
  · have hx := bX_qv hw (k := k) (by omega)
    have := iRestPer (bA N n rs k) (bB N n rs k) (bX N rs k) (bY N rs k) w (bF_qv hf) hx.1 (by omega)
    rw [bOk_yes hf h0]
    exact Lib.hid this
theorem sBlunder_yes {p : Option Addr} {c m : Nat} {w : World} (h : Runs w p rs) (hw : nWhole (N : Int) rs = true) (hm : rs.length = m) (hN : N = n + 1) :
    Calls Tryz.prog 16 #[.int .i64 N, .slice p m c] w fun e w' => e = .returned (.tuple #[.int .i64 (ansQ (bX N rs) (bQ N n rs) (bOk N n rs) m).1, .bool (ansQ (bX N rs) (bQ N n rs) (bOk N n rs) m).2]) ∧ Below w.heap.size w w' := by
  have hl : m ≤ 12 := by rw [← hm]; exact (nOk_true (whole_nok hw)).2.2.1
  refine sBlunder_of N p c m rs (bX N rs) (bQ N n rs) (bOk N n rs) w h hw hm (fun k hk h h0 => bQ_qv h h0) (fun k hk => ?_)
  have hr := rnk_at (rs := rs) (k := k) (by omega)
  have hx := bX_qv hw (k := k) (by omega)
  have c2 := fun w h => Lib.hid (sSpreadFree_yes N k p c m rs _ w h hw hm hr)
  have c1 : ∀ w, Runs w p rs → Hid (Calls Tryz.prog 61 #[.int .i64 N, .slice p m c, .int .i64 k] w fun e w' => e = .returned (.tuple #[.agg #[.int .i64 (bA N n rs k), .int .i64 (bB N n rs k)], .bool (bF N n rs k)]) ∧ Below w.heap.size w w') := fun w h => by
    by_cases ha : adjOk (N : Int) rs = true
    · have := sRest_yes N n k p c m rs _ w h ha hm hN hr
      unfold bA bB bF
      rw [if_pos ha, if_pos ha, ha]
      exact Lib.hid this
    · have := sRest_no N k p c m rs w h hm (by omega) (fun hh => ha hh.1)
      unfold bA bB bF
      rw [if_neg ha, if_neg ha, show adjOk (N : Int) rs = false by simpa using ha]
      exact Lib.hid this
  cases hf : bF N n rs k
  · rw [hf] at c1
    rw [bOk_no hf]
    exact ⟨0, 0, false, fun w h => Lib.hid (sBl_no N k p c m rs _ _ _ _ w h c1 c2), fun h => by cases h⟩
  · rw [hf] at c1
    by_cases h0 : bX N rs k = 0
    · rw [bOk_flat hf h0]
      have c2' : ∀ w, Runs w p rs → Hid (Calls Tryz.prog 8 #[.int .i64 N, .slice p m c, .int .i64 k] w fun e w' => e = .returned (.tuple #[.agg #[.int .i64 0, .int .i64 (bY N rs k)], .bool true]) ∧ Below w.heap.size w w') := fun w h => by have := c2 w h; rw [show sfT N rs (rnk rs k) = 0 from h0] at this; exact this
      exact ⟨0, 0, false, fun w h => Lib.hid (sBl_flat N k p c m rs _ _ _ w h c1 c2'), fun _ => ⟨by simp [h0], fun hn => absurd h0 hn⟩⟩
    · rw [bOk_yes hf h0]
      exact ⟨_, _, true, fun w h => Lib.hid (sBl_yes N k p c m rs _ _ _ _ w h (bF_qv hf) hx.1 h0 c1 c2), fun _ => ⟨by simp [h0], fun _ => rfl⟩⟩
end
theorem bothSpreadBlunder (n : Int) (rs : List Rn) (hl4 : rs.length ≤ 4000000000000000000) : ∃ (x : Int) (b : Bool), (∀ (w : World) (p : Option Addr) (c : Nat), Runs w p rs → Hid (Calls Tryz.prog 16 #[.int .i64 n, .slice p rs.length c] w fun e w' => e = .returned (.tuple #[.int .i64 x, .bool b]) ∧ Below w.heap.size w w')) ∧ (∀ (w : World) (p : Option Addr) (c : Nat), RunsE w p rs → Hid (Calls Tryz.prog 15 #[.int .i64 n, .slice p rs.length c] w fun e w' => e = .returned (.tuple #[.int .i64 x, .bool b]) ∧ Below w.heap.size w w')) := by
  cases hw : nWhole n rs
  · exact ⟨0, false, fun w p c h => Lib.hid (sBlunder_no n p c _ rs w h rfl hl4 hw), fun w p c h => Lib.hid (iBlunder_no n p c _ rs w h.runs rfl hl4 hw)⟩
  · obtain ⟨N, M, rfl, hNM⟩ := whole_nat hw
    exact ⟨_, _, fun w p c h => Lib.hid (sBlunder_yes (n := N - 1) h hw rfl (by have := (nOk_true (whole_nok hw)).1; omega)), fun w p c h => Lib.hid (iBlunder_yes (n := N - 1) h hw rfl (by have := (nOk_true (whole_nok hw)).1; omega))⟩
end Go.Proofs.YtenllemaccacgaaGreatDoor
