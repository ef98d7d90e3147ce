/-
  Where a network closes, its adjusted heights are the heights that fit all runs; moved heights move the adjusted ones. No function of the program is named.
  A turned run's adjusted rise is turned; the adjusted rises round a loop sum to 0. No function of the program is named.
-/
import Derived.Test.YtoaomjchaihkaaaGreatDoorEya
import Derived.Test.YtoaomjchaihkaaaGreatDoorEa
import Derived.Test.YtoaomjchaihkaaaGreatDoorNz
import Derived.Test.YtoaomjchaihkaaaGreatDoorLz
namespace Go.Proofs.YtoaomjchaihkaaaGreatDoor
set_option linter.unusedVariables false

/-- the quotients of heights that fit all runs are these heights -/
theorem fit_T {n : Nat} {rs : List Rn} (hin : InN (n + 1) rs) (hD : dT n rs ≠ 0) {x : Nat → Int} (h0 : x 0 = 0) (h : ∀ r ∈ rs, x r.t.toNat - x r.f.toNat = r.s) {j : Nat} (hj : j < n + 1) (hb : -1000000000 ≤ x j ∧ x j ≤ 1000000000) :
    Quo.T (hT n rs j) (dT n rs) = x j ∧ Quo.L (hT n rs j) (dT n rs) = 1 := by
  have e := (fits_solves hin x h0 h).all h0 hj
  have v := Quo.Val.whole (x := x j) hb.1 hb.2 hD
  rw [Int.mul_comm, e, Int.one_mul] at v
  exact v.TL
theorem fit_rest {n : Nat} {rs : List Rn} (hin : InN (n + 1) rs) {x : Nat → Int} (h0 : x 0 = 0) (h : ∀ r ∈ rs, x r.t.toNat - x r.f.toNat = r.s) {r : Rn} (hr : r ∈ rs) : rest n rs r = 0 := by
  have hs := fits_solves hin x h0 h
  have hi := hin r hr
  have e1 := hs.all h0 (j := r.t.toNat) (by omega)
  have e2 := hs.all h0 (j := r.f.toNat) (by omega)
  have e3 := h r hr
  unfold rest
  rw [← e3, Int.mul_sub, e1, e2]
  omega
theorem fit_rs {n : Nat} {rs : List Rn} (hD : dT n rs ≠ 0) {r : Rn} (h0 : rest n rs r = 0) (hq : Quo.qO (hT n rs r.t.toNat - hT n rs r.f.toNat) (dT n rs) = true) : rsT n rs r = 0 ∧ rsL n rs r = 1 ∧ rsB n rs r = true := by
  have v := Quo.Val.whole (x := 0) (by omega) (by omega) hD
  rw [Int.zero_mul] at v
  have hq2 : Quo.qO 0 (dT n rs) = true := v.ok
  have e := v.TL
  unfold rsT rsL rsB vT vL
  rw [h0, hq, hq2]
  exact ⟨by simp [e.1], by simp [e.2], by simp⟩
theorem sq_zero {g : Int} (h : 1 ≤ g ∧ g ≤ 9) : sqK 0 1 g = true ∧ sqT 0 1 g = 0 ∧ sqL 0 1 g = 1 := by
  have : g = 1 ∨ g = 2 ∨ g = 3 ∨ g = 4 ∨ g = 5 ∨ g = 6 ∨ g = 7 ∨ g = 8 ∨ g = 9 := by omega
  rcases this with rfl | rfl | rfl | rfl | rfl | rfl | rfl | rfl | rfl <;> decide
theorem sum_zero {fA fB : Rn → Int} {fP : Rn → Bool} : ∀ l : List Rn, (∀ r ∈ l, fA r = 0 ∧ fB r = 1 ∧ fP r = true ∧ 1 ≤ r.g ∧ r.g ≤ 9) → sumS fA fB fP l (0, 1) = some (0, 1)
  | [], _ => rfl
  | r :: l, h => by
    obtain ⟨a, b, c, d, e⟩ := h r (by simp)
    obtain ⟨k, t, u⟩ := sq_zero ⟨d, e⟩
    have s1 : stO fA fB fP (0, 1) r = true := by
      unfold stO
      rw [a, b, c, k, t, u]
      decide
    have s2 : stV fA fB (0, 1) r = (0, 1) := by
      unfold stV
      rw [a, b, t, u]
      decide
    simp only [sumS]
    rw [if_pos s1, s2]
    exact sum_zero l (fun r hr => h r (List.mem_cons_of_mem _ hr))
/-- in a net that closes the sum of the squares is 0 -/
theorem fit_sum {n : Nat} {rs : List Rn} (hin : InN (n + 1) rs) (hD : dT n rs ≠ 0) {x : Nat → Int} (h0 : x 0 = 0) (h : ∀ r ∈ rs, x r.t.toNat - x r.f.toNat = r.s) (hg : ∀ r ∈ rs, 1 ≤ r.g ∧ r.g ≤ 9 ∧ -1000000000 ≤ r.s ∧ r.s ≤ 1000000000) : smV n rs = some (0, 1) := by
  refine sum_zero rs (fun r hr => ?_)
  obtain ⟨g1, g2, g3, g4⟩ := hg r hr
  have z := fit_rest hin h0 h hr
  have e : hT n rs r.t.toNat - hT n rs r.f.toNat = r.s * dT n rs := by unfold rest at z; rw [Int.mul_comm]; omega
  have hq : Quo.qO (hT n rs r.t.toNat - hT n rs r.f.toNat) (dT n rs) = true := by rw [e]; exact (Quo.Val.whole g3 g4 hD).ok
  obtain ⟨a, b, c⟩ := fit_rs hD z hq
  exact ⟨a, b, c, g1, g2⟩
/-- all rises moved by the difference of what is laid on the runs' ends -/
def movR (L : List Int) (r : Rn) : Rn := ⟨r.f, r.t, r.s + htAt L r.t - htAt L r.f, r.g⟩
theorem mov_val {n : Nat} {rs : List Rn} {L : List Int} (hin : InN (n + 1) rs) (hD : dT n rs ≠ 0) (hD' : dT n (rs.map (movR L)) ≠ 0) {j : Nat} (hj : j < n + 1) (hq : Quo.qO (hT n rs j) (dT n rs) = true) (hq' : Quo.qO (hT n (rs.map (movR L)) j) (dT n (rs.map (movR L))) = true)
    (hb : -1000000000 ≤ htAt L j - htAt L 0 ∧ htAt L j - htAt L 0 ≤ 1000000000) {t l : Int} {b : Bool} (ht : Quo.gT (Quo.both (Quo.T (hT n rs j) (dT n rs)) (Quo.L (hT n rs j) (dT n rs)) (htAt L j - htAt L 0) 1) (Quo.T (hT n rs j) (dT n rs) * 1 + (htAt L j - htAt L 0) * Quo.L (hT n rs j) (dT n rs)) (Quo.L (hT n rs j) (dT n rs) * 1) = t)
    (hl : Quo.gL (Quo.both (Quo.T (hT n rs j) (dT n rs)) (Quo.L (hT n rs j) (dT n rs)) (htAt L j - htAt L 0) 1) (Quo.T (hT n rs j) (dT n rs) * 1 + (htAt L j - htAt L 0) * Quo.L (hT n rs j) (dT n rs)) (Quo.L (hT n rs j) (dT n rs) * 1) = l)
    (hk : Quo.gOk (Quo.both (Quo.T (hT n rs j) (dT n rs)) (Quo.L (hT n rs j) (dT n rs)) (htAt L j - htAt L 0) 1) (Quo.T (hT n rs j) (dT n rs) * 1 + (htAt L j - htAt L 0) * Quo.L (hT n rs j) (dT n rs)) (Quo.L (hT n rs j) (dT n rs) * 1) = b) (hbt : b = true) :
    Quo.T (hT n (rs.map (movR L)) j) (dT n (rs.map (movR L))) = t ∧ Quo.L (hT n (rs.map (movR L)) j) (dT n (rs.map (movR L))) = l := by
  have hs : Solves n (rs.map (movR L)) (dT n rs) (fun i => hT n rs i + dT n rs * (htAt L (i : Nat) - htAt L (0 : Nat))) := by
    have := shift_solves hin (fun i => htAt L (i : Nat))
    have e : rs.map (movR L) = rs.map (fun r => ⟨r.f, r.t, r.s + htAt L ((r.t.toNat : Nat) : Int) - htAt L ((r.f.toNat : Nat) : Int), r.g⟩) := List.map_congr_left (fun r hr => by
      have := hin r hr
      unfold movR
      rw [show ((r.t.toNat : Nat) : Int) = r.t by omega, show ((r.f.toNat : Nat) : Int) = r.f by omega])
    rw [e]; exact this
  have h00 : hT n rs 0 = 0 := rfl
  have e := hs.all (by simp [h00]) hj
  have v := (Quo.Val.of hD hq).add (Quo.Val.whole hb.1 hb.2 hD)
  have hk2 := hk.trans hbt
  have hqs := v.1.symm.trans hk2
  have w := v.2.1 hqs
  have w2 := Quo.Val.of hD hqs
  rw [← w.1, ← w.2, ht, hl] at w2
  have e2 : hT n rs j + (htAt L (j : Nat) - htAt L 0) * dT n rs = hT n rs j + dT n rs * (htAt L (j : Nat) - htAt L ((0 : Nat) : Int)) := by rw [Int.mul_comm]; rfl
  exact (Quo.Val.of hD' hq').uniq2 w2 (by rw [e2, Int.mul_comm, ← e, Int.mul_comm])
/-- the first rises moved -/
def mvA (L : List Int) (k : Nat) (rs : List Rn) : List Rn := (rs.take k).map (movR L) ++ rs.drop k
theorem mvA_zero {L : List Int} {rs : List Rn} : mvA L 0 rs = rs := rfl
theorem mvA_all {L : List Int} {rs : List Rn} {m : Nat} (h : rs.length = m) : mvA L m rs = rs.map (movR L) := by
  subst h; unfold mvA; simp
theorem mvA_at {L : List Int} {rs : List Rn} {k : Nat} {r : Rn} (h : rs[k]? = some r) : (mvA L k rs)[k]? = some r := by
  have hk := (List.getElem?_eq_some_iff.1 h).1
  unfold mvA
  rw [List.getElem?_append_right (by simp; omega)]
  simp only [List.length_map, List.length_take, Nat.min_eq_left (Nat.le_of_lt hk), Nat.sub_self, List.getElem?_drop, Nat.add_zero]
  exact h
theorem mvA_len {L : List Int} {rs : List Rn} {k : Nat} : (mvA L k rs).length = rs.length := by unfold mvA; simp; omega
theorem mvA_set {L : List Int} {rs : List Rn} {k : Nat} {r : Rn} (h : rs[k]? = some r) : (mvA L k rs).set k (movR L r) = mvA L (k + 1) rs := by
  have hk := (List.getElem?_eq_some_iff.1 h).1
  have e : (rs.take (k + 1)).map (movR L) = (rs.take k).map (movR L) ++ [movR L r] := by rw [List.take_add_one, h]; simp
  have e2 : rs.drop k = r :: rs.drop (k + 1) := by rw [← (List.getElem?_eq_some_iff.1 h).2, List.getElem_cons_drop]
  unfold mvA
  rw [e, List.set_append_right _ _ (by simp; omega), e2]
  simp [Nat.min_eq_left (Nat.le_of_lt hk)]
theorem movR_low {L : List Int} {r : Rn} (hL : Low L) : -50 ≤ htAt L r.t - htAt L r.f ∧ htAt L r.t - htAt L r.f ≤ 50 := by
  have low : ∀ x : Int, 0 ≤ htAt L x ∧ htAt L x < 50 := fun x => by
    unfold htAt
    cases h : L[x.toNat]? with
    | none => simp
    | some z => exact hL _ _ h
  have := low r.t
  have := low r.f
  omega
end Go.Proofs.YtoaomjchaihkaaaGreatDoor
namespace Go.Proofs.YtoaomjchaihkaaaGreatDoor
set_option linter.unusedVariables false

theorem val_neg {t l N D : Int} (h : Quo.Val t l N D) : Quo.Val (-t) l (-N) D := by
  obtain ⟨h1, h2, h3⟩ := h
  refine ⟨?_, h2, by rw [Int.neg_mul, h3, Int.neg_mul]⟩
  unfold Quo.qv at h1 ⊢
  rw [decide_eq_true_iff] at h1 ⊢
  refine ⟨h1.1, h1.2.1, by omega, by omega, ?_⟩
  rw [Int.neg_gcd]; exact h1.2.2.2.2
theorem turn_rOk {n : Int} {r : Rn} (h : rOk n r = true) : rOk n (turnR r) = true := by
  obtain ⟨a1, a2, a3, a4, a5, a6, a7, a8, a9⟩ := rOk_true h
  exact rOk_of a3 a4 a1 a2 (Ne.symm a5) (by simp [turnR]; omega) (by simp [turnR]; omega) a8 a9
theorem turn_nOk {n : Int} {rs : List Rn} {j : Nat} {r : Rn} (hn : nOk n rs = true) (hr : rs[j]? = some r) : nOk n (rs.set j (turnR r)) = true := by
  obtain ⟨h1, h2, h3, h4⟩ := nOk_true hn
  refine nOk_of h1 h2 (by simpa using h3) (fun i r' hi => ?_)
  rw [List.getElem?_set] at hi
  split at hi
  · split at hi
    · cases hi; exact turn_rOk (h4 j r hr)
    · cases hi
  · exact h4 i r' hi
theorem turn_whole {N j : Nat} {rs : List Rn} {r : Rn} (hw : nWhole (N : Int) rs = true) (hr : rs[j]? = some r) : nWhole (N : Int) (rs.set j (turnR r)) = true := by
  have hj := (List.getElem?_eq_some_iff.1 hr).1
  refine whole_of (turn_nOk (whole_iff.1 hw).1 hr) (fun i hi g hg => whole_same hw hi g (fun x hx => ?_))
  obtain ⟨i, hi⟩ := List.getElem?_of_mem hx
  by_cases e : j = i
  · subst e
    rw [hr] at hi; cases hi
    exact (hg (turnR r) (List.mem_of_getElem? (i := j) (by rw [List.getElem?_set]; simp [hj]))).symm
  · exact hg x (List.mem_of_getElem? (i := i) (by rw [List.getElem?_set, if_neg e]; exact hi))
/-- the turned net has the same adjusted heights -/
theorem turn_adj {N n k : Nat} {rs : List Rn} {r : Rn} (ha : adjOk (N : Int) rs = true) (hNn : N = n + 1) (hr : rs[k]? = some r) :
    adjOk (N : Int) (rs.set k (turnR r)) = true ∧ dT n (rs.set k (turnR r)) ≠ 0 ∧ ∀ j, j < n + 1 → dT n (rs.set k (turnR r)) * hT n rs j = dT n rs * hT n (rs.set k (turnR r)) j := by
  obtain ⟨hw, hk⟩ := adj_true ha hNn
  have hn := (whole_iff.1 hw).1
  have hw' := turn_whole hw hr
  have hn' := (whole_iff.1 hw').1
  have hin : InN (n + 1) rs := by rw [← hNn]; exact nOk_in hn
  have hD : 0 < dT n rs := dT_pos (by rw [← hNn]; exact hw) (by rw [← hNn]; exact hn)
  have hD' : 0 < dT n (rs.set k (turnR r)) := dT_pos (by rw [← hNn]; exact hw') (by rw [← hNn]; exact hn')
  have hs : ∀ j, j < n + 1 → dT n (rs.set k (turnR r)) * hT n rs j = dT n rs * hT n (rs.set k (turnR r)) j := fun j hj => same_heights (turn_solves hin hr) hj
  refine ⟨?_, by omega, hs⟩
  unfold adjOk
  rw [hw', Bool.true_and, Int.toNat_natCast, hNn, Nat.add_sub_cancel]
  refine okH_true.2 (fun j hj => ?_)
  have h1 := okH_true.1 hk j hj
  rw [← h1]
  exact Quo.qO_val (by omega) (by omega) (by have := hs j hj; rw [Int.mul_comm, ← this, Int.mul_comm])
/-- a turned run's rise -/
theorem turn_val {N n k : Nat} {rs : List Rn} {r : Rn} (ha : adjOk (N : Int) rs = true) (hNn : N = n + 1) (hr : rs[k]? = some r) (hq : Quo.qO (hT n rs r.t.toNat - hT n rs r.f.toNat) (dT n rs) = true) :
    Quo.qO (hT n (rs.set k (turnR r)) (turnR r).t.toNat - hT n (rs.set k (turnR r)) (turnR r).f.toNat) (dT n (rs.set k (turnR r))) = true
    ∧ vT (hT n (rs.set k (turnR r)) (turnR r).t.toNat - hT n (rs.set k (turnR r)) (turnR r).f.toNat) (dT n (rs.set k (turnR r))) = -vT (hT n rs r.t.toNat - hT n rs r.f.toNat) (dT n rs)
    ∧ vL (hT n (rs.set k (turnR r)) (turnR r).t.toNat - hT n (rs.set k (turnR r)) (turnR r).f.toNat) (dT n (rs.set k (turnR r))) = vL (hT n rs r.t.toNat - hT n rs r.f.toNat) (dT n rs) := by
  obtain ⟨h1, h2, h3⟩ := turn_adj ha hNn hr
  obtain ⟨hw, hk⟩ := adj_true ha hNn
  have hn := (whole_iff.1 hw).1
  have hin : InN (n + 1) rs := by rw [← hNn]; exact nOk_in hn
  have hD : dT n rs ≠ 0 := by
    have := dT_pos (n := n) (rs := rs) (by rw [← hNn]; exact hw) (by rw [← hNn]; exact hn)
    omega
  obtain ⟨b1, b2, b3, b4⟩ := hin r (List.mem_of_getElem? hr)
  have e1 := h3 r.t.toNat (by omega)
  have e2 := h3 r.f.toNat (by omega)
  have v := val_neg (Quo.Val.of hD hq)
  have v2 := v.to (N' := hT n (rs.set k (turnR r)) (turnR r).t.toNat - hT n (rs.set k (turnR r)) (turnR r).f.toNat) h2 (by
    show -(hT n rs r.t.toNat - hT n rs r.f.toNat) * dT n (rs.set k (turnR r)) = (hT n (rs.set k (turnR r)) r.f.toNat - hT n (rs.set k (turnR r)) r.t.toNat) * dT n rs
    rw [Int.neg_mul, Int.sub_mul, Int.sub_mul, Int.mul_comm (hT n rs r.t.toNat), Int.mul_comm (hT n rs r.f.toNat), e1, e2, Int.mul_comm (dT n rs), Int.mul_comm (dT n rs)]
    omega)
  have t := v2.TL
  refine ⟨v2.ok, ?_, ?_⟩
  · unfold vT; rw [if_pos v2.ok, if_pos hq, t.1]
  · unfold vL; rw [if_pos v2.ok, if_pos hq, t.2]
/-- the adjusted rise of the run that a number names, the way that it goes -/
def dh (n : Nat) (rs : List Rn) (z : Int) : Int := hT n rs (en rs z).toNat - hT n rs (bg rs z).toNat
def csm (n : Nat) (rs : List Rn) : List Int → Int
  | [] => 0
  | z :: L => dh n rs z + csm n rs L
theorem csm_chain {n : Nat} {rs : List Rn} {b : Int} : ∀ (L : List Int) (a : Int), Chain rs a L b → csm n rs L = hT n rs b.toNat - hT n rs a.toNat
  | [], a, h => by
    have h : a = b := h
    subst h; simp [csm]
  | z :: L, a, h => by
    obtain ⟨h1, h2⟩ := h
    simp only [csm]
    rw [csm_chain L _ h2, ← h1]
    unfold dh
    omega
theorem csm_app {n : Nat} {rs : List Rn} (z : Int) : ∀ L : List Int, csm n rs (L ++ [z]) = csm n rs L + dh n rs z
  | [] => by simp [csm]
  | y :: L => by
    simp only [List.cons_append, csm]
    rw [csm_app z L]; omega
theorem csm_take {n : Nat} {rs : List Rn} {L : List Int} {i : Nat} {z : Int} (h : L[i]? = some z) : csm n rs (L.take (i + 1)) = csm n rs (L.take i) + dh n rs z := by
  rw [List.take_add_one, h]
  exact csm_app z _
theorem csm_loop {N : Int} {n : Nat} {rs : List Rn} {L : List Int} (h : IsL N rs L) : csm n rs L = 0 := by
  obtain ⟨c, hc⟩ := h.loop
  rw [csm_chain L c hc]; omega
/-- the run that a number of a loop names -/
theorem loop_run {N : Int} {rs : List Rn} {L : List Int} (h : IsL N rs L) {i : Nat} {z : Int} (hz : L[i]? = some z) :
    ∃ (j : Nat) (r : Rn), rs[j]? = some r ∧ max z (0 - z) - 1 = (j : Int) ∧ z ≠ 0 ∧ -12 ≤ z ∧ z ≤ 12 ∧ ∀ n, dh n rs z = if z < 0 then -(hT n rs r.t.toNat - hT n rs r.f.toNat) else hT n rs r.t.toNat - hT n rs r.f.toNat := by
  obtain ⟨h1, h2, h3⟩ := h.rng z (List.mem_of_getElem? hz)
  have h12 := (nOk_true h.ok).2.2.1
  obtain ⟨j, hj⟩ : ∃ j : Nat, (z.natAbs : Int) - 1 = (j : Int) := ⟨z.natAbs - 1, by omega⟩
  have hjl : j < rs.length := by omega
  have hr : rs[j]? = some rs[j] := List.getElem?_eq_getElem hjl
  refine ⟨j, rs[j], hr, by omega, h1, by omega, by omega, fun n => ?_⟩
  have hru : runOf rs (ix z) = rs[j] := by
    unfold runOf ix
    rw [hj, Int.toNat_natCast, hr]; rfl
  unfold dh en bg
  rw [hru]
  split <;> omega
/-- one rise more -/
theorem loop_step {A D X sx sy x xl : Int} (hD : D ≠ 0) (h1 : Quo.Val sx sy A D) {g : Bool} (h2 : g = true → Quo.Val x xl X D) {z zl : Int} {s : Bool}
    (hs : Quo.gOk (Quo.both sx sy x xl) (sx * xl + x * sy) (sy * xl) = s) (hz : Quo.gT (Quo.both sx sy x xl) (sx * xl + x * sy) (sy * xl) = z) (hzl : Quo.gL (Quo.both sx sy x xl) (sx * xl + x * sy) (sy * xl) = zl) (hg : g = true) (hs1 : s = true) : Quo.Val z zl (A + X) D := by
  have b := h1.add (h2 hg)
  have hs2 : Quo.qO (A + X) D = true := by rw [← b.1, hs]; exact hs1
  have e := b.2.1 hs2
  rw [← hz, ← hzl, e.1, e.2]
  exact Quo.Val.of hD hs2
/-- the rise with its sign -/
theorem v_sign {N D : Int} (hD : D ≠ 0) (hq : Quo.qO N D = true) (b : Prop) [Decidable b] : Quo.Val (if b then -vT N D else vT N D) (vL N D) (if b then -N else N) D := by
  have v : Quo.Val (vT N D) (vL N D) N D := by unfold vT vL; rw [if_pos hq, if_pos hq]; exact Quo.Val.of hD hq
  split
  · exact val_neg v
  · exact v
end Go.Proofs.YtoaomjchaihkaaaGreatDoor
