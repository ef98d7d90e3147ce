/-
  The reference model's adjusted heights.
-/
import Derived.Test.YtddmbjobibljaaaEe
import Derived.Test.YtddmbjobibljaaaEc
import Derived.Test.YtddmbjobibljaaaQh
import Derived.Test.YtddmbjobibljaaaZh
import Derived.Test.YtddmbjobibljaaaZj
namespace Go.Proofs.Ytddmbjobibljaaa
open Go.RowKit
set_option linter.unusedVariables false

theorem prd_put (n c : Nat) (hn : n ≤ 5) (hc : c < n) : fct n * prd n (fun k => if k = c then 10800000 else 108) ≤ 200000000000000000 := by
  have h1 : n = 0 ∨ n = 1 ∨ n = 2 ∨ n = 3 ∨ n = 4 ∨ n = 5 := by omega
  have h2 : c = 0 ∨ c = 1 ∨ c = 2 ∨ c = 3 ∨ c = 4 := by omega
  rcases h1 with rfl | rfl | rfl | rfl | rfl | rfl <;> rcases h2 with rfl | rfl | rfl | rfl | rfl <;> first | omega | simp [fct, prd]
theorem put_cob {N n c : Nat} {rs : List Rn} (hn : nOk (N : Int) rs = true) (hn5 : n ≤ 5) (hc : c < n) : CoB n (fun k => if k = c then 10800000 else 108) (upc (lap0 rs) c (fun i => srcs rs (i + 1))) := by
  refine ⟨fun k => by split <;> omega, fun i k hi hk => ?_, by have := prd_put n c hn5 hc; omega⟩
  by_cases e : k = c
  · subst e
    rw [upd_at]
    simp only [if_true]
    exact srcs_low (rs := rs) (ok_runs hn) (nOk_true hn).2.2.1 (i + 1)
  · rw [upd_ne e]
    simp only [if_neg e]
    exact lap_low (rs := rs) (fun r hr => ⟨(ok_runs hn r hr).1, (ok_runs hn r hr).2.1, (ok_runs hn r hr).2.2.1⟩) (nOk_true hn).2.2.1 (i + 1) (k + 1)
theorem nT_low {N n c : Nat} {rs : List Rn} (hn : nOk (N : Int) rs = true) (hn5 : n ≤ 5) (hc : c < n) : -200000000000000000 ≤ nT n rs c ∧ nT n rs c ≤ 200000000000000000 := by
  have h := put_cob hn hn5 hc
  have h1 := CoB.det0 h.one h.ent
  have h2 := prd_put n c hn5 hc
  unfold nT
  omega
theorem dT_low {N n : Nat} {rs : List Rn} (hn : nOk (N : Int) rs = true) (hn5 : n ≤ 5) : -2000000000000 ≤ dT n rs ∧ dT n rs ≤ 2000000000000 :=
  lap_det_low hn5 (fun r hr => ⟨(ok_runs hn r hr).1, (ok_runs hn r hr).2.1, (ok_runs hn r hr).2.2.1⟩) (nOk_true hn).2.2.1
theorem hT_low {N n j : Nat} {rs : List Rn} (hn : nOk (N : Int) rs = true) (hn5 : n ≤ 5) (hj : j < n + 1) : -200000000000000000 ≤ hT n rs j ∧ hT n rs j ≤ 200000000000000000 := by
  match j, hj with
  | 0, _ => simp [hT]
  | j + 1, hj => exact nT_low hn hn5 (by omega)
/-- a net that is whole has trees -/
theorem dT_pos {n : Nat} {rs : List Rn} (hw : nWhole ((n + 1 : Nat) : Int) rs = true) (hn : nOk ((n + 1 : Nat) : Int) rs = true) : 0 < dT n rs := by
  unfold dT
  rw [← heavy_det hn]
  have h1 := many_whole.2 hw
  have h2 := heavy_ge hn
  omega
/-- the adjusted heights of the first nodes -/
def hqs (n : Nat) (rs : List Rn) (j : Nat) : List (Int × Int) := (List.range j).map (fun i => (Quo.T (hT n rs i) (dT n rs), Quo.L (hT n rs i) (dT n rs)))
def flq : List (Int × Int) → List Int
  | [] => []
  | x :: xs => x.1 :: x.2 :: flq xs
theorem flq_len : ∀ xs : List (Int × Int), (flq xs).length = xs.length * 2
  | [] => rfl
  | x :: xs => by simp [flq, flq_len xs]; omega
theorem flq_append : ∀ xs ys : List (Int × Int), flq (xs ++ ys) = flq xs ++ flq ys
  | [], _ => rfl
  | x :: xs, ys => by simp [flq, flq_append xs ys]
theorem flq_at : ∀ {xs : List (Int × Int)} {i : Nat} {x : Int × Int}, xs[i]? = some x → (flq xs)[i * 2]? = some x.1 ∧ (flq xs)[i * 2 + 1]? = some x.2
  | [], i, x, h => by simp at h
  | a :: xs, 0, x, h => by simp at h; subst h; simp [flq]
  | a :: xs, i + 1, x, h => by
    have := flq_at (xs := xs) (i := i) (x := x) (by simpa using h)
    simp only [flq, show (i + 1) * 2 = i * 2 + 2 by omega]
    simpa [show i * 2 + 2 = i * 2 + 1 + 1 from rfl, show i * 2 + 2 + 1 = i * 2 + 1 + 1 + 1 from rfl] using this
theorem hqs_len (n : Nat) (rs : List Rn) (j : Nat) : (hqs n rs j).length = j := by simp [hqs]
theorem hqs_at {n j i : Nat} {rs : List Rn} (h : i < j) : (hqs n rs j)[i]? = some (Quo.T (hT n rs i) (dT n rs), Quo.L (hT n rs i) (dT n rs)) := by
  unfold hqs; rw [List.getElem?_map, List.getElem?_range h]; rfl
theorem hqs_succ (n : Nat) (rs : List Rn) (j : Nat) : hqs n rs (j + 1) = hqs n rs j ++ [(Quo.T (hT n rs j) (dT n rs), Quo.L (hT n rs j) (dT n rs))] := by
  unfold hqs; rw [List.range_succ, List.map_append]; rfl
/-- all adjusted heights are valid quotients -/
def okH (n : Nat) (rs : List Rn) : Bool := (List.range (n + 1)).all (fun j => Quo.qO (hT n rs j) (dT n rs))
theorem okH_true {n : Nat} {rs : List Rn} : okH n rs = true ↔ ∀ j, j < n + 1 → Quo.qO (hT n rs j) (dT n rs) = true := by
  unfold okH; simp [List.all_eq_true]
theorem okH_false {n j : Nat} {rs : List Rn} (hj : j < n + 1) (h : Quo.qO (hT n rs j) (dT n rs) = false) : okH n rs = false := by
  rw [Bool.eq_false_iff]; intro h1
  have := okH_true.1 h1 j hj
  rw [h] at this; cases this
theorem two_new (w : World) (a b : Int) (T : TypeId) : ∀ (j : Nat) (z : Int), [a, b][j]? = some z → (w.alloc (.cells #[.int .i64 a, .int .i64 b] T)).cell? ((⟨w.heap.size, 0, none⟩ : Addr).add j) = some (.int .i64 z) := by
  intro j z h
  rw [add_flat]
  match j, h with
  | 0, h => simp at h; subst h; simp [go_sem]
  | 1, h => simp at h; subst h; simp [go_sem]
  | j + 2, h => simp at h
theorem own_tailE {w : World} {g N : Nat} {L zs : List Int} (h : Own w g 3 1 N N L) (e : L.drop 1 = zs) : Ints w (some ⟨g, 1, none⟩) zs := by
  subst e
  refine .inr ⟨g, 1, rfl, h.lt, fun i z hi => ?_⟩
  rw [List.getElem?_drop] at hi
  exact h.cells hi
theorem drop_rgLE (n : Nat) (f : Nat → Int) : (rgL (n + 1) f).drop 1 = rgL n (fun i => f (i + 1)) := by
  refine List.ext_getElem? (fun i => ?_)
  rw [List.getElem?_drop]
  by_cases h : i < n
  · rw [rgL_at _ h, Nat.add_comm 1 i, rgL_at _ (by omega)]
  · rw [List.getElem?_eq_none (by rw [rgL_len]; omega), List.getElem?_eq_none (by rw [rgL_len]; omega)]
theorem det_put {n j : Nat} {rs : List Rn} (hj : j < n) : det n (ent (putL n (mkL n (lap0 rs)) j (rgL n (fun i => srcs rs (i + 1))))) = hT n rs (j + 1) := by
  show _ = nT n rs j
  unfold nT putL
  refine det_congr (fun i k hi hk => ?_)
  rw [ent_mkL hi hk]
  by_cases e : k = j
  · subst e; rw [upd_at, upd_at, num_at (rgL_at _ hi)]
  · rw [upd_ne e, upd_ne e, ent_mkL hi hk]
theorem sPutDet {N n j c : Nat} {p : Option Addr} {rs : List Rn} (w : World) (hn : nOk (N : Int) rs = true) (hn5 : n ≤ 5) (hj : j < n) (h : GRead w p (putL n (mkL n (lap0 rs)) j (rgL n (fun i => srcs rs (i + 1))))) :
    Calls Try.prog 38 #[.slice p n c] w fun e w' => e = .returned (.int .i64 (nT n rs j)) ∧ Below w.heap.size w w' := by
  have h1 := sDetB n c p _ _ w h mkL_sq hn5 ((put_cob hn hn5 hj).congr (fun i k hi hk => by
    unfold putL
    rw [ent_mkL hi hk]
    by_cases e : k = j
    · subst e
      rw [upd_at, upd_at, num_at (rgL_at _ hi)]
    · rw [upd_ne e, upd_ne e, ent_mkL hi hk]))
  rw [det_put hj] at h1
  exact h1
theorem hqs_one {n : Nat} {rs : List Rn} (hD : dT n rs ≠ 0) : flq (hqs n rs 1) = [0, 1] := by
  have := Quo.T_zero hD
  show [Quo.T (hT n rs 0) (dT n rs), Quo.L (hT n rs 0) (dT n rs)] = _
  show [Quo.T 0 (dT n rs), Quo.L 0 (dT n rs)] = _
  rw [this.1, this.2]
end Go.Proofs.Ytddmbjobibljaaa
