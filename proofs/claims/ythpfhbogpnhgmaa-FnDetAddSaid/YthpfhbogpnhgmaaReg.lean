/-
  A region that draws its order, by an invariant: what holds whatever has come up so far is kept by each operation that may come up next. No function of the program is named.
-/
import Derived.OrdersHeld
import Derived.Deep.RegionHeld
namespace Go.Proofs.Ythpfhbogpnhgmaa
open Go

def un (listed : Array Bool) : Nat → Nat
  | 0 => 0
  | n + 1 => un listed n + if listed.getD n true then 0 else 1
theorem getD_set_self (listed : Array Bool) (i : Nat) : (listed.setIfInBounds i true).getD i true = true := by
  by_cases h : i < listed.size <;> simp [h]
theorem un_other {listed : Array Bool} {i : Nat} : ∀ n, n ≤ i → un (listed.setIfInBounds i true) n = un listed n
  | 0, _ => rfl
  | n + 1, h => by simp only [un]; rw [un_other n (by omega), getD_set_ne true (by omega)]
theorem un_set {listed : Array Bool} {i : Nat} (hi : listed.getD i true = false) : ∀ n, i < n → un (listed.setIfInBounds i true) n + 1 = un listed n
  | 0, h => by omega
  | n + 1, h => by
    simp only [un]
    by_cases e : i = n
    · subst e; rw [un_other i (Nat.le_refl _), getD_set_self, hi]; simp
    · rw [getD_set_ne true e]; have := un_set hi n (by omega); omega
theorem un_zero {listed : Array Bool} : ∀ n, un listed n = 0 → ∀ j, j < n → listed.getD j true = true
  | 0, _, j, h => by omega
  | n + 1, h, j, hj => by
    simp only [un] at h
    by_cases e : j = n
    · subst e
      cases hl : listed.getD j true
      · rw [hl] at h; simp at h
      · rfl
    · exact un_zero n (by omega) j (by omega)

section
variable {P : Program} {ops : Array Oper} {Q : Exit → Act → World → Prop} {md : Region.Mode}
/-- each operation waits for earlier ones alone -/
def backward (ops : Array Oper) : Bool := (List.range ops.size).all fun i => match ops[i]? with | none => true | some o => o.after.all fun e => decide (e.on < i)
theorem backward_spec (h : backward ops = true) {i : Nat} {o : Oper} (ho : ops[i]? = some o) : ∀ e ∈ o.after, e.on < i := by
  unfold backward at h
  rw [List.all_eq_true] at h
  have := h i (by rw [List.mem_range]; exact (Array.getElem?_eq_some_iff.1 ho).1)
  rw [ho] at this
  intro e he
  have h2 := (Array.all_eq_true_iff_forall_mem.1 this) e he
  simpa using h2
theorem ready_nil (hb : backward ops = true) {listed : Array Bool} (hsz : listed.size = ops.size) (h : Region.ready md ops listed = []) : ∀ j, j < ops.size → listed.getD j true = true := by
  intro j
  induction j using Nat.strongRecOn with
  | ind j ih =>
    intro hj
    cases hl : listed.getD j true
    · exfalso
      have : j ∈ Region.ready md ops listed := by
        rw [mem_ready]
        refine ⟨hl, ops[j], Array.getElem?_eq_getElem hj, fun e he _ => ?_⟩
        have hlt := backward_spec hb (Array.getElem?_eq_getElem hj) e he
        have ht := ih e.on hlt (by omega)
        have hs : e.on < listed.size := by omega
        simp [hs] at ht ⊢; exact ht
      rw [h] at this; cases this
    · rfl
theorem wpAny_inv (hb : backward ops = true) (I : Array Bool → Act → World → Prop)
    (step : ∀ (listed : Array Bool) (a : Act) (w : World) (i : Nat) (o : Oper), I listed a w → ops[i]? = some o → listed.getD i true = false →
      (∀ e ∈ o.after, Region.binds md e = true → listed.getD e.on false = true) → wpOp P ops Q i (I (listed.setIfInBounds i true)) a w)
    (fin : ∀ (listed : Array Bool) (a : Act) (w : World), I listed a w → (∀ j, j < ops.size → listed.getD j true = true) → Q .normal a w) :
    ∀ (fuel : Nat) (listed : Array Bool) (a : Act) (w : World), listed.size = ops.size → un listed ops.size ≤ fuel → I listed a w → wpAny P md ops Q fuel listed a w
  | 0, listed, a, w, hs, hu, hI => by
    have hall := un_zero (listed := listed) ops.size (by omega)
    refine ⟨?_, fin listed a w hI hall⟩
    cases hr : Region.ready md ops listed with
    | nil => rfl
    | cons j rest =>
      have hj : j ∈ Region.ready md ops listed := by rw [hr]; exact List.mem_cons_self
      rw [mem_ready] at hj
      obtain ⟨h0, o, ho, _⟩ := hj
      have hlt := (Array.getElem?_eq_some_iff.1 ho).1
      rw [hall j hlt] at h0; cases h0
  | fuel + 1, listed, a, w, hs, hu, hI => by
    refine ⟨fun hr => fin listed a w hI (ready_nil hb hs hr), fun i hi => ?_⟩
    rw [mem_ready] at hi
    obtain ⟨h0, o, ho, hd⟩ := hi
    have hlt := (Array.getElem?_eq_some_iff.1 ho).1
    have hc := un_set h0 ops.size hlt
    exact wpOp_mono (fun a' w' h' => wpAny_inv hb I step fin fuel _ a' w' (by simpa using hs) (by omega) h') (step listed a w i o hI ho h0 hd)
theorem un_le (listed : Array Bool) : ∀ n, un listed n ≤ n
  | 0 => Nat.le_refl _
  | n + 1 => by have := un_le listed n; simp only [un]; split <;> omega
/-- the region as a whole -/
theorem wp_region_inv {id : Nat} {a : Act} {w : World} (hm : P.follows .mixedOrders = true) (hb : backward ops = true) (I : Array Bool → Act → World → Prop)
    (h0 : I (Array.replicate ops.size false) a w.drew)
    (step : ∀ (listed : Array Bool) (a : Act) (w : World) (i : Nat) (o : Oper), I listed a w → ops[i]? = some o → listed.getD i true = false →
      (∀ e ∈ o.after, Region.binds .any e = true → listed.getD e.on false = true) → wpOp P ops Q i (I (listed.setIfInBounds i true)) a w)
    (fin : ∀ (listed : Array Bool) (a : Act) (w : World), I listed a w → (∀ j, j < ops.size → listed.getD j true = true) → Q .normal a w) : (Code.region id ops true).wp P Q a w :=
  wp_region_any hm (wpAny_inv hb I step fin _ _ _ _ (by simp) (un_le _ _) h0)
end
end Go.Proofs.Ythpfhbogpnhgmaa
