/-
  Traverses as lists of steps, with no Go in sight: which are valid, the points on the way, gaps, lengths, closed traverses. No function of the program is named.
-/
import Derived.Test.YtgncjpakclbegaaYma
import Derived.Test.YtgncjpakclbegaaSz
namespace Poly
set_option linter.unusedVariables false

def stP (s : P2) : Bool := Pt.sv s.1 s.2
def tvV (L : List P2) : Bool := decide (1 ≤ L.length ∧ L.length ≤ 12) && L.all stP
def adP (p s : P2) : P2 := (p.1 + s.1, p.2 + s.2)
def wayT (p : P2) : List P2 → List P2
  | [] => [p]
  | s :: l => p :: wayT (adP p s) l
def endT (p : P2) : List P2 → P2
  | [] => p
  | s :: l => endT (adP p s) l
def xsT (L : List P2) : List Int := L.map (fun s => s.1)
def ysT (L : List P2) : List Int := L.map (fun s => s.2)
def absP (s : P2) : Int := (s.1.natAbs : Int) + (s.2.natAbs : Int)
def lensT (L : List P2) : List Int := L.map absP
def gapT (L : List P2) : P2 := (Go.Proofs.Ytgncjpakclbegaa.tot (xsT L), Go.Proofs.Ytgncjpakclbegaa.tot (ysT L))
def goT (p : P2) (L : List P2) : Bool := tvV L && (wayT p L).all pvP
noncomputable def clsT (L : List P2) : List P2 := (List.range L.length).map (fun i => (Go.Proofs.Ytgncjpakclbegaa.nth (Go.Proofs.Ytgncjpakclbegaa.rsh (lensT L) (xsT L)) i, Go.Proofs.Ytgncjpakclbegaa.nth (Go.Proofs.Ytgncjpakclbegaa.rsh (lensT L) (ysT L)) i))
noncomputable def clsOk (L : List P2) : Bool := tvV L && Go.Proofs.Ytgncjpakclbegaa.lenOk (lensT L) && tvV (clsT L)

variable {L : List P2} {p : P2}
theorem tvV_len (h : tvV L = true) : 1 ≤ L.length ∧ L.length ≤ 12 := by unfold tvV at h; simp at h; exact h.1
theorem tvV_mem (h : tvV L = true) {s : P2} (hs : s ∈ L) : stP s = true := by
  unfold tvV at h
  simp only [Bool.and_eq_true, List.all_eq_true] at h
  exact h.2 s hs
theorem stP_bd {s : P2} (h : stP s = true) : (-20000 ≤ s.1 ∧ s.1 ≤ 20000) ∧ -20000 ≤ s.2 ∧ s.2 ≤ 20000 := by
  have := Pt.sv_true h; omega
theorem tvV_at (h : tvV L = true) {i : Nat} (hi : i < L.length) : stP (cy L i) = true := tvV_mem h (List.mem_of_getElem? (cy_lt hi))
theorem tvV_of (h1 : 1 ≤ L.length) (h2 : L.length ≤ 12) (h : ∀ i, i < L.length → stP (cy L i) = true) : tvV L = true := by
  unfold tvV
  simp only [Bool.and_eq_true, List.all_eq_true, decide_eq_true_eq]
  refine ⟨⟨h1, h2⟩, fun s hs => ?_⟩
  obtain ⟨i, hi, rfl⟩ := List.mem_iff_getElem.1 hs
  have := cy_lt hi
  rw [List.getElem?_eq_getElem hi] at this
  injection this with this
  rw [this]
  exact h i hi
theorem tvV_no {i : Nat} (hi : i < L.length) (h : stP (cy L i) = false) : tvV L = false := by
  cases e : tvV L with
  | false => rfl
  | true => rw [tvV_at e hi] at h; cases h
theorem tvV_short (h : ¬ (1 ≤ L.length ∧ L.length ≤ 12)) : tvV L = false := by unfold tvV; rw [decide_eq_false h]; rfl
theorem wayT_len : ∀ (L : List P2) (p : P2), (wayT p L).length = L.length + 1
  | [], p => rfl
  | s :: l, p => by unfold wayT; simp [wayT_len l]
theorem xsT_len : (xsT L).length = L.length := List.length_map ..
theorem ysT_len : (ysT L).length = L.length := List.length_map ..
theorem lensT_len : (lensT L).length = L.length := List.length_map ..
theorem clsT_len : (clsT L).length = L.length := by simp [clsT]
theorem wayT_snoc : ∀ (L : List P2) (p s : P2), wayT p (L ++ [s]) = wayT p L ++ [adP (endT p L) s]
  | [], p, s => rfl
  | q :: l, p, s => by show p :: wayT (adP p q) (l ++ [s]) = p :: (wayT (adP p q) l ++ _); rw [wayT_snoc l]; rfl
theorem endT_snoc : ∀ (L : List P2) (p s : P2), endT p (L ++ [s]) = adP (endT p L) s
  | [], p, s => rfl
  | q :: l, p, s => endT_snoc l _ _
theorem endT_app : ∀ (L M : List P2) (p : P2), endT p (L ++ M) = endT (endT p L) M
  | [], M, p => rfl
  | q :: l, M, p => endT_app l M _
theorem wayT_last : ∀ (L : List P2) (p : P2), (wayT p L)[L.length]? = some (endT p L)
  | [], p => rfl
  | s :: l, p => by show (p :: wayT (adP p s) l)[l.length + 1]? = _; rw [List.getElem?_cons_succ]; exact wayT_last l _
theorem wayT_at : ∀ (L : List P2) (p : P2) (i : Nat), i ≤ L.length → (wayT p L)[i]? = some (endT p (L.take i))
  | [], p, i, h => by have : i = 0 := by simpa using h
                      subst this; rfl
  | s :: l, p, 0, h => rfl
  | s :: l, p, i + 1, h => by show (p :: wayT (adP p s) l)[i + 1]? = _; rw [List.getElem?_cons_succ]; exact wayT_at l _ i (by simpa using h)
theorem endT_gap : ∀ (L : List P2) (p : P2), endT p L = adP p (gapT L)
  | [], p => by unfold endT adP gapT; simp [xsT, ysT, Go.Proofs.Ytgncjpakclbegaa.tot]
  | s :: l, p => by
    show endT (adP p s) l = _
    rw [endT_gap l]
    unfold adP gapT xsT ysT
    simp only [List.map_cons, Go.Proofs.Ytgncjpakclbegaa.tot]
    rw [Int.add_assoc, Int.add_assoc]
theorem goT_parts (h : goT p L = true) : tvV L = true ∧ ∀ q ∈ wayT p L, pvP q = true := by
  unfold goT at h
  simp only [Bool.and_eq_true, List.all_eq_true] at h
  exact h
theorem goT_of (h : tvV L = true) (h' : ∀ q ∈ wayT p L, pvP q = true) : goT p L = true := by
  unfold goT
  simp only [Bool.and_eq_true, List.all_eq_true]
  exact ⟨h, h'⟩
theorem goT_at (h : goT p L = true) {i : Nat} (hi : i ≤ L.length) : pvP (endT p (L.take i)) = true := (goT_parts h).2 _ (List.mem_of_getElem? (wayT_at L p i hi))
theorem tot_bd {l : List Int} {b : Int} (h : ∀ z ∈ l, -b ≤ z ∧ z ≤ b) : -(b * l.length) ≤ Go.Proofs.Ytgncjpakclbegaa.tot l ∧ Go.Proofs.Ytgncjpakclbegaa.tot l ≤ b * l.length := by
  have h1 := Go.Proofs.Ytgncjpakclbegaa.tot_le (c := b) (fun z hz => (h z hz).2)
  have h2 := Go.Proofs.Ytgncjpakclbegaa.tot_ge (c := -b) (fun z hz => (h z hz).1)
  rw [Int.neg_mul] at h2
  exact ⟨h2, h1⟩
theorem xsT_bd (h : tvV L = true) : ∀ z ∈ xsT L, -20000 ≤ z ∧ z ≤ 20000 := fun z hz => by
  obtain ⟨s, hs, rfl⟩ := List.mem_map.1 hz
  exact (stP_bd (tvV_mem h hs)).1
theorem ysT_bd (h : tvV L = true) : ∀ z ∈ ysT L, -20000 ≤ z ∧ z ≤ 20000 := fun z hz => by
  obtain ⟨s, hs, rfl⟩ := List.mem_map.1 hz
  exact (stP_bd (tvV_mem h hs)).2
theorem lensT_bd (h : tvV L = true) : ∀ z ∈ lensT L, 0 ≤ z ∧ z ≤ 40000 := fun z hz => by
  obtain ⟨s, hs, rfl⟩ := List.mem_map.1 hz
  have := stP_bd (tvV_mem h hs)
  unfold absP
  omega
theorem gapT_bd (h : tvV L = true) : (-240000 ≤ (gapT L).1 ∧ (gapT L).1 ≤ 240000) ∧ -240000 ≤ (gapT L).2 ∧ (gapT L).2 ≤ 240000 := by
  have hl := tvV_len h
  have h1 := tot_bd (b := 20000) (xsT_bd h)
  have h2 := tot_bd (b := 20000) (ysT_bd h)
  rw [xsT_len] at h1
  rw [ysT_len] at h2
  unfold gapT
  simp only
  omega
theorem nth_map {f : P2 → Int} {i : Nat} (hi : i < L.length) : Go.Proofs.Ytgncjpakclbegaa.nth (L.map f) i = f (cy L i) := by
  refine Go.Proofs.Ytgncjpakclbegaa.nth_at ?_
  rw [List.getElem?_map, cy_lt hi]; rfl
theorem nth_xs {i : Nat} (hi : i < L.length) : Go.Proofs.Ytgncjpakclbegaa.nth (xsT L) i = (cy L i).1 := nth_map hi
theorem nth_ys {i : Nat} (hi : i < L.length) : Go.Proofs.Ytgncjpakclbegaa.nth (ysT L) i = (cy L i).2 := nth_map hi
theorem nth_lens {i : Nat} (hi : i < L.length) : Go.Proofs.Ytgncjpakclbegaa.nth (lensT L) i = absP (cy L i) := nth_map hi
theorem cy_cls {i : Nat} (hi : i < L.length) : cy (clsT L) i = (Go.Proofs.Ytgncjpakclbegaa.nth (Go.Proofs.Ytgncjpakclbegaa.rsh (lensT L) (xsT L)) i, Go.Proofs.Ytgncjpakclbegaa.nth (Go.Proofs.Ytgncjpakclbegaa.rsh (lensT L) (ysT L)) i) := by
  have h : (clsT L)[i]? = some (cy (clsT L) i) := cy_lt (by rw [clsT_len]; exact hi)
  have h2 : (clsT L)[i]? = some (Go.Proofs.Ytgncjpakclbegaa.nth (Go.Proofs.Ytgncjpakclbegaa.rsh (lensT L) (xsT L)) i, Go.Proofs.Ytgncjpakclbegaa.nth (Go.Proofs.Ytgncjpakclbegaa.rsh (lensT L) (ysT L)) i) := by
    unfold clsT
    rw [List.getElem?_map, List.getElem?_range hi]; rfl
  rw [h] at h2
  injection h2
end Poly
