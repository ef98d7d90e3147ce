/-
  What NetValid answers, in both programs.
  What the reference model's NetValid answers.
  What NetFits answers, in both programs.
  What the reference model's NetFits answers.
  What NetBack answers, in both programs; a clone of a list of runs.
  How the laws copy runs and integers, mark what is theirs and look whether it holds.
-/
import Derived.Test.YtgncjpakclbegaaZa
import Derived.Deep.Draws
import Derived.Laws.Cover3
namespace Go.Proofs.Ytgncjpakclbegaa
open Go.RowKit
set_option linter.unusedVariables false

theorem runs_cell {w : World} {B o : Nat} {r : Rn} (h : RunAt w B o r) : w.cell? ⟨B, o, none⟩ = some (.int .i64 r.f) ∧ w.cell? ⟨B, o + 1, none⟩ = some (.int .i64 r.t) ∧ w.cell? ⟨B, o + 2, none⟩ = some (.int .i64 r.s) ∧ w.cell? ⟨B, o + 3, none⟩ = some (.int .i64 r.g) := h

end Go.Proofs.Ytgncjpakclbegaa
namespace Go.Proofs.Ytgncjpakclbegaa
open Go.RowKit
set_option linter.unusedVariables false

theorem rOk_parts {n : Int} {r : Rn} {b : Bool} (h : rOk n r = b) :
    (¬ (0 ≤ r.f ∧ r.f ≤ n - 1) ∧ b = false) ∨ ((0 ≤ r.f ∧ r.f ≤ n - 1) ∧ ¬ (0 ≤ r.t ∧ r.t ≤ n - 1) ∧ b = false) ∨ ((0 ≤ r.f ∧ r.f ≤ n - 1) ∧ (0 ≤ r.t ∧ r.t ≤ n - 1) ∧ r.f = r.t ∧ b = false) ∨
    ((0 ≤ r.f ∧ r.f ≤ n - 1) ∧ (0 ≤ r.t ∧ r.t ≤ n - 1) ∧ r.f ≠ r.t ∧ ¬ (-100000 ≤ r.s ∧ r.s ≤ 100000) ∧ b = false) ∨
    ((0 ≤ r.f ∧ r.f ≤ n - 1) ∧ (0 ≤ r.t ∧ r.t ≤ n - 1) ∧ r.f ≠ r.t ∧ (-100000 ≤ r.s ∧ r.s ≤ 100000) ∧ ¬ (1 ≤ r.g ∧ r.g ≤ 9) ∧ b = false) ∨
    ((0 ≤ r.f ∧ r.f ≤ n - 1) ∧ (0 ≤ r.t ∧ r.t ≤ n - 1) ∧ r.f ≠ r.t ∧ (-100000 ≤ r.s ∧ r.s ≤ 100000) ∧ (1 ≤ r.g ∧ r.g ≤ 9) ∧ b = true) := by
  cases b
  · have : ¬ (0 ≤ r.f ∧ r.f < n ∧ 0 ≤ r.t ∧ r.t < n ∧ r.f ≠ r.t ∧ -100000 ≤ r.s ∧ r.s ≤ 100000 ∧ 1 ≤ r.g ∧ r.g ≤ 9) := by
      rintro ⟨h1, h2, h3, h4, h5, h6, h7, h8, h9⟩
      rw [rOk_of h1 h2 h3 h4 h5 h6 h7 h8 h9] at h; cases h
    simp; omega
  · have := rOk_true h
    simp; omega

end Go.Proofs.Ytgncjpakclbegaa
namespace Go.Proofs.Ytgncjpakclbegaa
open Go.RowKit
set_option linter.unusedVariables false

def hOk (z : Int) : Bool := decide (-1000000 ≤ z ∧ z ≤ 1000000)
def htOk (n : Int) (hs : List Int) : Bool := decide ((hs.length : Int) = n) && hs.all hOk
/-- the height at a node -/
def htAt (hs : List Int) (i : Int) : Int := (hs[i.toNat]?).getD 0
def fitR (hs : List Int) (r : Rn) : Bool := decide (htAt hs r.t - htAt hs r.f = r.s)
def nFits (n : Int) (rs : List Rn) (hs : List Int) : Bool := nOk n rs && htOk n hs && rs.all (fitR hs)

theorem htOk_true {n : Int} {hs : List Int} (h : htOk n hs = true) : (hs.length : Int) = n ∧ ∀ (i : Nat) (z : Int), hs[i]? = some z → -1000000 ≤ z ∧ z ≤ 1000000 := by
  simp [htOk, hOk] at h
  exact ⟨h.1, fun i z hi => h.2 z (List.mem_of_getElem? hi)⟩
theorem htOk_of {n : Int} {hs : List Int} (h1 : (hs.length : Int) = n) (h2 : ∀ (i : Nat) (z : Int), i < hs.length → hs[i]? = some z → hOk z = true) : htOk n hs = true := by
  simp only [htOk, h1, decide_true, Bool.true_and, List.all_eq_true]
  intro z hz
  obtain ⟨i, hi⟩ := List.getElem?_of_mem hz
  exact h2 i z (List.getElem?_eq_some_iff.1 hi).1 hi
theorem htOk_no {n : Int} {hs : List Int} {i : Nat} {z : Int} (hi : hs[i]? = some z) (h : hOk z = false) : htOk n hs = false := by
  rw [Bool.eq_false_iff]; intro hn
  simp only [htOk, Bool.and_eq_true, List.all_eq_true] at hn
  rw [hn.2 z (List.mem_of_getElem? hi)] at h; cases h
def htTo (hs : List Int) (k : Nat) : Prop := ∀ (i : Nat) (z : Int), i < k → hs[i]? = some z → hOk z = true
theorem htTo_succ {hs : List Int} {k : Nat} {z : Int} (h : htTo hs k) (hz : hs[k]? = some z) (hk : hOk z = true) : htTo hs (k + 1) := fun i z' hi hz' => by
  by_cases e : i = k
  · subst e; rw [hz] at hz'; cases hz'; exact hk
  · exact h i z' (by omega) hz'
def fitTo (hs : List Int) (rs : List Rn) (k : Nat) : Prop := ∀ (i : Nat) (r : Rn), i < k → rs[i]? = some r → fitR hs r = true
theorem fitTo_succ {hs : List Int} {rs : List Rn} {k : Nat} {r : Rn} (h : fitTo hs rs k) (hr : rs[k]? = some r) (hk : fitR hs r = true) : fitTo hs rs (k + 1) := fun i r' hi hr' => by
  by_cases e : i = k
  · subst e; rw [hr] at hr'; cases hr'; exact hk
  · exact h i r' (by omega) hr'
theorem nFits_of {n : Int} {rs : List Rn} {hs : List Int} (h1 : nOk n rs = true) (h2 : htOk n hs = true) (h3 : fitTo hs rs rs.length) : nFits n rs hs = true := by
  simp only [nFits, h1, h2, Bool.true_and, List.all_eq_true]
  intro r hr
  obtain ⟨i, hi⟩ := List.getElem?_of_mem hr
  exact h3 i r (List.getElem?_eq_some_iff.1 hi).1 hi
theorem nFits_true {n : Int} {rs : List Rn} {hs : List Int} (h : nFits n rs hs = true) : nOk n rs = true ∧ htOk n hs = true ∧ ∀ (i : Nat) (r : Rn), rs[i]? = some r → htAt hs r.t - htAt hs r.f = r.s := by
  simp only [nFits, Bool.and_eq_true, List.all_eq_true] at h
  exact ⟨h.1.1, h.1.2, fun i r hi => by simpa [fitR] using h.2 r (List.mem_of_getElem? hi)⟩
theorem nFits_no {n : Int} {rs : List Rn} {hs : List Int} {i : Nat} {r : Rn} (hi : rs[i]? = some r) (h : fitR hs r = false) : nFits n rs hs = false := by
  rw [Bool.eq_false_iff]; intro hn
  have := (nFits_true hn).2.2 i r hi
  simp [fitR] at h; omega
theorem nFits_noH {n : Int} {rs : List Rn} {hs : List Int} (h : htOk n hs = false) : nFits n rs hs = false := by simp [nFits, h]
theorem nFits_noN {n : Int} {rs : List Rn} {hs : List Int} (h : nOk n rs = false) : nFits n rs hs = false := by simp [nFits, h]

theorem node_nat {n : Int} {hs : List Int} {x : Int} (hh : htOk n hs = true) (h0 : 0 ≤ x) (h1 : x < n) : ∃ (k : Nat) (z : Int), x = (k : Int) ∧ k < hs.length ∧ hs[k]? = some z ∧ -1000000 ≤ z ∧ z ≤ 1000000 ∧ htAt hs x = z := by
  obtain ⟨hl, hz⟩ := htOk_true hh
  have hlt : x.toNat < hs.length := by omega
  have e : hs[x.toNat]? = some hs[x.toNat] := List.getElem?_eq_getElem hlt
  obtain ⟨a, b⟩ := hz _ _ e
  exact ⟨x.toNat, _, by omega, hlt, e, a, b, by unfold htAt; rw [e]; rfl⟩

end Go.Proofs.Ytgncjpakclbegaa
namespace Go.Proofs.Ytgncjpakclbegaa
open Go.RowKit
set_option linter.unusedVariables false

end Go.Proofs.Ytgncjpakclbegaa
namespace Go.Proofs.Ytgncjpakclbegaa
open Go.RowKit
set_option linter.unusedVariables false

def turnR (r : Rn) : Rn := ⟨r.t, r.f, -r.s, r.g⟩
theorem runs_cells {w : World} {B o : Nat} {rs : List Rn} (h : Runs w (some ⟨B, o, none⟩) rs) : ∀ (j : Nat) (z : Int), (flat rs)[j]? = some z → w.cell? ((⟨B, o, none⟩ : Addr).add j) = some (.int .i64 z) := by
  rcases h with rfl | ⟨B', o', e, hB, hc⟩
  · intro j z h; simp [flat] at h
  · simp at e
    obtain ⟨rfl, rfl⟩ := e
    intro j z hj
    rw [Go.WideShapes.add_plain]
    have hlt : j < rs.length * 4 := by have := (List.getElem?_eq_some_iff.1 hj).1; rw [flat_len] at this; exact this
    have hi : j / 4 < rs.length := by omega
    obtain ⟨x0, x1, x2, x3⟩ := hc (j / 4) _ (List.getElem?_eq_getElem hi)
    obtain ⟨y0, y1, y2, y3⟩ := flat_at (List.getElem?_eq_getElem hi)
    rcases (show j % 4 = 0 ∨ j % 4 = 1 ∨ j % 4 = 2 ∨ j % 4 = 3 by omega) with e | e | e | e
    · have ej : j = j / 4 * 4 := by omega
      rw [ej] at hj ⊢; rw [y0] at hj; cases hj; exact x0
    · have ej : j = j / 4 * 4 + 1 := by omega
      rw [ej] at hj ⊢; rw [y1] at hj; cases hj; exact x1
    · have ej : j = j / 4 * 4 + 2 := by omega
      rw [ej] at hj ⊢; rw [y2] at hj; cases hj; exact x2
    · have ej : j = j / 4 * 4 + 3 := by omega
      rw [ej] at hj ⊢; rw [y3] at hj; cases hj; exact x3

theorem hasRun_nat {rs : List Rn} {k : Int} (h : 0 ≤ k ∧ k < rs.length) : ∃ (j : Nat) (r : Rn), k = (j : Int) ∧ j < rs.length ∧ rs[j]? = some r :=
  ⟨k.toNat, rs[k.toNat]'(by omega), by omega, by omega, List.getElem?_eq_getElem (by omega)⟩

end Go.Proofs.Ytgncjpakclbegaa
namespace Go.Proofs.Ytgncjpakclbegaa
open Go.RowKit
set_option linter.unusedVariables false

/-- the first j of the cells marked from 1 on -/
def mk (j : Nat) (xs : List Int) : List Int := (List.range j).map (fun (i : Nat) => 1 + (i : Int)) ++ xs.drop j
theorem mk_zero (xs : List Int) : mk 0 xs = xs := by simp [mk]
theorem mk_len {j : Nat} {xs : List Int} (h : j ≤ xs.length) : (mk j xs).length = xs.length := by simp [mk]; omega
theorem mk_set {j : Nat} {xs : List Int} (h : j < xs.length) : (mk j xs).set j (1 + (j : Int)) = mk (j + 1) xs := by
  unfold mk
  rw [List.set_append_right _ _ (by simp), List.range_succ, List.map_append, List.append_assoc]
  congr 1
  rw [List.drop_eq_getElem_cons h, show j - ((List.range j).map (fun (i : Nat) => 1 + (i : Int))).length = 0 by simp]
  rfl
theorem mk_at {j n : Nat} {xs : List Int} (h : xs.length = n) (hj : j < n) : (mk n xs)[j]? = some (1 + (j : Int)) := by
  unfold mk
  rw [List.getElem?_append_left (by simpa using hj)]
  simp [hj]
theorem mk4_at {k n : Nat} {xs : List Int} (h : xs.length = n * 4) (hk : k < n) : (mk (n * 4) xs)[k * 4]? = some (1 + (k : Int) * 4) ∧ (mk (n * 4) xs)[k * 4 + 1]? = some (1 + (k : Int) * 4 + 1) ∧ (mk (n * 4) xs)[k * 4 + 2]? = some (1 + (k : Int) * 4 + 1 + 1) ∧ (mk (n * 4) xs)[k * 4 + 3]? = some (1 + (k : Int) * 4 + 1 + 1 + 1) := by
  refine ⟨?_, ?_, ?_, ?_⟩ <;> rw [mk_at h (by omega)] <;> congr 1 <;> omega
end Go.Proofs.Ytgncjpakclbegaa
