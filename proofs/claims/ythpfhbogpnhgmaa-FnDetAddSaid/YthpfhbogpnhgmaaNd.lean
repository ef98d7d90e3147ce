/-
  Runs of a net as lists, and slices that hold them: what a slice value of runs, or of integers, reads as in a world, and that new memory does not change it. No function of the program is named.
-/
import Derived.Test.YthpfhbogpnhgmaaBase
import Derived.Maps.AppendAt
namespace Go.Proofs.Ythpfhbogpnhgmaa
set_option linter.unusedVariables false
open Go.RowKit

/-- a run: from, to, rise, weight -/
structure Rn where
  f : Int
  t : Int
  s : Int
  g : Int
deriving DecidableEq, Inhabited

def RunAt (w : World) (B o : Nat) (r : Rn) : Prop :=
  w.cell? ⟨B, o, none⟩ = some (.int .i64 r.f) ∧ w.cell? ⟨B, o + 1, none⟩ = some (.int .i64 r.t) ∧ w.cell? ⟨B, o + 2, none⟩ = some (.int .i64 r.s) ∧ w.cell? ⟨B, o + 3, none⟩ = some (.int .i64 r.g)
/-- the slice that begins at p holds the runs rs -/
def Runs (w : World) (p : Option Addr) (rs : List Rn) : Prop :=
  rs = [] ∨ ∃ B o, p = some ⟨B, o, none⟩ ∧ B < w.heap.size ∧ ∀ i r, rs[i]? = some r → RunAt w B (o + i * 4) r
/-- the slice that begins at p holds the integers zs -/
def Ints (w : World) (p : Option Addr) (zs : List Int) : Prop :=
  zs = [] ∨ ∃ B o, p = some ⟨B, o, none⟩ ∧ B < w.heap.size ∧ ∀ i z, zs[i]? = some z → w.cell? ⟨B, o + i, none⟩ = some (.int .i64 z)

/-- the two worlds hold the same in the blocks below B -/
theorem Runs.keep {w w' : World} {p : Option Addr} {rs : List Rn} (h : Runs w p rs) (hk : ∀ B o, p = some ⟨B, o, none⟩ → w'.heap[B]? = w.heap[B]?) (hs : w.heap.size ≤ w'.heap.size) : Runs w' p rs := by
  rcases h with rfl | ⟨B, o, rfl, hB, hc⟩
  · exact .inl rfl
  · refine .inr ⟨B, o, rfl, by omega, fun i r hi => ?_⟩
    have e := hk B o rfl
    obtain ⟨h1, h2, h3, h4⟩ := hc i r hi
    exact ⟨(World.cell?_of_block (a := ⟨B, _, none⟩) e).trans h1, (World.cell?_of_block (a := ⟨B, _, none⟩) e).trans h2, (World.cell?_of_block (a := ⟨B, _, none⟩) e).trans h3, (World.cell?_of_block (a := ⟨B, _, none⟩) e).trans h4⟩
theorem Ints.keep {w w' : World} {p : Option Addr} {zs : List Int} (h : Ints w p zs) (hk : ∀ B o, p = some ⟨B, o, none⟩ → w'.heap[B]? = w.heap[B]?) (hs : w.heap.size ≤ w'.heap.size) : Ints w' p zs := by
  rcases h with rfl | ⟨B, o, rfl, hB, hc⟩
  · exact .inl rfl
  · refine .inr ⟨B, o, rfl, by omega, fun i r hi => ?_⟩
    exact (World.cell?_of_block (a := ⟨B, _, none⟩) (hk B o rfl)).trans (hc i r hi)
theorem Runs.lt {w : World} {B o : Nat} {rs : List Rn} (h : Runs w (some ⟨B, o, none⟩) rs) (hne : rs ≠ []) : B < w.heap.size := by
  rcases h with rfl | ⟨B', o', e, hB, _⟩
  · exact absurd rfl hne
  · simp at e; obtain ⟨rfl, rfl⟩ := e; exact hB
/-- new memory alone -/
theorem Runs.below {w w' : World} {p : Option Addr} {rs : List Rn} (h : Runs w p rs) (hb : Below w.heap.size w w') : Runs w' p rs := by
  rcases h with rfl | ⟨B, o, rfl, hB, hc⟩
  · exact .inl rfl
  · exact Runs.keep (.inr ⟨B, o, rfl, hB, hc⟩) (fun B' o' e => by simp at e; obtain ⟨rfl, rfl⟩ := e; exact hb.block _ hB) hb.size
theorem Ints.below {w w' : World} {p : Option Addr} {zs : List Int} (h : Ints w p zs) (hb : Below w.heap.size w w') : Ints w' p zs := by
  rcases h with rfl | ⟨B, o, rfl, hB, hc⟩
  · exact .inl rfl
  · exact Ints.keep (.inr ⟨B, o, rfl, hB, hc⟩) (fun B' o' e => by simp at e; obtain ⟨rfl, rfl⟩ := e; exact hb.block _ hB) hb.size
theorem Runs.drewN {w : World} {p : Option Addr} {rs : List Rn} (h : Runs w p rs) (n : Nat) : Runs (w.drewN n) p rs := h
theorem Ints.drewN {w : World} {p : Option Addr} {zs : List Int} (h : Ints w p zs) (n : Nat) : Ints (w.drewN n) p zs := h
theorem Runs.alloc {w : World} {p : Option Addr} {rs : List Rn} (h : Runs w p rs) (o : Obj) : Runs (w.alloc o) p rs := h.below ((Below.refl _ _).alloc (Nat.le_refl _) _)
theorem Ints.alloc {w : World} {p : Option Addr} {zs : List Int} (h : Ints w p zs) (o : Obj) : Ints (w.alloc o) p zs := h.below ((Below.refl _ _).alloc (Nat.le_refl _) _)
/-- one block alone is written -/
theorem Runs.grown {w w' : World} {p : Option Addr} {rs : List Rn} {g : Nat} (h : Runs w p rs) (hg : w.grownBy w' (some g)) (hne : ∀ o, p ≠ some ⟨g, o, none⟩) : Runs w' p rs := by
  rcases h with rfl | ⟨B, o, rfl, hB, hc⟩
  · exact .inl rfl
  · exact Runs.keep (.inr ⟨B, o, rfl, hB, hc⟩) (fun B' o' e => by simp at e; obtain ⟨rfl, rfl⟩ := e; exact hg.block _ hB (fun e => by simp at e; subst e; exact hne _ rfl)) hg.size
theorem Ints.grown {w w' : World} {p : Option Addr} {zs : List Int} {g : Nat} (h : Ints w p zs) (hg : w.grownBy w' (some g)) (hne : ∀ o, p ≠ some ⟨g, o, none⟩) : Ints w' p zs := by
  rcases h with rfl | ⟨B, o, rfl, hB, hc⟩
  · exact .inl rfl
  · exact Ints.keep (.inr ⟨B, o, rfl, hB, hc⟩) (fun B' o' e => by simp at e; obtain ⟨rfl, rfl⟩ := e; exact hg.block _ hB (fun e => by simp at e; subst e; exact hne _ rfl)) hg.size
/-- at an index -/
theorem Runs.at {w : World} {p : Option Addr} {rs : List Rn} (h : Runs w p rs) {i : Nat} (hi : i < rs.length) : ∃ B o r, p = some ⟨B, o, none⟩ ∧ rs[i]? = some r ∧ B < w.heap.size ∧ RunAt w B (o + i * 4) r := by
  rcases h with rfl | ⟨B, o, rfl, hB, hc⟩
  · simp at hi
  · exact ⟨B, o, rs[i], rfl, by simp [hi], hB, hc i _ (by simp [hi])⟩
theorem Ints.at {w : World} {p : Option Addr} {zs : List Int} (h : Ints w p zs) {i : Nat} (hi : i < zs.length) : ∃ B o z, p = some ⟨B, o, none⟩ ∧ zs[i]? = some z ∧ B < w.heap.size ∧ w.cell? ⟨B, o + i, none⟩ = some (.int .i64 z) := by
  rcases h with rfl | ⟨B, o, rfl, hB, hc⟩
  · simp at hi
  · exact ⟨B, o, zs[i], rfl, by simp [hi], hB, hc i _ (by simp [hi])⟩
end Go.Proofs.Ythpfhbogpnhgmaa
