/-
  The functions that the program makes matrices with: what each gives for both indexes.
-/
import Derived.Test.YthpfhbogpnhgmaaMp
namespace Go.Proofs.Ythpfhbogpnhgmaa
open Go.RowKit
set_option linter.unusedVariables false

theorem cCopied (b k c i j : Nat) (p : Option Addr) (L : List (List Int)) (w : World) (hc : w.cell? ⟨b, 0, none⟩ = some (.slice p k c)) (h : GRead w p L) (hs : Sq k L) (hi : i < k) (hj : j < k) :
    Calls Try.prog 62 #[.int .i64 i, .int .i64 j, .pointer (some ⟨b, 0, none⟩)] w fun e w' => e = .returned (.int .i64 (ent L i j)) ∧ w = w' := by
  obtain ⟨B, o, r, q, cq, rfl, hr, hB, e0, hcq, hI⟩ := h.at (i := i) (by rw [hs.1]; exact hi)
  have hrl := hs.2 r (List.mem_of_getElem? hr)
  rw [hrl] at e0
  obtain ⟨A, oA, z, rfl, hz, hA, e1⟩ := hI.at (i := j) (by rw [hrl]; exact hj)
  have hi' : (i : Int) < (k : Int) := by omega
  have hj' : (j : Int) < (k : Int) := by omega
  have HN : Hid (z = ent L i j) := Lib.hid (by unfold ent; rw [rowL_at hr, num_at hz])
  clear h hs hr hI hrl hz hcq
  go_enter Try.func62, Try.ntmps62
  go_wp2_with fail
  go_ret
  exact ⟨ret_int HN.out, rfl⟩
theorem cTurned (b k c i j : Nat) (p : Option Addr) (L : List (List Int)) (w : World) (hc : w.cell? ⟨b, 0, none⟩ = some (.slice p k c)) (h : GRead w p L) (hs : Sq k L) (hi : i < k) (hj : j < k) :
    Calls Try.prog 59 #[.int .i64 i, .int .i64 j, .pointer (some ⟨b, 0, none⟩)] w fun e w' => e = .returned (.int .i64 (trn (ent L) i j)) ∧ w = w' := by
  obtain ⟨B, o, r, q, cq, rfl, hr, hB, e0, hcq, hI⟩ := h.at (i := j) (by rw [hs.1]; exact hj)
  have hrl := hs.2 r (List.mem_of_getElem? hr)
  rw [hrl] at e0
  obtain ⟨A, oA, z, rfl, hz, hA, e1⟩ := hI.at (i := i) (by rw [hrl]; exact hi)
  have hi' : (i : Int) < (k : Int) := by omega
  have hj' : (j : Int) < (k : Int) := by omega
  have HN : Hid (z = trn (ent L) i j) := Lib.hid (by unfold trn ent; rw [rowL_at hr, num_at hz])
  clear h hs hr hI hrl hz hcq
  go_enter Try.func59, Try.ntmps59
  go_wp2_with fail
  go_ret
  exact ⟨ret_int HN.out, rfl⟩
theorem cTimes (b b2 k c c2 i j : Nat) (p p2 : Option Addr) (A C : List (List Int)) (w : World) (hc : w.cell? ⟨b, 0, none⟩ = some (.slice p k c)) (hc2 : w.cell? ⟨b2, 0, none⟩ = some (.slice p2 k c2)) (h : GRead w p A) (h2 : GRead w p2 C) (hs : Sq k A) (hs2 : Sq k C) (hk : k ≤ 5) (hm : SmE k 1000 (ent A)) (hm2 : SmE k 1000 (ent C)) (hi : i < k) (hj : j < k) :
    Calls Try.prog 60 #[.int .i64 i, .int .i64 j, .pointer (some ⟨b, 0, none⟩), .pointer (some ⟨b2, 0, none⟩)] w fun e w' => e = .returned (.int .i64 (smn k (fun t => ent A i t * ent C j t))) ∧ Below w.heap.size w w' := by
  obtain ⟨B, o, r, q, cq, rfl, hr, hB, e0, hcq, hI⟩ := h.at (i := i) (by rw [hs.1]; exact hi)
  have hrl := hs.2 r (List.mem_of_getElem? hr)
  rw [hrl] at e0
  obtain ⟨B2, o2, r2, q2, cq2, rfl, hr2, hB2, e2, hcq2, hI2⟩ := h2.at (i := j) (by rw [hs2.1]; exact hj)
  have hrl2 := hs2.2 r2 (List.mem_of_getElem? hr2)
  rw [hrl2] at e2
  have hi' : (i : Int) < (k : Int) := by omega
  have hj' : (j : Int) < (k : Int) := by omega
  have n1 : ∀ t, num r t = ent A i t := fun t => by unfold ent; rw [rowL_at hr]
  have n2 : ∀ t, num r2 t = ent C j t := fun t => by unfold ent; rw [rowL_at hr2]
  have hsum : smn k (fun t => num r t * num r2 t) = smn k (fun t => ent A i t * ent C j t) := sm_congr (fun t _ => by rw [n1, n2])
  have c1 := fun w h h2 => Lib.hid (iProductSum k cq cq2 q q2 r r2 w h h2 hrl hrl2 hk (fun t ht => by rw [n1]; exact hm i t hi ht) (fun t ht => by rw [n2]; have := hm2 j t hj ht; omega))
  rw [hsum] at c1
  have HI := Lib.hid (And.intro hI hI2)
  clear h hs hr hI hrl hcq h2 hs2 hr2 hI2 hrl2 hcq2 hm hm2 n1 n2 hsum
  go_enter Try.func60, Try.ntmps60
  go_wp2_with fail
  go_region_held3 (fun W => W.cell? ⟨b, 0, none⟩ = some (.slice (some ⟨B, o, none⟩) k c) ∧ W.cell? ⟨b2, 0, none⟩ = some (.slice (some ⟨B2, o2, none⟩) k c2) ∧ W.cell? ⟨B, o + i, none⟩ = some (.slice q k cq) ∧ W.cell? ⟨B2, o2 + j, none⟩ = some (.slice q2 k cq2)) (first | (go_keep; done))
    (first | (go_at_call 50; (with_reducible refine ((c1 _ ?_ ?_).out).mono ?_); (focus (exact HI.out.1; done)); (focus (exact HI.out.2; done)); rintro e w' ⟨rfl, rfl⟩))
  go_wp2_with fail
  go_ret
  exact ⟨rfl, below_drew (Below.refl _ _)⟩
end Go.Proofs.Ythpfhbogpnhgmaa
