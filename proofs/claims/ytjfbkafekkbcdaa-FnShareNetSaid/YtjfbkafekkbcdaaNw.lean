/-
  What NetWhole and NetLoops answer, in both programs.
-/
import Derived.Test.YtjfbkafekkbcdaaNr
namespace Go.Proofs.Ytjfbkafekkbcdaa
open Go.RowKit
set_option linter.unusedVariables false

theorem lab_exists (N : Nat) (rs : List Rn) : ∃ L, IsLab N rs L := by
  have key : ∀ k, k ≤ N → ∃ L : List Int, L.length = k ∧ ∀ i : Nat, i < k → Lst N rs i (htAt L i) := by
    intro k
    induction k with
    | zero => intro _; exact ⟨[], rfl, fun i h => by omega⟩
    | succ k ih =>
      intro hk
      obtain ⟨L, hl, hL⟩ := ih (by omega)
      obtain ⟨m, hm⟩ := Lst.exists N rs (i := (k : Int)) (by omega) (by omega)
      refine ⟨L ++ [m], by simp [hl], fun i hi => ?_⟩
      by_cases e : i = k
      · subst e
        have : htAt (L ++ [m]) i = m := by simp [htAt, ← hl]
        rw [this]; exact hm
      · have hlt : i < L.length := by omega
        have : htAt (L ++ [m]) i = htAt L i := by simp [htAt, List.getElem?_append_left hlt]
        rw [this]; exact hL i (by omega)
  obtain ⟨L, hl, hL⟩ := key N (Nat.le_refl _)
  exact ⟨L, by omega, fun i h0 h1 => by
    have := hL i.toNat (by omega)
    rwa [show ((i.toNat : Nat) : Int) = i by omega] at this⟩
theorem labs_is (N : Nat) (rs : List Rn) : IsLab N rs (labs N rs) := by
  obtain ⟨L, hL⟩ := lab_exists N rs
  rw [← labs_eq hL]; exact hL
theorem labs_len (N : Nat) (rs : List Rn) : (labs N rs).length = N := by have := (labs_is N rs).len; omega
theorem labs_pos {N : Nat} {rs : List Rn} {i : Nat} {z : Int} (h : (labs N rs)[i]? = some z) : 0 ≤ z ∧ z ≤ i := by
  have hlt := (List.getElem?_eq_some_iff.1 h).1
  rw [labs_len] at hlt
  have := (labs_is N rs).lst i (by omega) (by omega)
  rw [htAt_nat h] at this
  exact ⟨this.lo, this.le⟩

noncomputable def nWhole (n : Int) (rs : List Rn) : Bool := nOk n rs && (labs n rs).all (fun z => decide (z = 0))
def roots (L : List Int) : Nat → Nat
  | 0 => 0
  | k + 1 => roots L k + if htAt L k = k then 1 else 0
theorem roots_le (L : List Int) : ∀ k, roots L k ≤ k
  | 0 => Nat.le_refl _
  | k + 1 => by have := roots_le L k; simp only [roots]; split <;> omega
noncomputable def nLoops (n : Int) (rs : List Rn) : Int := if nOk n rs then rs.length - n + roots (labs n rs) n.toNat else -1

theorem all_zero {N : Nat} {rs : List Rn} {m : Int} (hm : m ∈ labs N rs) (hmax : ∀ x ∈ labs N rs, x ≤ m) : (labs N rs).all (fun z => decide (z = 0)) = decide (m = 0) := by
  by_cases h : m = 0
  · rw [decide_eq_true h, List.all_eq_true]
    intro x hx
    obtain ⟨i, hi⟩ := List.getElem?_of_mem hx
    have := labs_pos hi
    have := hmax x hx
    simp; omega
  · rw [decide_eq_false h, Bool.eq_false_iff]
    intro ha
    rw [List.all_eq_true] at ha
    have := ha m hm
    simp at this
    exact h this

set_option maxHeartbeats 1000000 in
theorem iWhole (n : Int) (p : Option Addr) (c : Nat) (rs : List Rn) (b : Bool) (w : World) (h : Runs w p rs) (hl : rs.length ≤ 4000000000000000000) (hb : nWhole n rs = b) :
    Calls Try.prog 58 #[.int .i64 n, .slice p rs.length c] w fun e w' => e = .returned (.bool b) ∧ Below w.heap.size w w' := by
  have H := Lib.hid h
  have HB := Lib.hid hb
  clear hb
  by_cases hn : nOk n rs = true
  · obtain ⟨a1, a2, -, -⟩ := nOk_true hn
    obtain ⟨N, rfl⟩ : ∃ N : Nat, n = (N : Int) := ⟨n.toNat, by omega⟩
    have c1 := fun w h => Lib.hid (iLinked_yes N p c rs w h hn)
    have hll := labs_len N rs
    have HZ : Hid (∀ m, m ∈ labs N rs → (∀ x ∈ labs N rs, x ≤ m) → b = decide (m = 0)) := Lib.hid (fun m h1 h2 => by rw [← HB.out, nWhole, hn, all_zero h1 h2]; rfl)
    generalize labs N rs = zs at c1 hll HZ
    have h0 : (0 : Int) < (zs.length : Int) := by omega
    have h6 : zs.length ≤ 1000000 := by omega
    clear h hn hll HB
    go_enter Try.func58, Try.ntmps58
    go_wp2_with (first | (go_at_call 69; (with_reducible refine ((c1 _ ?_).out).mono ?_); (focus ((exact H.out); done)); rintro e wl ⟨v, rfl, g, cap, rfl, hg, hown, hb_wl⟩; have hs_wl := hb_wl.size; (try simp at hs_wl)) | (go_at_call 70; (with_reducible refine (max_is _ _ zs _ ?_ ?_ h6).mono ?_); (focus (exact hown.ints; done)); (focus (omega; done)); rintro e w' ⟨⟨m, rfl, hm1, hm2⟩, rfl⟩; have hz := HZ.out m hm1 hm2; clear hm1 hm2))
    go_ret
    exact ⟨ret_bool (by rw [hz]; first | rfl | (by_cases e : m = 0 <;> simp [e])), (by repeat (first | assumption | exact Below.refl _ _ | (refine below_chain ?_ (by assumption) (by first | omega | (simp <;> omega) | simp)) | (refine Below.alloc ?_ (by first | omega | (simp <;> omega) | simp) _) | (apply below_drewN) | (apply below_drew) | (refine Below.setCell ?_ (by first | omega | (simp <;> omega) | simp) _)))⟩
  · have hn' : nOk n rs = false := by simpa using hn
    have e : b = false := by rw [← HB.out, nWhole, hn']; rfl
    have c1 := fun w h => Lib.hid (iLinked_no n p c rs w h hl hn')
    subst e
    clear h hn hn' HB
    go_enter Try.func58, Try.ntmps58
    go_wp2_with ((go_at_call 69; (with_reducible refine ((c1 _ ?_).out).mono ?_); (focus ((exact H.out); done)); rintro e wl ⟨⟨q, rfl⟩, hb_wl⟩; have hs_wl := hb_wl.size; (try simp at hs_wl)))
    go_ret
    exact ⟨rfl, (by repeat (first | assumption | exact Below.refl _ _ | (refine below_chain ?_ (by assumption) (by first | omega | (simp <;> omega) | simp)) | (refine Below.alloc ?_ (by first | omega | (simp <;> omega) | simp) _) | (apply below_drewN) | (apply below_drew) | (refine Below.setCell ?_ (by first | omega | (simp <;> omega) | simp) _)))⟩
end Go.Proofs.Ytjfbkafekkbcdaa
