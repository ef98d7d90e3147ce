/-
  What BearingTurn answers in both programs: the bearing turned as many times as k leaves when divided by 4.
-/
import Derived.Test.YtigmhhdbldlgaaaBa
import Derived.Test.YtigmhhdbldlgaaaBs
import Derived.Test.YtigmhhdbldlgaaaTwo
import Derived.Laws.BitsLemmas
namespace Go.Proofs.Ytigmhhdbldlgaaa
open Go.RowKit
set_option linter.unusedVariables false

theorem and3 (k : Int) (h : -9223372036854775808 ≤ k) (h' : k ≤ 9223372036854775807) : bits .and .i64 k 3 = k % 4 := by
  have e : (BitVec.ofInt 64 k &&& BitVec.ofInt 64 3) = BitVec.ofInt 64 (k % 4) := by
    have e3 : BitVec.ofInt 64 3 = (BitVec.allOnes 2).zeroExtend 64 := by decide
    rw [e3]
    apply BitVec.eq_of_toNat_eq
    rw [BitVec.toNat_and]
    have : ((BitVec.allOnes 2).zeroExtend 64).toNat = 2 ^ 2 - 1 := by decide
    rw [this, Nat.and_two_pow_sub_one_eq_mod]
    simp only [BitVec.toNat_ofInt]
    omega
  show IntKind.i64.wrap ((BitVec.ofInt 64 k &&& BitVec.ofInt 64 3).toNat : Int) = _
  rw [e]
  simp only [BitVec.toNat_ofInt]
  rw [IntWalk.i64_in _ (by omega)]
  omega

theorem iTurn_no (x y k : Int) (w : World) (h : Pt.br x y = false) :
    Calls Try.prog 37 #[.agg #[.int .i64 x, .int .i64 y], .int .i64 k] w fun e w' => e = .returned (.tuple #[.agg #[.int .i64 0, .int .i64 0], .bool false]) ∧ Below w.heap.size w w' := by
  have c1 := fun w => Lib.hid (bplace_nob x y w h)
  clear h
  go_enter Try.func37, Try.ntmps37
  go_wp2_with ((go_at_call 68; (with_reducible refine ((c1 _).out).mono ?_); rintro e wn ⟨rfl, hbn⟩; obtain ⟨hcn, hfn⟩ := bcell hbn; (try simp only [World.size_drew, World.cell?_drew, World.frozen?_drew, World.heap_drewN, World.cell?_drewN, World.frozen?_drewN] at hcn hfn); have hsz := hbn.size; (try simp at hsz); (try have hsl := Nat.lt_of_succ_le hsz); (try have hz0 : w.heap.size < wn.heap.size := (by have := hbn.size; (try simp at this); omega)); (try have hz1 : w.heap.size + 1 < wn.heap.size := (by have := hbn.size; (try simp at this); omega))))
  exact bodyPost_ret (v := .tuple #[.agg #[.int .i64 0, .int .i64 0], .bool false]) (by simp [results, Try.results37, go_sem, *]) rfl ⟨rfl, (by repeat (first | assumption | exact Below.refl _ _ | (refine below_chain ?_ (by assumption) (by first | omega | (simp <;> omega) | simp)) | (refine Below.alloc ?_ (by first | omega | (simp <;> omega) | simp) _) | (apply below_drewN) | (apply below_drew) | (refine Below.setCell ?_ (by first | omega | (simp <;> omega) | simp) _)))⟩
theorem sTurn_no (x y k : Int) (w : World) (h : Pt.br x y = false) :
    Calls Try.prog 38 #[.agg #[.int .i64 x, .int .i64 y], .int .i64 k] w fun e w' => e = .returned (.tuple #[.agg #[.int .i64 0, .int .i64 0], .bool false]) ∧ Below w.heap.size w w' := by
  have c1 := fun w => Lib.hid (l3b_is x y _ w h)
  clear h
  go_enter Try.func38, Try.ntmps38
  go_wp2_with ((go_at_call 72; (with_reducible refine ((c1 _).out).mono ?_); rintro e wn ⟨rfl, hbn⟩; obtain ⟨hcn, hfn⟩ := bcell hbn; (try simp only [World.size_drew, World.cell?_drew, World.frozen?_drew, World.heap_drewN, World.cell?_drewN, World.frozen?_drewN] at hcn hfn); have hsz := hbn.size; (try simp at hsz); (try have hsl := Nat.lt_of_succ_le hsz); (try have hz0 : w.heap.size < wn.heap.size := (by have := hbn.size; (try simp at this); omega)); (try have hz1 : w.heap.size + 1 < wn.heap.size := (by have := hbn.size; (try simp at this); omega))))
  exact bodyPost_ret (v := .tuple #[.agg #[.int .i64 0, .int .i64 0], .bool false]) (by simp [results, Try.results38, go_sem, *]) rfl ⟨rfl, (by repeat (first | assumption | exact Below.refl _ _ | (refine below_chain ?_ (by assumption) (by first | omega | (simp <;> omega) | simp)) | (refine Below.alloc ?_ (by first | omega | (simp <;> omega) | simp) _) | (apply below_drewN) | (apply below_drew) | (refine Below.setCell ?_ (by first | omega | (simp <;> omega) | simp) _)))⟩
theorem rot_eta (p : Int × Int) : (p.1, p.2) = p := rfl
set_option maxHeartbeats 800000 in
theorem iTurn_yes (x y k : Int) (n : Nat) (w : World) (h : Pt.br x y = true) (hk : -9223372036854775808 ≤ k) (hk' : k ≤ 9223372036854775807) (hn : n = (k % 4).toNat) :
    Calls Try.prog 37 #[.agg #[.int .i64 x, .int .i64 y], .int .i64 k] w fun e w' => e = .returned (.tuple #[.agg #[.int .i64 (Pt.rot n x y).1, .int .i64 (Pt.rot n x y).2], .bool true]) ∧ Below w.heap.size w w' := by
  have c1 := fun w => Lib.hid (bplace_is x y w h)
  have ct := fun j w => Lib.hid (turned_any _ _ w (Pt.rot_sv (Pt.br_true h).1 j))
  have ke : bits .and .i64 k 3 = (n : Int) := by rw [and3 k hk hk', hn]; omega
  have hn4 : n < 4 := by omega
  clear h hn hk hk'
  go_enter Try.func37, Try.ntmps37
  go_wp2_with ((go_at_call 68; (with_reducible refine ((c1 _).out).mono ?_); rintro e wn ⟨rfl, hbn⟩; obtain ⟨hcn, hfn⟩ := bcell hbn; (try simp only [World.size_drew, World.cell?_drew, World.frozen?_drew, World.heap_drewN, World.cell?_drewN, World.frozen?_drewN] at hcn hfn); have hsz := hbn.size; (try simp at hsz); (try have hsl := Nat.lt_of_succ_le hsz); (try have hz0 : w.heap.size < wn.heap.size := (by have := hbn.size; (try simp at this); omega)); (try have hz1 : w.heap.size + 1 < wn.heap.size := (by have := hbn.size; (try simp at this); omega))))
  clear ke
  have hB : Below w.heap.size w wn := (by repeat (first | assumption | exact Below.refl _ _ | (refine below_chain ?_ (by assumption) (by first | omega | (simp <;> omega) | simp)) | (refine Below.alloc ?_ (by first | omega | (simp <;> omega) | simp) _) | (apply below_drewN) | (apply below_drew) | (refine Below.setCell ?_ (by first | omega | (simp <;> omega) | simp) _)))
  go_loopw [18] (fun i wr => ∃ j : Nat, j ≤ n ∧ i = .int .i64 j ∧ Two 56 wr wn.heap.size (Pt.rot j x y).1 (Pt.rot j x y).2 ∧ Below wn.heap.size wn wr) (fun i _ => n - (intOf i).toNat)
  case atStart => exact ⟨0, Nat.zero_le _, rfl, Two.new _ _ _, (by repeat (first | assumption | exact Below.refl _ _ | (refine below_chain ?_ (by assumption) (by first | omega | (simp <;> omega) | simp)) | (refine Below.alloc ?_ (by first | omega | (simp <;> omega) | simp) _) | (apply below_drewN) | (apply below_drew) | (refine Below.setCell ?_ (by first | omega | (simp <;> omega) | simp) _)))⟩
  case round =>
    obtain ⟨j, hj, rfl, h2, hb⟩ := hrel
    have hbs := hb.size
    obtain ⟨hcw, hfw⟩ := bcell hb
    have hq0 : w.heap.size < wr.heap.size := by omega
    have hq1 : w.heap.size + 1 < wr.heap.size := by omega
    have k0 := h2.c0
    have k1 := h2.c1
    have f0 := h2.f0
    have f1 := h2.f1
    have hlt := h2.lt
    by_cases hlt : j < n
    · go_wp2_with ((go_at_call 71; (with_reducible refine ((ct j _).out).mono ?_); rintro e wt ⟨rfl, hbn⟩; obtain ⟨hcn, hfn⟩ := bcell hbn; (try simp only [World.size_drew, World.cell?_drew, World.frozen?_drew, World.heap_drewN, World.cell?_drewN, World.frozen?_drewN] at hcn hfn); have hsz := hbn.size; (try simp at hsz); (try have hsl := Nat.lt_of_succ_le hsz); (try have hz0 : wt.heap.size < wt.heap.size := (by have := hbn.size; (try simp at this); omega))))
      go_roundw
      case rel => exact ⟨j + 1, by omega, by go_num, (h2.below hbn).set _ _, (by repeat (first | assumption | exact Below.refl _ _ | (refine below_chain ?_ (by assumption) (by first | omega | (simp <;> omega) | simp)) | (refine Below.alloc ?_ (by first | omega | (simp <;> omega) | simp) _) | (apply below_drewN) | (apply below_drew) | (refine Below.setCell ?_ (by first | omega | (simp <;> omega) | simp) _)))⟩
      case measure => simp [intOf]; omega
    · have e : j = n := by omega
      subst e
      go_wp2_with ((go_at_call 52; (with_reducible refine (point_any _ _ _).mono ?_); rintro e wp ⟨rfl, hbn⟩; obtain ⟨hcn, hfn⟩ := bcell hbn; (try simp only [World.size_drew, World.cell?_drew, World.frozen?_drew, World.heap_drewN, World.cell?_drewN, World.frozen?_drewN] at hcn hfn); have hsz := hbn.size; (try simp at hsz); (try have hsl := Nat.lt_of_succ_le hsz); (try have hz0 : w.heap.size < wp.heap.size := (by have := hbn.size; (try simp at this); omega)); (try have hz1 : w.heap.size + 1 < wp.heap.size := (by have := hbn.size; (try simp at this); omega)); (try have hz2 : wp.heap.size < wp.heap.size := (by have := hbn.size; (try simp at this); omega))))
      exact bodyPost_ret (v := .tuple #[.agg #[.int .i64 (Pt.rot j x y).1, .int .i64 (Pt.rot j x y).2], .bool true]) (by simp [results, Try.results37, go_sem, *]) rfl ⟨rfl, (by repeat (first | assumption | exact Below.refl _ _ | (refine below_chain ?_ (by assumption) (by first | omega | (simp <;> omega) | simp)) | (refine Below.alloc ?_ (by first | omega | (simp <;> omega) | simp) _) | (apply below_drewN) | (apply below_drew) | (refine Below.setCell ?_ (by first | omega | (simp <;> omega) | simp) _)))⟩
set_option maxHeartbeats 800000 in
theorem sTurn_yes (x y k : Int) (n : Nat) (w : World) (h : Pt.br x y = true) (hk : -9223372036854775808 ≤ k) (hk' : k ≤ 9223372036854775807) (hn : n = (k % 4).toNat) :
    Calls Try.prog 38 #[.agg #[.int .i64 x, .int .i64 y], .int .i64 k] w fun e w' => e = .returned (.tuple #[.agg #[.int .i64 (Pt.rot n x y).1, .int .i64 (Pt.rot n x y).2], .bool true]) ∧ Below w.heap.size w w' := by
  have c1 := fun w => Lib.hid (l3b_is x y _ w h)
  have cs := fun j => Pt.sv_true (Pt.rot_sv (Pt.br_true h).1 j)
  have hn4 : n < 4 := by omega
  have hm1 : -4 < k.tmod 4 := Int.lt_tmod_of_pos k (by decide)
  have hm2 : k.tmod 4 < 4 := Int.tmod_lt_of_pos k (by decide)
  have hd := Int.mul_tdiv_add_tmod k 4
  have hkn := Lib.hid (show k.tmod 4 % 4 = (n : Int) by omega)
  have hcs := Lib.hid cs
  clear h hn hk hk' cs hd
  go_enter Try.func38, Try.ntmps38
  go_wp2_with ((go_at_call 72; (with_reducible refine ((c1 _).out).mono ?_); rintro e wn ⟨rfl, hbn⟩; obtain ⟨hcn, hfn⟩ := bcell hbn; (try simp only [World.size_drew, World.cell?_drew, World.frozen?_drew, World.heap_drewN, World.cell?_drewN, World.frozen?_drewN] at hcn hfn); have hsz := hbn.size; (try simp at hsz); (try have hsl := Nat.lt_of_succ_le hsz); (try have hz0 : w.heap.size < wn.heap.size := (by have := hbn.size; (try simp at this); omega)); (try have hz1 : w.heap.size + 1 < wn.heap.size := (by have := hbn.size; (try simp at this); omega))))
  have hB : Below w.heap.size w wn := (by repeat (first | assumption | exact Below.refl _ _ | (refine below_chain ?_ (by assumption) (by first | omega | (simp <;> omega) | simp)) | (refine Below.alloc ?_ (by first | omega | (simp <;> omega) | simp) _) | (apply below_drewN) | (apply below_drew) | (refine Below.setCell ?_ (by first | omega | (simp <;> omega) | simp) _)))
  go_loopw [7] (fun i wr => ∃ j : Nat, j ≤ n ∧ i = .int .i64 j ∧ Two 24 wr wn.heap.size (Pt.rot j x y).1 (Pt.rot j x y).2 ∧ Below wn.heap.size wn wr) (fun i _ => n - (intOf i).toNat)
  case atStart => exact ⟨0, Nat.zero_le _, rfl, Two.new _ _ _, (by repeat (first | assumption | exact Below.refl _ _ | (refine below_chain ?_ (by assumption) (by first | omega | (simp <;> omega) | simp)) | (refine Below.alloc ?_ (by first | omega | (simp <;> omega) | simp) _) | (apply below_drewN) | (apply below_drew) | (refine Below.setCell ?_ (by first | omega | (simp <;> omega) | simp) _)))⟩
  case round =>
    obtain ⟨j, hj, rfl, h2, hb⟩ := hrel
    have hbs := hb.size
    obtain ⟨hcw, hfw⟩ := bcell hb
    have hq0 : w.heap.size < wr.heap.size := by omega
    have hq1 : w.heap.size + 1 < wr.heap.size := by omega
    have k0 := h2.c0
    have k1 := h2.c1
    have f0 := h2.f0
    have f1 := h2.f1
    have hlt := h2.lt
    obtain ⟨s1, s2, s3, s4⟩ := hcs.out j
    by_cases hlt : j < n
    · have hlt' : (j : Int) < k.tmod 4 % 4 := by rw [hkn.out]; omega
      go_wp2_with fail
      go_roundw
      case rel => exact ⟨j + 1, by omega, by go_num, h2.set _ _, (by repeat (first | assumption | exact Below.refl _ _ | (refine below_chain ?_ (by assumption) (by first | omega | (simp <;> omega) | simp)) | (refine Below.alloc ?_ (by first | omega | (simp <;> omega) | simp) _) | (apply below_drewN) | (apply below_drew) | (refine Below.setCell ?_ (by first | omega | (simp <;> omega) | simp) _)))⟩
      case measure => simp [intOf]; omega
    · have hlt' : ¬ (j : Int) < k.tmod 4 % 4 := by rw [hkn.out]; omega
      have e : j = n := by omega
      subst e
      go_wp2_with fail
      exact bodyPost_ret (v := .tuple #[.agg #[.int .i64 (Pt.rot j x y).1, .int .i64 (Pt.rot j x y).2], .bool true]) (by simp [results, Try.results38, go_sem, *]) rfl ⟨rfl, (by repeat (first | assumption | exact Below.refl _ _ | (refine below_chain ?_ (by assumption) (by first | omega | (simp <;> omega) | simp)) | (refine Below.alloc ?_ (by first | omega | (simp <;> omega) | simp) _) | (apply below_drewN) | (apply below_drew) | (refine Below.setCell ?_ (by first | omega | (simp <;> omega) | simp) _)))⟩
end Go.Proofs.Ytigmhhdbldlgaaa
