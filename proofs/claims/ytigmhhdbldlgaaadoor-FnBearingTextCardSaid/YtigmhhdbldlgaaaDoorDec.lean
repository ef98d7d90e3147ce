import Derived.Test.YtigmhhdbldlgaaaDoorBase
import Derived.Test.YtigmhhdbldlgaaaDoorQa
import Derived.Lib.ItoaNum
import Derived.Laws.IdiomStrings
import Derived.WalkSpells
namespace Go.Proofs.YtigmhhdbldlgaaaDoor
open Go.RowKit

theorem itoa_small {n : Int} (h0 : 0 ≤ n) (h9 : n < 10) : Lib.itoa n = [UInt8.ofNat (48 + n).toNat] := by
  unfold Lib.itoa
  rw [if_neg (by omega), Lib.decDigits, dif_pos (by omega)]
  congr 2; omega
theorem itoa_big {n : Int} (h : 10 ≤ n) : Lib.itoa n = Lib.itoa (n / 10) ++ [UInt8.ofNat (48 + n % 10).toNat] := by
  have h1 : ¬ n < 0 := by omega
  have h2 : ¬ n / 10 < 0 := by omega
  unfold Lib.itoa
  rw [if_neg h1, if_neg h2, Lib.decDigits, dif_neg (by omega), show n.toNat / 10 = (n / 10).toNat by omega, show 48 + n.toNat % 10 = (48 + n % 10).toNat by omega]
theorem itoa_neg {n : Int} (h : n < 0) : Lib.itoa n = 45 :: Lib.itoa (-n) := by
  have h2 : ¬ -n < 0 := by omega
  unfold Lib.itoa
  rw [if_pos h, if_neg h2, show n.natAbs = (-n).toNat by omega]

theorem dec_len : ∀ (k n : Nat), n < 10 ^ (k + 1) → (Lib.decDigits n).length ≤ k + 1
  | 0, n, h => by rw [Lib.decDigits, dif_pos (by simpa using h)]; simp
  | k + 1, n, h => by
    rw [Lib.decDigits]
    split
    · simp
    · have := dec_len k (n / 10) (by rw [Nat.pow_succ] at h; omega)
      simp
      omega
theorem itoa_len {n : Int} (h1 : -9223372036854775808 ≤ n) (h2 : n ≤ 9223372036854775807) : (Lib.itoa n).length ≤ 21 := by
  unfold Lib.itoa
  split
  · have := dec_len 19 n.natAbs (by omega)
    simp; omega
  · have := dec_len 19 n.toNat (by omega)
    omega
theorem bapp (x y : Array UInt8) : (⟨x⟩ : ByteArray) ++ (⟨y⟩ : ByteArray) = ⟨x ++ y⟩ := by
  rw [ByteArray.ext_iff]; simp [ByteArray.data_append]
theorem ret_str {a b : ByteArray} (h : a = b) : Ending.returned (.string a) = .returned (.string b) := by rw [h]

theorem conv1 (W : World) (B : Nat) (m : Int) (h0 : 0 ≤ m) (h9 : m < 10) (hc : W.cell? ⟨B, 0, none⟩ = some (.int .u8 (48 + m))) :
    (convert 22 9 (.slice (some ⟨B, 0, none⟩) 1 1)).run Tryd.prog W = .ok (.string ⟨#[UInt8.ofNat (48 + m).toNat]⟩) W := by
  have := run_convert_bytes_back (P := Tryd.prog) W 22 9 5 ⟨B, 0, none⟩ 1 [UInt8.ofNat (48 + m).toNat] Tryd.underlying22 Tryd.underlying5 Tryd.underlying9 (fun j hj => by
    have hj0 : j = 0 := by simpa using hj
    subst hj0
    have e : ((UInt8.ofNat (48 + m).toNat).toNat : Int) = 48 + m := by
      rw [UInt8.toNat_ofNat']
      omega
    simp only [List.getElem_cons_zero]
    rw [e]
    exact hc)
  simpa using this

theorem dec_small (n : Int) (w : World) (h0 : 0 ≤ n) (h : n < 10) :
    Calls Tryd.prog 16 #[.int .i64 n] w fun e w' => e = .returned (.string ⟨(Lib.itoa n).toArray⟩) ∧ Below w.heap.size w w' := by
  have h2 : ¬ n < -9223372036854775807 := by omega
  have h3 : ¬ n < 0 := by omega
  have hcv := fun W B => conv1 W B n h0 h
  rw [itoa_small h0 h]
  go_enter Tryd.func16, Tryd.ntmps16
  go_wp2
  go_ret
  exact ⟨rfl, (by repeat (first | assumption | exact Below.refl _ _ | (refine below_chain ?_ (by assumption) (by first | omega | (simp <;> omega) | simp)) | (refine Below.alloc ?_ (by first | omega | (simp <;> omega) | simp) _) | (apply below_drewN) | (apply below_drew) | (refine Below.setCell ?_ (by first | omega | (simp <;> omega) | simp) _)))⟩

theorem dec_step (n : Int) (w : World) (h : 10 ≤ n) (h' : n ≤ 9223372036854775807)
    (ih : ∀ W : World, Hid (Calls Tryd.prog 16 #[.int .i64 (n / 10)] W fun e w' => e = .returned (.string ⟨(Lib.itoa (n / 10)).toArray⟩) ∧ Below W.heap.size W w')) :
    Calls Tryd.prog 16 #[.int .i64 n] w fun e w' => e = .returned (.string ⟨(Lib.itoa n).toArray⟩) ∧ Below w.heap.size w w' := by
  have h2 : ¬ n < -9223372036854775807 := by omega
  have h3 : ¬ n < 0 := by omega
  have h4 : ¬ n < 10 := by omega
  have h5 : 0 ≤ n % 10 := by omega
  have h6 : n % 10 < 10 := by omega
  have e1 : IntKind.i64.wrap (n.tdiv 10) = n / 10 := by rw [Int.tdiv_eq_ediv_of_nonneg (by omega)]; exact IntWalk.i64_in _ (by omega)
  have e2 : IntKind.u8.wrap (IntKind.i64.wrap (48 + n.tmod 10)) = 48 + n % 10 := by
    rw [Int.tmod_eq_emod_of_nonneg (by omega), IntWalk.i64_in (48 + n % 10) (by omega)]
    simp only [IntKind.wrap_u8]
    omega
  have c1 : ∀ W : World, Hid (Calls Tryd.prog 16 #[.int .i64 (IntKind.i64.wrap (n.tdiv 10))] W fun e w' => e = .returned (.string ⟨(Lib.itoa (n / 10)).toArray⟩) ∧ Below W.heap.size W w') := by rw [e1]; exact ih
  have hcv : ∀ (W : World) (B : Nat), W.cell? ⟨B, 0, none⟩ = some (.int .u8 (IntKind.u8.wrap (IntKind.i64.wrap (48 + n.tmod 10)))) → (convert 22 9 (.slice (some ⟨B, 0, none⟩) 1 1)).run Tryd.prog W = .ok (.string ⟨#[UInt8.ofNat (48 + n % 10).toNat]⟩) W := by rw [e2]; exact fun W B => conv1 W B (n % 10) h5 h6
  have hl := itoa_len (n := n / 10) (by omega) (by omega)
  rw [itoa_big h]
  clear e1 e2 ih
  go_enter Tryd.func16, Tryd.ntmps16
  go_wp2_with fail
  go_region_with (first | (go_at_call 16; (with_reducible refine ((c1 _).out).mono ?_); rintro e wn ⟨rfl, hbn⟩; obtain ⟨hcn, hfn⟩ := bcell hbn; (try simp only [World.size_drew, World.cell?_drew, World.frozen?_drew, World.heap_drewN, World.cell?_drewN, World.frozen?_drewN] at hcn hfn); have hsz := hbn.size; (try simp at hsz); (try have hsl := Nat.lt_of_succ_le hsz); (try have hz0 : w.heap.size < wn.heap.size := (by have := hbn.size; (try simp at this); omega))))
  all_goals go_wp2_with fail
  all_goals go_ret
  all_goals exact ⟨ret_str (by rw [bapp]; simp), (by repeat (first | assumption | exact Below.refl _ _ | (refine below_chain ?_ (by assumption) (by first | omega | (simp <;> omega) | simp)) | (refine Below.alloc ?_ (by first | omega | (simp <;> omega) | simp) _) | (apply below_drewN) | (apply below_drew) | (refine Below.setCell ?_ (by first | omega | (simp <;> omega) | simp) _)))⟩

theorem dec_neg (n : Int) (w : World) (h : n < 0) (h' : -9223372036854775807 ≤ n)
    (ih : ∀ W : World, Hid (Calls Tryd.prog 16 #[.int .i64 (-n)] W fun e w' => e = .returned (.string ⟨(Lib.itoa (-n)).toArray⟩) ∧ Below W.heap.size W w')) :
    Calls Tryd.prog 16 #[.int .i64 n] w fun e w' => e = .returned (.string ⟨(Lib.itoa n).toArray⟩) ∧ Below w.heap.size w w' := by
  have h2 : ¬ n < -9223372036854775807 := by omega
  have hl := itoa_len (n := -n) (by omega) (by omega)
  rw [itoa_neg h]
  go_enter Tryd.func16, Tryd.ntmps16
  go_wp2_with (first | (go_at_call 16; (with_reducible refine ((ih _).out).mono ?_); rintro e wn ⟨rfl, hbn⟩; obtain ⟨hcn, hfn⟩ := bcell hbn; (try simp only [World.size_drew, World.cell?_drew, World.frozen?_drew, World.heap_drewN, World.cell?_drewN, World.frozen?_drewN] at hcn hfn); have hsz := hbn.size; (try simp at hsz); (try have hsl := Nat.lt_of_succ_le hsz); (try have hz0 : w.heap.size < wn.heap.size := (by have := hbn.size; (try simp at this); omega))))
  go_ret
  exact ⟨ret_str (by rw [bapp]; simp), (by repeat (first | assumption | exact Below.refl _ _ | (refine below_chain ?_ (by assumption) (by first | omega | (simp <;> omega) | simp)) | (refine Below.alloc ?_ (by first | omega | (simp <;> omega) | simp) _) | (apply below_drewN) | (apply below_drew) | (refine Below.setCell ?_ (by first | omega | (simp <;> omega) | simp) _)))⟩

theorem dec_least (w : World) :
    Calls Tryd.prog 16 #[.int .i64 (-9223372036854775808)] w fun e w' => e = .returned (.string ⟨(Lib.itoa (-9223372036854775808)).toArray⟩) ∧ Below w.heap.size w w' := by
  have e : Lib.itoa (-9223372036854775808) = [45, 57, 50, 50, 51, 51, 55, 50, 48, 51, 54, 56, 53, 52, 55, 55, 53, 56, 48, 56] := by simp [Lib.itoa, Lib.decDigits]
  rw [e]
  clear e
  go_enter Tryd.func16, Tryd.ntmps16
  go_wp2_with fail
  go_ret
  exact ⟨rfl, (by repeat (first | assumption | exact Below.refl _ _ | (refine below_chain ?_ (by assumption) (by first | omega | (simp <;> omega) | simp)) | (refine Below.alloc ?_ (by first | omega | (simp <;> omega) | simp) _) | (apply below_drewN) | (apply below_drew) | (refine Below.setCell ?_ (by first | omega | (simp <;> omega) | simp) _)))⟩

theorem dec_nat : ∀ (k : Nat) (n : Int) (w : World), 0 ≤ n → n ≤ 9223372036854775807 → n.toNat ≤ k →
    Calls Tryd.prog 16 #[.int .i64 n] w fun e w' => e = .returned (.string ⟨(Lib.itoa n).toArray⟩) ∧ Below w.heap.size w w'
  | 0, n, w, h0, h1, hk => dec_small n w h0 (by omega)
  | k + 1, n, w, h0, h1, hk => by
    by_cases h : n < 10
    · exact dec_small n w h0 h
    · exact dec_step n w (by omega) h1 (fun W => Lib.hid (dec_nat k (n / 10) W (by omega) (by omega) (by omega)))

theorem dec_any (n : Int) (w : World) (h1 : -9223372036854775808 ≤ n) (h2 : n ≤ 9223372036854775807) :
    Calls Tryd.prog 16 #[.int .i64 n] w fun e w' => e = .returned (.string ⟨(Lib.itoa n).toArray⟩) ∧ Below w.heap.size w w' := by
  by_cases h : 0 ≤ n
  · exact dec_nat n.toNat n w h h2 (by omega)
  · by_cases h' : n = -9223372036854775808
    · subst h'; exact dec_least w
    · exact dec_neg n w (by omega) (by omega) (fun W => Lib.hid (dec_nat (-n).toNat (-n) W (by omega) (by omega) (by omega)))
end Go.Proofs.YtigmhhdbldlgaaaDoor
