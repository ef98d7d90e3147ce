/-
  For every code the law FnBearingTurn returns true: a bearing turned and turned on to four right angles is itself, two right angles lead to the opposite one, and the quarter goes on with each turn. No condition: every list of bytes is taken.
-/
import Derived.Test.YtigmhhdbldlgaaaDBg
import Derived.Test.YtigmhhdbldlgaaaCode
import Derived.Test.YtigmhhdbldlgaaaBOrd
namespace Go.Proofs.Ytigmhhdbldlgaaa.fnBearingTurn
open Go.ChangeShapes Go.WideShapes Go.ChangeAt Go.RowKit
set_option linter.unusedVariables false

theorem br_rot {x y : Int} (h : Pt.br x y = true) : ∀ n, Pt.br (Pt.rot n x y).1 (Pt.rot n x y).2 = true
  | 0 => h
  | n + 1 => by
    obtain ⟨h1, h2⟩ := Pt.br_true (br_rot h n)
    refine Pt.br_mk (Pt.rot_sv (Pt.br_true h).1 (n + 1)) ?_
    show Int.gcd (Pt.rot n x y).2 (-(Pt.rot n x y).1) = 1
    rw [Int.gcd_neg, Int.gcd_comm]; exact h2
theorem qt_one {x y : Int} (h : ¬ (x = 0 ∧ y = 0)) : Pt.qt y (-x) = (Pt.qt x y + 1) % 4 := by
  have h1 := Pt.qt_says h
  have h2 := Pt.qt_says (x := y) (y := -x) (by omega)
  omega
theorem qt_rot {x y : Int} (h : Pt.br x y = true) : ∀ n : Nat, Pt.qt (Pt.rot n x y).1 (Pt.rot n x y).2 = (Pt.qt x y + n) % 4
  | 0 => by have := Pt.qt_bd x y; simp only [Pt.rot]; omega
  | n + 1 => by
    have h1 := qt_rot h n
    have h2 := qt_one (Pt.br_nz (br_rot h n))
    show Pt.qt (Pt.rot n x y).2 (-(Pt.rot n x y).1) = _
    rw [h2, h1]; omega
theorem rot_on (x y : Int) {m j : Nat} (hm : m < 4) (hj : j = (4 - m) % 4) : (Pt.rot j (Pt.rot m x y).1 (Pt.rot m x y).2).1 = x ∧ (Pt.rot j (Pt.rot m x y).1 (Pt.rot m x y).2).2 = y := by
  rcases (show m = 0 ∨ m = 1 ∨ m = 2 ∨ m = 3 by omega) with rfl | rfl | rfl | rfl
  · obtain rfl : j = 0 := by omega
    simp [Pt.rot]
  · obtain rfl : j = 3 := by omega
    simp [Pt.rot]
  · obtain rfl : j = 2 := by omega
    simp [Pt.rot]
  · obtain rfl : j = 1 := by omega
    simp [Pt.rot]

theorem turn_to {x y u v k : Int} {n : Nat} (w : World) (h : Pt.br x y = true) (h1 : (Pt.rot n x y).1 = u) (h2 : (Pt.rot n x y).2 = v) (hk : -9223372036854775808 ≤ k ∧ k ≤ 9223372036854775807 ∧ n = (k % 4).toNat) :
    Calls Try.prog 37 #[.agg #[.int .i64 x, .int .i64 y], .int .i64 k] w fun e w' => e = .returned (.tuple #[.agg #[.int .i64 u, .int .i64 v], .bool true]) ∧ Below w.heap.size w w' := by
  rw [← h1, ← h2]; exact iTurn_yes x y k n w h hk.1 hk.2.1 hk.2.2
theorem sturn_to {x y u v k : Int} {n : Nat} (w : World) (h : Pt.br x y = true) (h1 : (Pt.rot n x y).1 = u) (h2 : (Pt.rot n x y).2 = v) (hk : -9223372036854775808 ≤ k ∧ k ≤ 9223372036854775807 ∧ n = (k % 4).toNat) :
    Calls Try.prog 38 #[.agg #[.int .i64 x, .int .i64 y], .int .i64 k] w fun e w' => e = .returned (.tuple #[.agg #[.int .i64 u, .int .i64 v], .bool true]) ∧ Below w.heap.size w w' := by
  rw [← h1, ← h2]; exact sTurn_yes x y k n w h hk.1 hk.2.1 hk.2.2

set_option maxHeartbeats 4000000 in
set_option maxRecDepth 100000 in
theorem walk (len cap : Nat) (p : Option Addr) (w : World) (hl : len ≤ 1048576) (h : Hid (Code' w (.slice p len cap))) :
    Calls Try.prog 8 #[.slice p len cap] w fun e w' => e = .returned (.bool true) ∧ Below w.heap.size w w' := by
  have hl' : ¬ (1048576 : Int) < (len : Int) := by omega
  go_enter Try.func8, Try.ntmps8
  go_wp2_with (go_at_call 36; (with_reducible refine (drawBTurn_any _ _ h).mono ?_); rintro e wd ⟨a, b, k, hk, hk', rfl, hbd⟩; obtain ⟨hcn, hfn⟩ := bcell hbd; have hsd := hbd.size)
  by_cases hb : Pt.br a b = true
  · obtain ⟨m, hm⟩ : ∃ m : Nat, m = (k % 4).toNat := ⟨_, rfl⟩
    have hm4 : m < 4 := by omega
    obtain ⟨j, hj⟩ : ∃ j : Nat, j = (4 - m) % 4 := ⟨_, rfl⟩
    obtain ⟨u, hu⟩ : ∃ u, (Pt.rot m a b).1 = u := ⟨_, rfl⟩
    obtain ⟨v, hv⟩ : ∃ v, (Pt.rot m a b).2 = v := ⟨_, rfl⟩
    have hbo := br_rot hb m
    have hqo := qt_rot hb m
    have hon := rot_on a b hm4 hj
    rw [hu, hv] at hbo hqo hon
    have hm1 : -4 < k.tmod 4 := Int.lt_tmod_of_pos k (by decide)
    have hm2 : k.tmod 4 < 4 := Int.tmod_lt_of_pos k (by decide)
    have hd := Int.mul_tdiv_add_tmod k 4
    have hkm := Lib.hid (show k.tmod 4 % 4 = (m : Int) by omega)
    obtain ⟨q, hq⟩ : ∃ q, Pt.qt a b = q := ⟨_, rfl⟩
    obtain ⟨r, hr⟩ : ∃ r, Pt.qt u v = r := ⟨_, rfl⟩
    have hq0 := (Pt.qt_bd a b).1
    have hq3 := (Pt.qt_bd a b).2
    rw [hq] at hq0 hq3
    rw [hq, hr] at hqo
    have HQ := Lib.hid hqo
    have k1 := fun w => Lib.hid (turn_to (k := k) w hb hu hv ⟨hk, hk', hm⟩)
    have k2 := fun w => Lib.hid (sturn_to (k := k) w hb hu hv ⟨hk, hk', hm⟩)
    have k3 := fun w => Lib.hid (turn_to (k := -(k.tmod 4 % 4) % 4) w hbo hon.1 hon.2 ⟨by omega, by omega, by omega⟩)
    have k4 := fun w => Lib.hid (turn_to (k := 2) (n := 2) (u := -a) (v := -b) w hb rfl rfl ⟨by omega, by omega, by decide⟩)
    have k5 := fun w => Lib.hid (iBack_yes a b w hb)
    have k6 := fun w => Lib.hid (iQuarter_yes a b w hb)
    have k7 := fun w => Lib.hid (iQuarter_yes u v w hbo)
    rw [hq] at k6
    rw [hr] at k7
    clear hb hbo hqo hon hd hm hj hu hv hq hr
    go_wp2_with (first | (go_at_call 37; (with_reducible refine ((k1 _).out).mono ?_); rintro e w1 ⟨rfl, hbn⟩; obtain ⟨hcn, hfn⟩ := bcell hbn; (try simp only [World.size_drew, World.cell?_drew, World.frozen?_drew, World.heap_drewN, World.cell?_drewN, World.frozen?_drewN] at hcn hfn); have hsz := hbn.size; (try simp at hsz); (try have hsl := Nat.lt_of_succ_le hsz); (try have hz0 : wd.heap.size < w1.heap.size := (by have := hbn.size; (try simp at this); omega))) | (go_at_call 38; (with_reducible refine ((k2 _).out).mono ?_); rintro e w2 ⟨rfl, hbn⟩; obtain ⟨hcn, hfn⟩ := bcell hbn; (try simp only [World.size_drew, World.cell?_drew, World.frozen?_drew, World.heap_drewN, World.cell?_drewN, World.frozen?_drewN] at hcn hfn); have hsz := hbn.size; (try simp at hsz); (try have hsl := Nat.lt_of_succ_le hsz); (try have hz0 : wd.heap.size < w2.heap.size := (by have := hbn.size; (try simp at this); omega)); (try have hz1 : w1.heap.size < w2.heap.size := (by have := hbn.size; (try simp at this); omega))) | (go_at_call 37; (with_reducible refine ((k3 _).out).mono ?_); rintro e w3 ⟨rfl, hbn⟩; obtain ⟨hcn, hfn⟩ := bcell hbn; (try simp only [World.size_drew, World.cell?_drew, World.frozen?_drew, World.heap_drewN, World.cell?_drewN, World.frozen?_drewN] at hcn hfn); have hsz := hbn.size; (try simp at hsz); (try have hsl := Nat.lt_of_succ_le hsz); (try have hz0 : wd.heap.size < w3.heap.size := (by have := hbn.size; (try simp at this); omega)); (try have hz1 : w1.heap.size < w3.heap.size := (by have := hbn.size; (try simp at this); omega)); (try have hz2 : w2.heap.size < w3.heap.size := (by have := hbn.size; (try simp at this); omega))) | (go_at_call 37; (with_reducible refine ((k4 _).out).mono ?_); rintro e w4 ⟨rfl, hbn⟩; obtain ⟨hcn, hfn⟩ := bcell hbn; (try simp only [World.size_drew, World.cell?_drew, World.frozen?_drew, World.heap_drewN, World.cell?_drewN, World.frozen?_drewN] at hcn hfn); have hsz := hbn.size; (try simp at hsz); (try have hsl := Nat.lt_of_succ_le hsz); (try have hz0 : wd.heap.size < w4.heap.size := (by have := hbn.size; (try simp at this); omega)); (try have hz1 : w1.heap.size < w4.heap.size := (by have := hbn.size; (try simp at this); omega)); (try have hz2 : w2.heap.size < w4.heap.size := (by have := hbn.size; (try simp at this); omega)); (try have hz3 : w3.heap.size < w4.heap.size := (by have := hbn.size; (try simp at this); omega))) | (go_at_call 35; (with_reducible refine ((k5 _).out).mono ?_); rintro e w5 ⟨rfl, hbn⟩; obtain ⟨hcn, hfn⟩ := bcell hbn; (try simp only [World.size_drew, World.cell?_drew, World.frozen?_drew, World.heap_drewN, World.cell?_drewN, World.frozen?_drewN] at hcn hfn); have hsz := hbn.size; (try simp at hsz); (try have hsl := Nat.lt_of_succ_le hsz); (try have hz0 : wd.heap.size < w5.heap.size := (by have := hbn.size; (try simp at this); omega)); (try have hz1 : w1.heap.size < w5.heap.size := (by have := hbn.size; (try simp at this); omega)); (try have hz2 : w2.heap.size < w5.heap.size := (by have := hbn.size; (try simp at this); omega)); (try have hz3 : w3.heap.size < w5.heap.size := (by have := hbn.size; (try simp at this); omega)); (try have hz4 : w4.heap.size < w5.heap.size := (by have := hbn.size; (try simp at this); omega))) | (go_at_call 39; (with_reducible refine ((k6 _).out).mono ?_); rintro e w6 ⟨rfl, hbn⟩; obtain ⟨hcn, hfn⟩ := bcell hbn; (try simp only [World.size_drew, World.cell?_drew, World.frozen?_drew, World.heap_drewN, World.cell?_drewN, World.frozen?_drewN] at hcn hfn); have hsz := hbn.size; (try simp at hsz); (try have hsl := Nat.lt_of_succ_le hsz); (try have hz0 : wd.heap.size < w6.heap.size := (by have := hbn.size; (try simp at this); omega)); (try have hz1 : w1.heap.size < w6.heap.size := (by have := hbn.size; (try simp at this); omega)); (try have hz2 : w2.heap.size < w6.heap.size := (by have := hbn.size; (try simp at this); omega)); (try have hz3 : w3.heap.size < w6.heap.size := (by have := hbn.size; (try simp at this); omega)); (try have hz4 : w4.heap.size < w6.heap.size := (by have := hbn.size; (try simp at this); omega)); (try have hz5 : w5.heap.size < w6.heap.size := (by have := hbn.size; (try simp at this); omega))) | (go_at_call 39; (with_reducible refine ((k7 _).out).mono ?_); rintro e w7 ⟨rfl, hbn⟩; obtain ⟨hcn, hfn⟩ := bcell hbn; (try simp only [World.size_drew, World.cell?_drew, World.frozen?_drew, World.heap_drewN, World.cell?_drewN, World.frozen?_drewN] at hcn hfn); have hsz := hbn.size; (try simp at hsz); (try have hsl := Nat.lt_of_succ_le hsz); (try have hz0 : wd.heap.size < w7.heap.size := (by have := hbn.size; (try simp at this); omega)); (try have hz1 : w1.heap.size < w7.heap.size := (by have := hbn.size; (try simp at this); omega)); (try have hz2 : w2.heap.size < w7.heap.size := (by have := hbn.size; (try simp at this); omega)); (try have hz3 : w3.heap.size < w7.heap.size := (by have := hbn.size; (try simp at this); omega)); (try have hz4 : w4.heap.size < w7.heap.size := (by have := hbn.size; (try simp at this); omega)); (try have hz5 : w5.heap.size < w7.heap.size := (by have := hbn.size; (try simp at this); omega)); (try have hz6 : w6.heap.size < w7.heap.size := (by have := hbn.size; (try simp at this); omega))))
    go_ret
    have e1 := HQ.out
    have e2 := hkm.out
    exact ⟨ret_bool (by simp; omega), (by repeat (first | with_reducible assumption | with_reducible exact Below.refl _ _ | (with_reducible refine below_chain ?_ (by with_reducible assumption) (by first | omega | (simp <;> omega) | simp)) | (with_reducible refine below_gb ?_ (by with_reducible assumption) (by first | omega | (simp <;> omega) | simp) (by first | omega | (simp <;> omega) | simp)) | (with_reducible refine Below.alloc ?_ (by first | omega | (simp <;> omega) | simp) _) | (with_reducible refine below_drewN ?_ _) | (with_reducible refine below_drew ?_) | (with_reducible refine Below.setCell ?_ (by first | omega | (simp <;> omega) | simp) _)))⟩
  · have hb' : Pt.br a b = false := by simpa using hb
    have k1 := fun w => Lib.hid (iTurn_no a b k w hb')
    have k2 := fun w => Lib.hid (sTurn_no a b k w hb')
    clear hb hb'
    go_wp2_with (first | (go_at_call 37; (with_reducible refine ((k1 _).out).mono ?_); rintro e w1 ⟨rfl, hbn⟩; obtain ⟨hcn, hfn⟩ := bcell hbn; (try simp only [World.size_drew, World.cell?_drew, World.frozen?_drew, World.heap_drewN, World.cell?_drewN, World.frozen?_drewN] at hcn hfn); have hsz := hbn.size; (try simp at hsz); (try have hsl := Nat.lt_of_succ_le hsz); (try have hz0 : wd.heap.size < w1.heap.size := (by have := hbn.size; (try simp at this); omega))) | (go_at_call 38; (with_reducible refine ((k2 _).out).mono ?_); rintro e w2 ⟨rfl, hbn⟩; obtain ⟨hcn, hfn⟩ := bcell hbn; (try simp only [World.size_drew, World.cell?_drew, World.frozen?_drew, World.heap_drewN, World.cell?_drewN, World.frozen?_drewN] at hcn hfn); have hsz := hbn.size; (try simp at hsz); (try have hsl := Nat.lt_of_succ_le hsz); (try have hz0 : wd.heap.size < w2.heap.size := (by have := hbn.size; (try simp at this); omega)); (try have hz1 : w1.heap.size < w2.heap.size := (by have := hbn.size; (try simp at this); omega))))
    go_ret
    exact ⟨rfl, (by repeat (first | with_reducible assumption | with_reducible exact Below.refl _ _ | (with_reducible refine below_chain ?_ (by with_reducible assumption) (by first | omega | (simp <;> omega) | simp)) | (with_reducible refine below_gb ?_ (by with_reducible assumption) (by first | omega | (simp <;> omega) | simp) (by first | omega | (simp <;> omega) | simp)) | (with_reducible refine Below.alloc ?_ (by first | omega | (simp <;> omega) | simp) _) | (with_reducible refine below_drewN ?_ _) | (with_reducible refine below_drew ?_) | (with_reducible refine Below.setCell ?_ (by first | omega | (simp <;> omega) | simp) _)))⟩

theorem walk_long (len cap : Nat) (p : Option Addr) (w : World) (hl : 1048576 < len) :
    Calls Try.prog 8 #[.slice p len cap] w fun e w' => e = .returned (.bool true) ∧ Below w.heap.size w w' := by
  have hl' : (1048576 : Int) < (len : Int) := by omega
  go_enter Try.func8, Try.ntmps8
  go_wp2
  go_ret
  exact ⟨rfl, Below.refl _ _⟩

set_option maxRecDepth 100000 in
theorem lifted (os : Os) (started : os.Started) (H : Type) (enc : TypeId × Value → H) :
    ReturnsInHanded {} Try.checked os 8 .any (Rows.fnBearingTurnSpec.pre6 enc Try.prog Try.f8 Rows.fnBearingTurnRow.domain false) (Rows.fnBearingTurnSpec.post enc Try.prog Try.f8 false true false false) := by
  refine returnsInHanded_of_change (C := Try.checked) own started (by kernel_rfl) Try.func8
    (ChangeSpec.witness6 (enc := enc) (C := Try.checked) false ⟨#[], #[.slice none 0 0], []⟩ 8 (by kernel_rfl) (by kernel_rfl) (by kernel_rfl) (by kernel_rfl)) ?_
  intro W base args ds gs before hval0 hW hcnd _
  have hval : ∀ (j : Nat) t v, Try.f8.params[j]? = some t → args[j]? = some v → Value.okWide Try.prog W .any base t v := hval0
  have hW' := hW
  obtain ⟨p, q, hA0, hV, rfl, hfz, hnd⟩ := hW
  have hA : DataW.TrodAll enc Try.prog W 0 (fun _ => true) true Try.f8.params.toList args.toList ds p := hA0
  rw [Try.params8] at hA hval
  obtain ⟨v0, vs0, d0, ds0, p0, q0, hargs, rfl, rfl, h0, r0⟩ := trodAll_cons hA
  obtain ⟨rfl, rfl, rfl⟩ := trodAll_nil r0
  obtain rfl : args = #[v0] := by cases args; simp_all
  obtain ⟨rfl, rfl⟩ := trodVars_none hV
  obtain ⟨a0, len0, cap0, rfl⟩ := okWide_slice Try.underlying22 (hval 0 22 v0 rfl rfl)
  have k0 := h0
  have lt0 : ∀ x ∈ p0, x.block < W.heap.size := by obtain ⟨m, hm⟩ := k0; exact DataW.trod_lt m _ _ _ hm
  obtain ⟨z0, w0⟩ : ∃ zs, IsRow .u8 W a0 len0 cap0 zs := by
    obtain ⟨fuel, hf⟩ := h0
    rcases open_ints Try.underlying22 Try.underlying5 (by kernel_rfl) hf with ⟨hcs, _⟩ | ⟨x, l, c, zs, hcs, _, hl, hm, hz, _, hcell, hwz⟩
    · simp [Value.cells] at hcs
      obtain ⟨rfl, rfl, rfl⟩ := hcs
      exact ⟨[], .inl ⟨rfl, rfl, rfl, rfl⟩⟩
    · simp [Value.cells] at hcs
      obtain ⟨rfl, rfl, rfl⟩ := hcs
      exact ⟨zs, .inr ⟨_, rfl, hl, hm, by simpa using hz, hcell, hwz⟩⟩
  clear hA0 hval0
  have hw : Calls Try.prog 8 #[.slice a0 len0 cap0] W fun e w' => e = .returned (.bool true) ∧ Below W.heap.size W w' := by
    by_cases hl : len0 ≤ 1048576
    · exact walk len0 cap0 a0 W hl (Lib.hid (code_of_row w0 hl))
    · exact walk_long len0 cap0 a0 W (by omega)
  refine hw.mono fun e W' ⟨he, bel⟩ => ?_
  subst he
  exact ⟨_, rfl, _, _, _, [], _, [], hW', trodAll_mk1 (shut_bool Try.underlying4 _), (trodAll_cons_mk (Below.trod laidOut (by kernel_rfl) (of_decide_eq_true (by kernel_rfl)) k0 bel lt0) trodAll_mk0), rfl, bel.frame _, fun h => by cases h⟩

theorem over : Rows.fnBearingTurnRow.holds Try.pinned (OpenSpec.ofChange Rows.fnBearingTurnSpec) :=
  OpenClaim.holds_of_wide 8 Try.f8 rfl rfl rfl rfl rfl rfl rfl ⟨rfl, rfl, rfl, rfl, rfl⟩ rfl rfl rfl rfl rfl (by kernel_rfl) Try.func8 (by kernel_rfl)
    (of_decide_eq_true (by kernel_rfl)) (by unfold Func.isWrapper; first | (rw [if_pos (by decide +kernel)]; kernel_rfl) | (rw [if_neg (by decide +kernel)]; exact ⟨rfl, rfl⟩))
    (fun os started H enc _ => lifted os started H enc)

theorem proved : Rows.FnBearingTurnSaid := over
end Go.Proofs.Ytigmhhdbldlgaaa.fnBearingTurn

