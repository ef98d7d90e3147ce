/-
  What BearingText answers in both programs: the text of a bearing.
-/
import Derived.Test.YtigmhhdbldlgaaaDoorDec
import Derived.Test.YtigmhhdbldlgaaaDoorRegT
import Derived.Test.YtigmhhdbldlgaaaDoorShelf
import Derived.Test.YtigmhhdbldlgaaaDoorBa
import Derived.Test.YtigmhhdbldlgaaaDoorBs
import Derived.Lib.SmallJoins
import Derived.Lib.LaidTab
namespace Go.Proofs.YtigmhhdbldlgaaaDoor
open Go.RowKit
set_option linter.unusedVariables false

theorem below_grow {B : Nat} {w : World} (os : Array Obj) (k : Nat) (h : B ≤ w.heap.size) : Below B w (Sort.grow (w.drewN k) os) :=
  ⟨rfl, rfl, rfl, by simp [Sort.grow], fun i hi => by
    show (w.heap ++ os)[i]? = w.heap[i]?
    rw [Array.getElem?_append_left (by omega)]⟩
abbrev Tab (w : World) : Prop := Lib.TabIs Tryd.prog w "internal/strconv.uint64pow10" .u64 Lib.pow10Tab
theorem gTab : Tryd.prog.globalNamed "internal/strconv.uint64pow10" = some 0 := by kernel_rfl
theorem tab_keeps {w w' : World} (h : Tab w) (hb : Below w.heap.size w w') : Tab w' := Joins.tab_stays gTab h hb (Nat.le_refl _)
theorem itoa_any (n : Int) (w : World) (h0 : -9223372036854775808 ≤ n) (h1 : n ≤ 9223372036854775807) (ht : Hid (Tab w)) :
    Calls Tryd.prog 14 #[.int .i64 n] w fun e w' => e = .returned (.string ⟨(Lib.itoa n).toArray⟩) ∧ Below w.heap.size w w' :=
  (Tryd.strconv_Itoa n h0 h1 w ht.out).mono fun _ _ ⟨he, k, os, hw⟩ => ⟨he, by rw [hw]; exact below_grow os k (Nat.le_refl _)⟩

/-- the text of a bearing -/
def ns (y : Int) : List UInt8 := if y < 0 then [83] else [78]
def ew (x : Int) : List UInt8 := if x < 0 then [87] else [69]
def btext (x y : Int) : List UInt8 := if Pt.br x y then (if x = 0 then ns y else if y = 0 then ew x else ns y ++ Lib.itoa y.natAbs ++ ew x ++ Lib.itoa x.natAbs) else []

theorem wind_pos (n : Int) (a b : ByteArray) (w : World) (h : 0 < n) :
    Calls Tryd.prog 13 #[.int .i64 n, .string a, .string b] w fun e w' => e = .returned (.string a) ∧ w = w' := by
  go_enter Tryd.func13, Tryd.ntmps13
  go_wp2
  go_ret
  exact ⟨rfl, rfl⟩
theorem wind_neg (n : Int) (a b : ByteArray) (w : World) (h : n < 0) :
    Calls Tryd.prog 13 #[.int .i64 n, .string a, .string b] w fun e w' => e = .returned (.string b) ∧ w = w' := by
  have h' : ¬ 0 < n := by omega
  go_enter Tryd.func13, Tryd.ntmps13
  go_wp2
  go_ret
  exact ⟨rfl, rfl⟩
theorem wind_zero (a b : ByteArray) (w : World) :
    Calls Tryd.prog 13 #[.int .i64 0, .string a, .string b] w fun e w' => e = .returned (.string ⟨#[]⟩) ∧ w = w' := by
  go_enter Tryd.func13, Tryd.ntmps13
  go_wp2
  go_ret
  exact ⟨rfl, rfl⟩
def windB (n : Int) (a b : ByteArray) : ByteArray := if 0 < n then a else if n < 0 then b else ⟨#[]⟩
theorem wind_is (n : Int) (a b c : ByteArray) (w : World) (h : windB n a b = c) :
    Calls Tryd.prog 13 #[.int .i64 n, .string a, .string b] w fun e w' => e = .returned (.string c) ∧ w = w' := by
  unfold windB at h
  by_cases h1 : 0 < n
  · rw [if_pos h1] at h; subst h; exact wind_pos n a b w h1
  · by_cases h2 : n < 0
    · rw [if_neg h1, if_pos h2] at h; subst h; exact wind_neg n a b w h2
    · rw [if_neg h1, if_neg h2] at h
      obtain rfl : n = 0 := by omega
      subst h; exact wind_zero a b w

theorem iBT_no (x y : Int) (w : World) (h : Pt.br x y = false) :
    Calls Tryd.prog 6 #[.agg #[.int .i64 x, .int .i64 y]] w fun e w' => e = .returned (.string ⟨#[]⟩) ∧ Below w.heap.size w w' := by
  have c1 := fun w => Lib.hid (bplace_nob x y w h)
  clear h
  go_enter Tryd.func6, Tryd.ntmps6
  go_wp2_with ((go_at_call 12; (with_reducible refine ((c1 _).out).mono ?_); rintro e wn ⟨rfl, hbn⟩; obtain ⟨hcn, hfn⟩ := bcell hbn; (try simp only [World.size_drew, World.cell?_drew, World.frozen?_drew, World.heap_drewN, World.cell?_drewN, World.frozen?_drewN] at hcn hfn); have hsz := hbn.size; (try simp at hsz); (try have hsl := Nat.lt_of_succ_le hsz); (try have hz0 : w.heap.size < wn.heap.size := (by have := hbn.size; (try simp at this); omega))))
  go_ret
  exact ⟨rfl, (by repeat (first | assumption | exact Below.refl _ _ | (refine below_chain ?_ (by assumption) (by first | omega | (simp <;> omega) | simp)) | (refine Below.alloc ?_ (by first | omega | (simp <;> omega) | simp) _) | (apply below_drewN) | (apply below_drew) | (refine Below.setCell ?_ (by first | omega | (simp <;> omega) | simp) _)))⟩
theorem sBT_no (x y : Int) (w : World) (h : Pt.br x y = false) :
    Calls Tryd.prog 7 #[.agg #[.int .i64 x, .int .i64 y]] w fun e w' => e = .returned (.string ⟨#[]⟩) ∧ Below w.heap.size w w' := by
  have c1 := fun w => Lib.hid (l3b_is x y _ w h)
  clear h
  go_enter Tryd.func7, Tryd.ntmps7
  go_wp2_with ((go_at_call 15; (with_reducible refine ((c1 _).out).mono ?_); rintro e wn ⟨rfl, hbn⟩; obtain ⟨hcn, hfn⟩ := bcell hbn; (try simp only [World.size_drew, World.cell?_drew, World.frozen?_drew, World.heap_drewN, World.cell?_drewN, World.frozen?_drewN] at hcn hfn); have hsz := hbn.size; (try simp at hsz); (try have hsl := Nat.lt_of_succ_le hsz); (try have hz0 : w.heap.size < wn.heap.size := (by have := hbn.size; (try simp at this); omega))))
  go_ret
  exact ⟨rfl, (by repeat (first | assumption | exact Below.refl _ _ | (refine below_chain ?_ (by assumption) (by first | omega | (simp <;> omega) | simp)) | (refine Below.alloc ?_ (by first | omega | (simp <;> omega) | simp) _) | (apply below_drewN) | (apply below_drew) | (refine Below.setCell ?_ (by first | omega | (simp <;> omega) | simp) _)))⟩
theorem sBT_x0 (y : Int) (w : World) (h : Pt.br 0 y = true) :
    Calls Tryd.prog 7 #[.agg #[.int .i64 0, .int .i64 y]] w fun e w' => e = .returned (.string ⟨(ns y).toArray⟩) ∧ Below w.heap.size w w' := by
  have c1 := fun w => Lib.hid (l3b_is 0 y _ w h)
  clear h
  unfold ns
  by_cases hy : y < 0
  all_goals
    simp only [hy, if_true, if_false]
    go_enter Tryd.func7, Tryd.ntmps7
    go_wp2_with ((go_at_call 15; (with_reducible refine ((c1 _).out).mono ?_); rintro e wn ⟨rfl, hbn⟩; obtain ⟨hcn, hfn⟩ := bcell hbn; (try simp only [World.size_drew, World.cell?_drew, World.frozen?_drew, World.heap_drewN, World.cell?_drewN, World.frozen?_drewN] at hcn hfn); have hsz := hbn.size; (try simp at hsz); (try have hsl := Nat.lt_of_succ_le hsz); (try have hz0 : w.heap.size < wn.heap.size := (by have := hbn.size; (try simp at this); omega))))
    go_ret
    exact ⟨rfl, (by repeat (first | assumption | exact Below.refl _ _ | (refine below_chain ?_ (by assumption) (by first | omega | (simp <;> omega) | simp)) | (refine Below.alloc ?_ (by first | omega | (simp <;> omega) | simp) _) | (apply below_drewN) | (apply below_drew) | (refine Below.setCell ?_ (by first | omega | (simp <;> omega) | simp) _)))⟩
theorem sBT_y0 (x : Int) (w : World) (h : Pt.br x 0 = true) (hx : ¬ x = 0) :
    Calls Tryd.prog 7 #[.agg #[.int .i64 x, .int .i64 0]] w fun e w' => e = .returned (.string ⟨(ew x).toArray⟩) ∧ Below w.heap.size w w' := by
  have c1 := fun w => Lib.hid (l3b_is x 0 _ w h)
  clear h
  unfold ew
  by_cases hy : x < 0
  all_goals
    simp only [hy, if_true, if_false]
    go_enter Tryd.func7, Tryd.ntmps7
    go_wp2_with ((go_at_call 15; (with_reducible refine ((c1 _).out).mono ?_); rintro e wn ⟨rfl, hbn⟩; obtain ⟨hcn, hfn⟩ := bcell hbn; (try simp only [World.size_drew, World.cell?_drew, World.frozen?_drew, World.heap_drewN, World.cell?_drewN, World.frozen?_drewN] at hcn hfn); have hsz := hbn.size; (try simp at hsz); (try have hsl := Nat.lt_of_succ_le hsz); (try have hz0 : w.heap.size < wn.heap.size := (by have := hbn.size; (try simp at this); omega))))
    go_ret
    exact ⟨rfl, (by repeat (first | assumption | exact Below.refl _ _ | (refine below_chain ?_ (by assumption) (by first | omega | (simp <;> omega) | simp)) | (refine Below.alloc ?_ (by first | omega | (simp <;> omega) | simp) _) | (apply below_drewN) | (apply below_drew) | (refine Below.setCell ?_ (by first | omega | (simp <;> omega) | simp) _)))⟩
set_option maxHeartbeats 800000 in
theorem sBT_xy (x y : Int) (w : World) (h : Pt.br x y = true) (hx : ¬ x = 0) (hy : ¬ y = 0) :
    Calls Tryd.prog 7 #[.agg #[.int .i64 x, .int .i64 y]] w fun e w' => e = .returned (.string ⟨(ns y ++ Lib.itoa y.natAbs ++ ew x ++ Lib.itoa x.natAbs).toArray⟩) ∧ Below w.heap.size w w' := by
  have c1 := fun w => Lib.hid (l3b_is x y _ w h)
  obtain ⟨p1, p2, p3, p4⟩ := Pt.sv_true (Pt.br_true h).1
  have c2 := fun w => Lib.hid (ssize_is x w p1 p2)
  have c3 := fun w => Lib.hid (ssize_is y w p3 p4)
  have c4 := fun w => Lib.hid (dec_any (x.natAbs : Int) w (by omega) (by omega))
  have c5 := fun w => Lib.hid (dec_any (y.natAbs : Int) w (by omega) (by omega))
  have l1 := itoa_len (n := (x.natAbs : Int)) (by omega) (by omega)
  have l2 := itoa_len (n := (y.natAbs : Int)) (by omega) (by omega)
  clear h
  unfold ns ew
  by_cases hy0 : y < 0 <;> by_cases hx0 : x < 0
  all_goals
    simp only [hy0, hx0, if_true, if_false]
    go_enter Tryd.func7, Tryd.ntmps7
    go_wp2_with ((go_at_call 15; (with_reducible refine ((c1 _).out).mono ?_); rintro e wn ⟨rfl, hbn⟩; obtain ⟨hcn, hfn⟩ := bcell hbn; (try simp only [World.size_drew, World.cell?_drew, World.frozen?_drew, World.heap_drewN, World.cell?_drewN, World.frozen?_drewN] at hcn hfn); have hsz := hbn.size; (try simp at hsz); (try have hsl := Nat.lt_of_succ_le hsz); (try have hz0 : w.heap.size < wn.heap.size := (by have := hbn.size; (try simp at this); omega))))
    (refine wp_region_grows (by kernel_rfl) (by kernel_rfl) ?_; intro W_wg hWc_wg hWs_wg hWe_wg; (repeat (go_big_quiet_step (first | (go_at_call 17; with_reducible exact Ext.call0 ((c2 _).out)) | (go_at_call 17; with_reducible exact Ext.call0 ((c3 _).out)) | (go_at_call 16; with_reducible exact Ext.call ((c4 _).out)) | (go_at_call 16; with_reducible exact Ext.call ((c5 _).out))))); with_reducible refine wpQuiet_nil ?_; clear hWe_wg hWs_wg hWc_wg W_wg; intro wg hb_wg; obtain ⟨hc_wg, hf_wg⟩ := bcell hb_wg; (try simp only [World.size_drew, World.cell?_drew, World.frozen?_drew, World.heap_drewN, World.cell?_drewN, World.frozen?_drewN] at hc_wg hf_wg); have hs_wg := hb_wg.size; (try simp at hs_wg); (try have hz_wg0 : w.heap.size < wg.heap.size := (by have := hb_wg.size; (try simp at this); omega)))
    go_wp2_with fail
    go_ret
    exact ⟨ret_str (by rw [bapp, bapp, bapp]; simp), (by repeat (first | assumption | exact Below.refl _ _ | (refine below_chain ?_ (by assumption) (by first | omega | (simp <;> omega) | simp)) | (refine Below.alloc ?_ (by first | omega | (simp <;> omega) | simp) _) | (apply below_drewN) | (apply below_drew) | (refine Below.setCell ?_ (by first | omega | (simp <;> omega) | simp) _)))⟩
set_option maxHeartbeats 800000 in
theorem iBT_x0 (y : Int) (w : World) (h : Pt.br 0 y = true) :
    Calls Tryd.prog 6 #[.agg #[.int .i64 0, .int .i64 y]] w fun e w' => e = .returned (.string ⟨(ns y).toArray⟩) ∧ Below w.heap.size w w' := by
  have c1 := fun w => Lib.hid (bplace_is 0 y w h)
  have hy0 : ¬ y = 0 := fun e => Pt.br_nz h ⟨rfl, e⟩
  clear h
  unfold ns
  by_cases hy : y < 0
  all_goals
    simp only [hy, if_true, if_false]
    first
      | have c2 := fun w => Lib.hid (wind_neg y ⟨#[78]⟩ ⟨#[83]⟩ w hy)
      | have c2 := fun w => Lib.hid (wind_pos y ⟨#[78]⟩ ⟨#[83]⟩ w (by omega))
    have c3 := fun w => Lib.hid (wind_zero ⟨#[69]⟩ ⟨#[87]⟩ w)
    go_enter Tryd.func6, Tryd.ntmps6
    go_wp2_with ((go_at_call 12; (with_reducible refine ((c1 _).out).mono ?_); rintro e wn ⟨rfl, hbn⟩; obtain ⟨hcn, hfn⟩ := bcell hbn; (try simp only [World.size_drew, World.cell?_drew, World.frozen?_drew, World.heap_drewN, World.cell?_drewN, World.frozen?_drewN] at hcn hfn); have hsz := hbn.size; (try simp at hsz); (try have hsl := Nat.lt_of_succ_le hsz); (try have hz0 : w.heap.size < wn.heap.size := (by have := hbn.size; (try simp at this); omega))))
    (refine wp_region_grows (by kernel_rfl) (by kernel_rfl) ?_; intro W_wg hWc_wg hWs_wg hWe_wg; (repeat (go_big_quiet_step (first | (go_at_call 13; with_reducible exact Ext.call0 ((c2 _).out)) | (go_at_call 13; with_reducible exact Ext.call0 ((c3 _).out))))); with_reducible refine wpQuiet_nil ?_; clear hWe_wg hWs_wg hWc_wg W_wg; intro wg hb_wg; obtain ⟨hc_wg, hf_wg⟩ := bcell hb_wg; (try simp only [World.size_drew, World.cell?_drew, World.frozen?_drew, World.heap_drewN, World.cell?_drewN, World.frozen?_drewN] at hc_wg hf_wg); have hs_wg := hb_wg.size; (try simp at hs_wg); (try have hz_wg0 : w.heap.size < wg.heap.size := (by have := hb_wg.size; (try simp at this); omega)))
    go_wp2_with fail
    go_ret
    exact ⟨ret_str (by first | rfl | decide | (rw [bapp]; simp)), (by repeat (first | assumption | exact Below.refl _ _ | (refine below_chain ?_ (by assumption) (by first | omega | (simp <;> omega) | simp)) | (refine Below.alloc ?_ (by first | omega | (simp <;> omega) | simp) _) | (apply below_drewN) | (apply below_drew) | (refine Below.setCell ?_ (by first | omega | (simp <;> omega) | simp) _)))⟩
set_option maxHeartbeats 800000 in
theorem iBT_y0 (x : Int) (w : World) (h : Pt.br x 0 = true) (hx : ¬ x = 0) :
    Calls Tryd.prog 6 #[.agg #[.int .i64 x, .int .i64 0]] w fun e w' => e = .returned (.string ⟨(ew x).toArray⟩) ∧ Below w.heap.size w w' := by
  have c1 := fun w => Lib.hid (bplace_is x 0 w h)
  clear h
  unfold ew
  by_cases hy : x < 0
  all_goals
    simp only [hy, if_true, if_false]
    first
      | have c2 := fun w => Lib.hid (wind_neg x ⟨#[69]⟩ ⟨#[87]⟩ w hy)
      | have c2 := fun w => Lib.hid (wind_pos x ⟨#[69]⟩ ⟨#[87]⟩ w (by omega))
    have c3 := fun w => Lib.hid (wind_zero ⟨#[78]⟩ ⟨#[83]⟩ w)
    go_enter Tryd.func6, Tryd.ntmps6
    go_wp2_with ((go_at_call 12; (with_reducible refine ((c1 _).out).mono ?_); rintro e wn ⟨rfl, hbn⟩; obtain ⟨hcn, hfn⟩ := bcell hbn; (try simp only [World.size_drew, World.cell?_drew, World.frozen?_drew, World.heap_drewN, World.cell?_drewN, World.frozen?_drewN] at hcn hfn); have hsz := hbn.size; (try simp at hsz); (try have hsl := Nat.lt_of_succ_le hsz); (try have hz0 : w.heap.size < wn.heap.size := (by have := hbn.size; (try simp at this); omega))))
    (refine wp_region_grows (by kernel_rfl) (by kernel_rfl) ?_; intro W_wg hWc_wg hWs_wg hWe_wg; (repeat (go_big_quiet_step (first | (go_at_call 13; with_reducible exact Ext.call0 ((c2 _).out)) | (go_at_call 13; with_reducible exact Ext.call0 ((c3 _).out))))); with_reducible refine wpQuiet_nil ?_; clear hWe_wg hWs_wg hWc_wg W_wg; intro wg hb_wg; obtain ⟨hc_wg, hf_wg⟩ := bcell hb_wg; (try simp only [World.size_drew, World.cell?_drew, World.frozen?_drew, World.heap_drewN, World.cell?_drewN, World.frozen?_drewN] at hc_wg hf_wg); have hs_wg := hb_wg.size; (try simp at hs_wg); (try have hz_wg0 : w.heap.size < wg.heap.size := (by have := hb_wg.size; (try simp at this); omega)))
    go_wp2_with fail
    go_ret
    exact ⟨ret_str (by first | rfl | decide | (rw [bapp]; simp)), (by repeat (first | assumption | exact Below.refl _ _ | (refine below_chain ?_ (by assumption) (by first | omega | (simp <;> omega) | simp)) | (refine Below.alloc ?_ (by first | omega | (simp <;> omega) | simp) _) | (apply below_drewN) | (apply below_drew) | (refine Below.setCell ?_ (by first | omega | (simp <;> omega) | simp) _)))⟩
set_option maxHeartbeats 2000000 in
theorem iBT_xy (x y : Int) (w : World) (h : Pt.br x y = true) (hx : ¬ x = 0) (hy : ¬ y = 0) (ht : Hid (Tab w)) :
    Calls Tryd.prog 6 #[.agg #[.int .i64 x, .int .i64 y]] w fun e w' => e = .returned (.string ⟨(ns y ++ Lib.itoa y.natAbs ++ ew x ++ Lib.itoa x.natAbs).toArray⟩) ∧ Below w.heap.size w w' := by
  have c1 := fun w => Lib.hid (bplace_is x y w h)
  obtain ⟨p1, p2, p3, p4⟩ := Pt.sv_true (Pt.br_true h).1
  have HT := fun r (h : Below w.heap.size w r) => Lib.hid (tab_keeps ht.out h)
  have l1 := itoa_len (n := (x.natAbs : Int)) (by omega) (by omega)
  have l2 := itoa_len (n := (y.natAbs : Int)) (by omega) (by omega)
  clear h
  unfold ns ew
  by_cases hy0 : y < 0 <;> by_cases hx0 : x < 0
  all_goals
    simp only [hy0, hx0, if_true, if_false]
    first
      | (have e1 : (y.natAbs : Int) = max y (-y) := by omega
         have c2 := fun w => Lib.hid (wind_neg y ⟨#[78]⟩ ⟨#[83]⟩ w hy0)
         rw [e1] at l2 ⊢
         clear e1)
      | (have e1 : (y.natAbs : Int) = max y (-y) := by omega
         have c2 := fun w => Lib.hid (wind_pos y ⟨#[78]⟩ ⟨#[83]⟩ w (by omega))
         rw [e1] at l2 ⊢
         clear e1)
    first
      | (have e1 : (x.natAbs : Int) = max x (-x) := by omega
         have c3 := fun w => Lib.hid (wind_neg x ⟨#[69]⟩ ⟨#[87]⟩ w hx0)
         rw [e1] at l1 ⊢
         clear e1)
      | (have e1 : (x.natAbs : Int) = max x (-x) := by omega
         have c3 := fun w => Lib.hid (wind_pos x ⟨#[69]⟩ ⟨#[87]⟩ w (by omega))
         rw [e1] at l1 ⊢
         clear e1)
    go_enter Tryd.func6, Tryd.ntmps6
    go_wp2_with ((go_at_call 12; (with_reducible refine ((c1 _).out).mono ?_); rintro e wn ⟨rfl, hbn⟩; obtain ⟨hcn, hfn⟩ := bcell hbn; (try simp only [World.size_drew, World.cell?_drew, World.frozen?_drew, World.heap_drewN, World.cell?_drewN, World.frozen?_drewN] at hcn hfn); have hsz := hbn.size; (try simp at hsz); (try have hsl := Nat.lt_of_succ_le hsz); (try have hz0 : w.heap.size < wn.heap.size := (by have := hbn.size; (try simp at this); omega))))
    (refine wp_region_grows (by kernel_rfl) (by kernel_rfl) ?_; intro W_wg hWc_wg hWs_wg hWe_wg; (repeat (go_big_quiet_step (first | (go_at_call 13; with_reducible exact Ext.call0 ((c2 _).out)) | (go_at_call 13; with_reducible exact Ext.call0 ((c3 _).out))))); with_reducible refine wpQuiet_nil ?_; clear hWe_wg hWs_wg hWc_wg W_wg; intro wg hb_wg; obtain ⟨hc_wg, hf_wg⟩ := bcell hb_wg; (try simp only [World.size_drew, World.cell?_drew, World.frozen?_drew, World.heap_drewN, World.cell?_drewN, World.frozen?_drewN] at hc_wg hf_wg); have hs_wg := hb_wg.size; (try simp at hs_wg); (try have hz_wg0 : w.heap.size < wg.heap.size := (by have := hb_wg.size; (try simp at this); omega)); (try have hz_wg1 : wn.heap.size < wg.heap.size := (by have := hb_wg.size; (try simp at this); omega)))
    go_wp2_with fail
    have T := HT wg (by repeat (first | assumption | exact Below.refl _ _ | (refine below_chain ?_ (by assumption) (by first | omega | (simp <;> omega) | simp)) | (refine Below.alloc ?_ (by first | omega | (simp <;> omega) | simp) _) | (apply below_drewN) | (apply below_drew) | (refine Below.setCell ?_ (by first | omega | (simp <;> omega) | simp) _)))
    (refine wp_region_told (by kernel_rfl) (by kernel_rfl) ?_; intro W_wk hWb_wk hWc_wk hWs_wk hWe_wk; (repeat (go_big_quiet_step (first | (go_at_call 14; rename_i d; exact Ext.call (itoa_any _ _ (by omega) (by omega) (Lib.hid (tab_keeps (tab_keeps T.out hWb_wk) d.grown))))))); with_reducible refine wpQuiet_nil ?_; clear hWb_wk hWe_wk hWs_wk hWc_wk W_wk; intro wk hb_wk; obtain ⟨hc_wk, hf_wk⟩ := bcell hb_wk; (try simp only [World.size_drew, World.cell?_drew, World.frozen?_drew, World.heap_drewN, World.cell?_drewN, World.frozen?_drewN] at hc_wk hf_wk); have hs_wk := hb_wk.size; (try simp at hs_wk); (try have hz_wk0 : w.heap.size < wk.heap.size := (by have := hb_wk.size; (try simp at this); omega)))
    go_wp2_with fail
    go_ret
    exact ⟨ret_str (by rw [bapp, bapp, bapp]; simp), (by repeat (first | assumption | exact Below.refl _ _ | (refine below_chain ?_ (by assumption) (by first | omega | (simp <;> omega) | simp)) | (refine Below.alloc ?_ (by first | omega | (simp <;> omega) | simp) _) | (apply below_drewN) | (apply below_drew) | (refine Below.setCell ?_ (by first | omega | (simp <;> omega) | simp) _)))⟩
theorem btext_no {x y : Int} (h : Pt.br x y = false) : btext x y = [] := by unfold btext; simp [h]
theorem btext_x0 {y : Int} (h : Pt.br 0 y = true) : btext 0 y = ns y := by unfold btext; simp [h]
theorem btext_y0 {x : Int} (h : Pt.br x 0 = true) (hx : ¬ x = 0) : btext x 0 = ew x := by unfold btext; simp [h, hx]
theorem btext_xy {x y : Int} (h : Pt.br x y = true) (hx : ¬ x = 0) (hy : ¬ y = 0) : btext x y = ns y ++ Lib.itoa y.natAbs ++ ew x ++ Lib.itoa x.natAbs := by unfold btext; simp [h, hx, hy]
theorem iBT_any (x y : Int) (w : World) (ht : Hid (Tab w)) :
    Calls Tryd.prog 6 #[.agg #[.int .i64 x, .int .i64 y]] w fun e w' => e = .returned (.string ⟨(btext x y).toArray⟩) ∧ Below w.heap.size w w' := by
  by_cases h : Pt.br x y = true
  · by_cases hx : x = 0
    · subst hx; rw [btext_x0 h]; exact iBT_x0 y w h
    · by_cases hy : y = 0
      · subst hy; rw [btext_y0 h hx]; exact iBT_y0 x w h hx
      · rw [btext_xy h hx hy]; exact iBT_xy x y w h hx hy ht
  · have h' : Pt.br x y = false := by simpa using h
    rw [btext_no h']; exact iBT_no x y w h'
theorem sBT_any (x y : Int) (w : World) :
    Calls Tryd.prog 7 #[.agg #[.int .i64 x, .int .i64 y]] w fun e w' => e = .returned (.string ⟨(btext x y).toArray⟩) ∧ Below w.heap.size w w' := by
  by_cases h : Pt.br x y = true
  · by_cases hx : x = 0
    · subst hx; rw [btext_x0 h]; exact sBT_x0 y w h
    · by_cases hy : y = 0
      · subst hy; rw [btext_y0 h hx]; exact sBT_y0 x w h hx
      · rw [btext_xy h hx hy]; exact sBT_xy x y w h hx hy
  · have h' : Pt.br x y = false := by simpa using h
    rw [btext_no h']; exact sBT_no x y w h'
end Go.Proofs.YtigmhhdbldlgaaaDoor
