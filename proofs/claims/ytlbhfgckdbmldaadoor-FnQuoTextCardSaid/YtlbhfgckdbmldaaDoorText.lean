import Derived.Test.YtlbhfgckdbmldaaDoorDec
import Derived.Test.YtlbhfgckdbmldaaDoorShelf
import Derived.Lib.SmallJoins
import Derived.Deep.RegionHeld3
import Derived.Lib.LaidTab
namespace Go.Proofs.YtlbhfgckdbmldaaDoor
open Go.RowKit

/-- the text of a quotient -/
def text (t l : Int) : List UInt8 := if Quo.qv t l then (if l = 1 then Lib.itoa t else Lib.itoa t ++ 47 :: Lib.itoa l) else []
theorem text_no {t l : Int} (h : Quo.qv t l = false) : text t l = [] := by unfold text; simp [h]
theorem text_one {t : Int} (h : Quo.qv t 1 = true) : text t 1 = Lib.itoa t := by unfold text; simp [h]
theorem text_more {t l : Int} (h : Quo.qv t l = true) (h1 : l ≠ 1) : text t l = Lib.itoa t ++ 47 :: Lib.itoa l := by unfold text; simp [h, h1]

theorem below_grow {B : Nat} {w : World} (os : Array Obj) (k : Nat) (h : B ≤ w.heap.size) : Below B w (Sort.grow (w.drewN k) os) :=
  ⟨rfl, rfl, rfl, by simp [Sort.grow], fun i hi => by
    show (w.heap ++ os)[i]? = w.heap[i]?
    rw [Array.getElem?_append_left (by omega)]⟩

abbrev Tab (w : World) : Prop := Lib.TabIs Tryd.prog w "internal/strconv.uint64pow10" .u64 Lib.pow10Tab
theorem gTab : Tryd.prog.globalNamed "internal/strconv.uint64pow10" = some 0 := by kernel_rfl
theorem tab_keeps {w w' : World} (h : Tab w) (hb : Below w.heap.size w w') : Tab w' := Joins.tab_stays gTab h hb (Nat.le_refl _)

theorem itoa_any (n : Int) (w : World) (h0 : -9223372036854775808 ≤ n) (h1 : n ≤ 9223372036854775807) (ht : Hid (Tab w)) :
    Calls Tryd.prog 14 #[.int .i64 n] w fun e w' => e = .returned (.string ⟨(Lib.itoa n).toArray⟩) ∧ Below w.heap.size w w' :=
  (Tryd.strconv_Itoa n h0 h1 w ht.out).mono fun _ _ ⟨he, k, os, hw⟩ => ⟨he, by rw [hw]; exact below_grow os k (Nat.le_refl _)⟩

theorem sText_any (t l : Int) (w : World) :
    Calls Tryd.prog 7 #[.agg #[.int .i64 t, .int .i64 l]] w fun e w' => e = .returned (.string ⟨(text t l).toArray⟩) ∧ Below w.heap.size w w' := by
  by_cases h : Quo.qv t l = true
  · obtain ⟨b1, b2, b3, b4, -⟩ := Quo.qv_true h
    have c0 := fun w => Lib.hid (svalid_is t l true w h)
    have c1 := fun w => Lib.hid (dec_any t w (by omega) (by omega))
    have c2 := fun w => Lib.hid (dec_any l w (by omega) (by omega))
    have l1 := itoa_len (n := t) (by omega) (by omega)
    have l2 := itoa_len (n := l) (by omega) (by omega)
    by_cases h1 : l = 1
    · subst h1
      rw [text_one h]
      clear h c2
      go_enter Tryd.func7, Tryd.ntmps7
      go_wp2_with (first | (go_at_call 15; (with_reducible refine ((c0 _).out).mono ?_); rintro e wn ⟨rfl, hbn⟩; obtain ⟨hcn, hfn⟩ := bcell hbn; (try simp only [World.size_drew, World.cell?_drew, World.frozen?_drew] at hcn hfn); have hsz := hbn.size; (try simp at hsz); (try have hsl := Nat.lt_of_succ_le hsz); (try have hz0 : w.heap.size < wn.heap.size := (by have := hbn.size; (try simp at this); omega))) | (go_at_call 16; (with_reducible refine ((c1 _).out).mono ?_); rintro e wn ⟨rfl, hbn⟩; obtain ⟨hcn, hfn⟩ := bcell hbn; (try simp only [World.size_drew, World.cell?_drew, World.frozen?_drew] at hcn hfn); have hsz := hbn.size; (try simp at hsz); (try have hsl := Nat.lt_of_succ_le hsz); (try have hz0 : w.heap.size < wn.heap.size := (by have := hbn.size; (try simp at this); omega))))
      go_ret
      exact ⟨rfl, (by repeat (first | assumption | exact Below.refl _ _ | (refine below_chain ?_ (by assumption) (by first | omega | (simp <;> omega) | simp)) | (refine Below.alloc ?_ (by first | omega | (simp <;> omega) | simp) _) | (apply below_drewN) | (apply below_drew) | (refine Below.setCell ?_ (by first | omega | (simp <;> omega) | simp) _)))⟩
    · rw [text_more h h1]
      have h1' : (l == 1) = false := by simpa using h1
      clear h h1
      go_enter Tryd.func7, Tryd.ntmps7
      go_wp2_with ((go_at_call 15; (with_reducible refine ((c0 _).out).mono ?_); rintro e wn ⟨rfl, hbn⟩; obtain ⟨hcn, hfn⟩ := bcell hbn; (try simp only [World.size_drew, World.cell?_drew, World.frozen?_drew] at hcn hfn); have hsz := hbn.size; (try simp at hsz); (try have hsl := Nat.lt_of_succ_le hsz); (try have hz0 : w.heap.size < wn.heap.size := (by have := hbn.size; (try simp at this); omega))))
      have m1 : ¬ 9223372036854775807 < (Lib.itoa t).length + 1 := by omega
      have m2 : ¬ 9223372036854775807 < (Lib.itoa t).length + 1 + (Lib.itoa l).length := by omega
      go_region_held3 (fun W => W.cell? ⟨w.heap.size, 0, none⟩ = some (.int .i64 t) ∧ W.cell? ⟨w.heap.size, 1, none⟩ = some (.int .i64 l)) (((try dsimp only); refine ⟨?_, ?_⟩ <;> (simp [*, go_sem]; done)))
        (first | (go_at_call 16; (with_reducible refine ((c1 _).out).mono ?_); rintro e wn ⟨rfl, hbn⟩; obtain ⟨hcn, hfn⟩ := bcell hbn; (try simp only [World.size_drew, World.cell?_drew, World.frozen?_drew] at hcn hfn); have hsz := hbn.size; (try simp at hsz); (try have hsl := Nat.lt_of_succ_le hsz); (try have hz0 : w.heap.size < wn.heap.size := (by have := hbn.size; (try simp at this); omega))) | (go_at_call 16; (with_reducible refine ((c2 _).out).mono ?_); rintro e wn ⟨rfl, hbn⟩; obtain ⟨hcn, hfn⟩ := bcell hbn; (try simp only [World.size_drew, World.cell?_drew, World.frozen?_drew] at hcn hfn); have hsz := hbn.size; (try simp at hsz); (try have hsl := Nat.lt_of_succ_le hsz); (try have hz0 : w.heap.size < wn.heap.size := (by have := hbn.size; (try simp at this); omega))))
      all_goals go_wp2_with fail
      all_goals go_ret
      all_goals exact ⟨ret_str (by rw [bapp, bapp]; simp), (by repeat (first | assumption | exact Below.refl _ _ | (refine below_chain ?_ (by assumption) (by first | omega | (simp <;> omega) | simp)) | (refine Below.alloc ?_ (by first | omega | (simp <;> omega) | simp) _) | (apply below_drewN) | (apply below_drew) | (refine Below.setCell ?_ (by first | omega | (simp <;> omega) | simp) _)))⟩
  · have h' : Quo.qv t l = false := by simpa using h
    have c0 := fun w => Lib.hid (svalid_is t l false w h')
    rw [text_no h']
    clear h h'
    go_enter Tryd.func7, Tryd.ntmps7
    go_wp2_with ((go_at_call 15; (with_reducible refine ((c0 _).out).mono ?_); rintro e wn ⟨rfl, hbn⟩; obtain ⟨hcn, hfn⟩ := bcell hbn; (try simp only [World.size_drew, World.cell?_drew, World.frozen?_drew] at hcn hfn); have hsz := hbn.size; (try simp at hsz); (try have hsl := Nat.lt_of_succ_le hsz); (try have hz0 : w.heap.size < wn.heap.size := (by have := hbn.size; (try simp at this); omega))))
    go_ret
    exact ⟨rfl, (by repeat (first | assumption | exact Below.refl _ _ | (refine below_chain ?_ (by assumption) (by first | omega | (simp <;> omega) | simp)) | (refine Below.alloc ?_ (by first | omega | (simp <;> omega) | simp) _) | (apply below_drewN) | (apply below_drew) | (refine Below.setCell ?_ (by first | omega | (simp <;> omega) | simp) _)))⟩

theorem ta1 (x : Int) (w : World) : (Instr.typeAssert (.iface 41 (.int .i64 x)) 38 41 true).run Tryd.prog w = .ok (.tuple #[.int .i64 x, .bool true]) w := by kernel_rfl
theorem ta2 (x y : Int) (w : World) : (Instr.typeAssert (.iface 44 (.agg #[.int .i64 x, .int .i64 y])) 38 41 true).run Tryd.prog w = .ok (.tuple #[.int .i64 0, .bool false]) w := by kernel_rfl
theorem ta3 (x y : Int) (w : World) : (Instr.typeAssert (.iface 44 (.agg #[.int .i64 x, .int .i64 y])) 38 44 true).run Tryd.prog w = .ok (.tuple #[.agg #[.int .i64 x, .int .i64 y], .bool true]) w := by kernel_rfl

theorem iText_no (t l : Int) (w : World) (h : Quo.qv t l = false) :
    Calls Tryd.prog 6 #[.agg #[.int .i64 t, .int .i64 l]] w fun e w' => e = .returned (.string ⟨(text t l).toArray⟩) ∧ Below w.heap.size w w' := by
  have c0 := fun w => Lib.hid (numberOf_is t l _ false w (numB_no h) h)
  rw [text_no h]
  clear h
  go_enter Tryd.func6, Tryd.ntmps6
  go_wp2_with ((go_at_call 13; (with_reducible refine ((c0 _).out).mono ?_); rintro e wn ⟨rfl, hbn⟩; obtain ⟨hcn, hfn⟩ := bcell hbn; (try simp only [World.size_drew, World.cell?_drew, World.frozen?_drew] at hcn hfn); have hsz := hbn.size; (try simp at hsz); (try have hsl := Nat.lt_of_succ_le hsz); (try have hz0 : w.heap.size < wn.heap.size := (by have := hbn.size; (try simp at this); omega))))
  go_ret
  exact ⟨rfl, (by repeat (first | assumption | exact Below.refl _ _ | (refine below_chain ?_ (by assumption) (by first | omega | (simp <;> omega) | simp)) | (refine Below.alloc ?_ (by first | omega | (simp <;> omega) | simp) _) | (apply below_drewN) | (apply below_drew) | (refine Below.setCell ?_ (by first | omega | (simp <;> omega) | simp) _)))⟩

theorem iText_one (t : Int) (w : World) (h : Quo.qv t 1 = true) (ht : Hid (Tab w)) :
    Calls Tryd.prog 6 #[.agg #[.int .i64 t, .int .i64 1]] w fun e w' => e = .returned (.string ⟨(text t 1).toArray⟩) ∧ Below w.heap.size w w' := by
  obtain ⟨b1, b2, b3, b4, -⟩ := Quo.qv_true h
  have q1 : -9223372036854775808 ≤ t := by omega
  have q2 : t ≤ 9223372036854775807 := by omega
  have c0 := fun w => Lib.hid (numberOf_is t 1 _ true w (numB_one h) h)
  rw [text_one h]
  clear h
  have k1 := ta1
  go_enter Tryd.func6, Tryd.ntmps6
  go_wp2_with (first | (go_at_call 13; (with_reducible refine ((c0 _).out).mono ?_); rintro e wn ⟨rfl, hbn⟩; obtain ⟨hcn, hfn⟩ := bcell hbn; (try simp only [World.size_drew, World.cell?_drew, World.frozen?_drew] at hcn hfn); have hsz := hbn.size; (try simp at hsz); (try have hsl := Nat.lt_of_succ_le hsz); (try have hz0 : w.heap.size < wn.heap.size := (by have := hbn.size; (try simp at this); omega))) | (go_at_call 14; (with_reducible refine (itoa_any _ _ q1 q2 (Lib.hid (tab_keeps ht.out ?_))).mono ?_); exact (by repeat (first | assumption | exact Below.refl _ _ | (refine below_chain ?_ (by assumption) (by first | omega | (simp <;> omega) | simp)) | (refine Below.alloc ?_ (by first | omega | (simp <;> omega) | simp) _) | (apply below_drewN) | (apply below_drew) | (refine Below.setCell ?_ (by first | omega | (simp <;> omega) | simp) _))); rintro e wn ⟨rfl, hbn⟩; obtain ⟨hcn, hfn⟩ := bcell hbn; (try simp only [World.size_drew, World.cell?_drew, World.frozen?_drew] at hcn hfn); have hsz := hbn.size; (try simp at hsz); (try have hsl := Nat.lt_of_succ_le hsz); (try have hz0 : w.heap.size < wn.heap.size := (by have := hbn.size; (try simp at this); omega))))
  go_ret
  exact ⟨rfl, (by repeat (first | assumption | exact Below.refl _ _ | (refine below_chain ?_ (by assumption) (by first | omega | (simp <;> omega) | simp)) | (refine Below.alloc ?_ (by first | omega | (simp <;> omega) | simp) _) | (apply below_drewN) | (apply below_drew) | (refine Below.setCell ?_ (by first | omega | (simp <;> omega) | simp) _)))⟩

theorem iText_more (t l : Int) (w : World) (h : Quo.qv t l = true) (h1 : l ≠ 1) (ht : Hid (Tab w)) :
    Calls Tryd.prog 6 #[.agg #[.int .i64 t, .int .i64 l]] w fun e w' => e = .returned (.string ⟨(text t l).toArray⟩) ∧ Below w.heap.size w w' := by
  obtain ⟨b1, b2, b3, b4, -⟩ := Quo.qv_true h
  have q1 : -9223372036854775808 ≤ t := by omega
  have q2 : t ≤ 9223372036854775807 := by omega
  have q3 : -9223372036854775808 ≤ l := by omega
  have q4 : l ≤ 9223372036854775807 := by omega
  have c0 := fun w => Lib.hid (numberOf_is t l _ true w (numB_more h h1) h)
  have l1 := itoa_len (n := t) (by omega) (by omega)
  have l2 := itoa_len (n := l) (by omega) (by omega)
  rw [text_more h h1]
  clear h h1
  have k2 := ta2
  have k3 := ta3
  go_enter Tryd.func6, Tryd.ntmps6
  go_wp2_with ((go_at_call 13; (with_reducible refine ((c0 _).out).mono ?_); rintro e wv ⟨rfl, hbn⟩; obtain ⟨hcn, hfn⟩ := bcell hbn; (try simp only [World.size_drew, World.cell?_drew, World.frozen?_drew] at hcn hfn); have hsz := hbn.size; (try simp at hsz); (try have hsl := Nat.lt_of_succ_le hsz); (try have hz0 : w.heap.size < wv.heap.size := (by have := hbn.size; (try simp at this); omega))))
  have m1 : ¬ 9223372036854775807 < (Lib.itoa t).length + 1 := by omega
  have m2 : ¬ 9223372036854775807 < (Lib.itoa t).length + 1 + (Lib.itoa l).length := by omega
  go_region_held3 (fun W => W.cell? ⟨wv.heap.size, 0, none⟩ = some (.int .i64 t) ∧ W.cell? ⟨wv.heap.size, 1, none⟩ = some (.int .i64 l)) (((try dsimp only); refine ⟨?_, ?_⟩ <;> (simp [*, go_sem]; done)))
    (first | (go_at_call 14; (with_reducible refine (itoa_any t _ q1 q2 (Lib.hid (tab_keeps ht.out ?_))).mono ?_); exact (by repeat (first | assumption | exact Below.refl _ _ | (refine below_chain ?_ (by assumption) (by first | omega | (simp <;> omega) | simp)) | (refine Below.alloc ?_ (by first | omega | (simp <;> omega) | simp) _) | (apply below_drewN) | (apply below_drew) | (refine Below.setCell ?_ (by first | omega | (simp <;> omega) | simp) _))); rintro e wn ⟨rfl, hbn⟩; obtain ⟨hcn, hfn⟩ := bcell hbn; (try simp only [World.size_drew, World.cell?_drew, World.frozen?_drew] at hcn hfn); have hsz := hbn.size; (try simp at hsz); (try have hsl := Nat.lt_of_succ_le hsz); (try have hz0 : w.heap.size < wn.heap.size := (by have := hbn.size; (try simp at this); omega)); (try have hz1 : wv.heap.size < wn.heap.size := (by have := hbn.size; (try simp at this); omega))) | (go_at_call 14; (with_reducible refine (itoa_any l _ q3 q4 (Lib.hid (tab_keeps ht.out ?_))).mono ?_); exact (by repeat (first | assumption | exact Below.refl _ _ | (refine below_chain ?_ (by assumption) (by first | omega | (simp <;> omega) | simp)) | (refine Below.alloc ?_ (by first | omega | (simp <;> omega) | simp) _) | (apply below_drewN) | (apply below_drew) | (refine Below.setCell ?_ (by first | omega | (simp <;> omega) | simp) _))); rintro e wn ⟨rfl, hbn⟩; obtain ⟨hcn, hfn⟩ := bcell hbn; (try simp only [World.size_drew, World.cell?_drew, World.frozen?_drew] at hcn hfn); have hsz := hbn.size; (try simp at hsz); (try have hsl := Nat.lt_of_succ_le hsz); (try have hz0 : w.heap.size < wn.heap.size := (by have := hbn.size; (try simp at this); omega)); (try have hz1 : wv.heap.size < wn.heap.size := (by have := hbn.size; (try simp at this); omega))))
  all_goals go_wp2_with fail
  all_goals go_ret
  all_goals exact ⟨ret_str (by rw [bapp, bapp]; simp), (by repeat (first | assumption | exact Below.refl _ _ | (refine below_chain ?_ (by assumption) (by first | omega | (simp <;> omega) | simp)) | (refine Below.alloc ?_ (by first | omega | (simp <;> omega) | simp) _) | (apply below_drewN) | (apply below_drew) | (refine Below.setCell ?_ (by first | omega | (simp <;> omega) | simp) _)))⟩

theorem iText_any (t l : Int) (w : World) (ht : Hid (Tab w)) :
    Calls Tryd.prog 6 #[.agg #[.int .i64 t, .int .i64 l]] w fun e w' => e = .returned (.string ⟨(text t l).toArray⟩) ∧ Below w.heap.size w w' := by
  by_cases h : Quo.qv t l = true
  · by_cases h1 : l = 1
    · subst h1; exact iText_one t w h ht
    · exact iText_more t l w h h1 ht
  · exact iText_no t l w (by simpa using h)
end Go.Proofs.YtlbhfgckdbmldaaDoor
