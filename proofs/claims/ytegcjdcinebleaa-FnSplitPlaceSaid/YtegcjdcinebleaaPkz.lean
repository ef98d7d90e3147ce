/-
  The program's parcels: which lists are parcels, which sides oppose each other.
  The program's lists of points laid one behind the other (slices.Grow, slices.Concat).
  The corners of a parcel at which it does not go straight on, by the program.
  How many sides two parcels have in common, by the program: two loops over corners, one within the other.
  How the program splits a parcel.
  What the program's functions on parcels answer: split, share, marks, common sides.
-/
import Derived.Test.YtegcjdcinebleaaYip
import Derived.Test.YtegcjdcinebleaaYma
import Derived.Test.YtegcjdcinebleaaPkp
import Derived.Test.YtegcjdcinebleaaYra
import Derived.Test.YtegcjdcinebleaaZf
import Derived.Lib.AppendZeros
import Derived.RangeFuncNested
import Derived.Test.YtegcjdcinebleaaYdr
namespace Go.Proofs.Ytegcjdcinebleaa
open Go.RowKit Poly
set_option linter.unusedVariables false

theorem set_same {w : World} {g : Nat} {x : Value} (h : w.cell? ⟨g, 0, none⟩ = some x) (v : Value) : (w.setCell ⟨g, 0, none⟩ v).cell? ⟨g, 0, none⟩ = some v := World.cell?_setCell_same' _ _ _ (by rw [h]; rfl)
section
variable {p : Option Addr} {c : Nat} {L : List P2} {w : World}
set_option maxHeartbeats 2000000 in
theorem iParcelOf_no (h : Ints w p (fl L)) (hc : L.length ≤ c) (hl : L.length ≤ 4000000000000000000) (hv : parV L = false) :
    Calls Try.prog 81 #[.slice p L.length c] w fun e w' => e = .returned (.tuple #[.agg #[.pointer none], .bool false]) ∧ Below w.heap.size w w' := by
  have H := Lib.hid h
  cases hp : polyV L
  · have c1 := fun w h => Lib.hid (iSimpleOf_no (p := p) (c := c) (L := L) (w := w) h hc hl hp)
    clear h hv hp
    go_enter Try.func81, Try.ntmps81
    go_wp2_with ((go_at_call 63; (with_reducible refine ((c1 _ ?_).out).mono ?_); (focus ((exact H.out.below (by repeat (first | assumption | exact Below.refl _ _ | (refine below_chain ?_ (by assumption) (by first | omega | (simp <;> omega) | simp)) | (refine Below.alloc ?_ (by first | omega | (simp <;> omega) | simp) _) | (apply below_drewN) | (apply below_drew) | (refine Below.setCell ?_ (by first | omega | (simp <;> omega) | simp) _)))); done)); rintro e wa ⟨rfl, hb_wa⟩; have hs_wa := hb_wa.size; (try simp at hs_wa)); obtain ⟨hc_wa, hf_wa⟩ := bcell hb_wa; (try have hz_wa : w.heap.size < wa.heap.size := by omega))
    exact bodyPost_ret (v := .tuple #[.agg #[.pointer none], .bool false]) (by simp [results, Try.results81, go_sem, *]) rfl ⟨rfl, (by repeat (first | assumption | exact Below.refl _ _ | (refine below_chain ?_ (by assumption) (by first | omega | (simp <;> omega) | simp)) | (refine Below.alloc ?_ (by first | omega | (simp <;> omega) | simp) _) | (apply below_drewN) | (apply below_drew) | (refine Below.setCell ?_ (by first | omega | (simp <;> omega) | simp) _)))⟩
  · have hok : okP L = true := polyV_ok hp
    have ha : areaL L ≤ 0 := by
      unfold parV at hv; rw [hp, Bool.true_and, decide_eq_false_iff_not] at hv; omega
    have c1 := fun w h => Lib.hid (iSimpleOf_yes (p := p) (c := c) (L := L) (w := w) h hc hp)
    have c2 := fun (A : Nat → Nat) (n₀ : Nat) w h hn => Lib.hid (iArea (n₀ := n₀) (A := A) (L := L) (w := w) h hn hok)
    clear h hv hok hp
    go_enter Try.func81, Try.ntmps81
    go_wp2_with (first | ((go_at_call 63; (with_reducible refine ((c1 _ ?_).out).mono ?_); (focus ((exact H.out.below (by repeat (first | assumption | exact Below.refl _ _ | (refine below_chain ?_ (by assumption) (by first | omega | (simp <;> omega) | simp)) | (refine Below.alloc ?_ (by first | omega | (simp <;> omega) | simp) _) | (apply below_drewN) | (apply below_drew) | (refine Below.setCell ?_ (by first | omega | (simp <;> omega) | simp) _)))); done)); rintro e wa ⟨A, ⟨rfl, hR⟩, hb_wa⟩; have hs_wa := hb_wa.size; (try simp at hs_wa)); obtain ⟨hc_wa, hf_wa⟩ := bcell hb_wa; (try have hz_wa : w.heap.size < wa.heap.size := by omega)) | ((go_at_call 70; (with_reducible refine ((c2 A wa.heap.size _ ?_ ?_).out).mono ?_); (focus ((exact hR.below ((Below.refl _ _).alloc (Nat.le_refl _) _)); done)); (focus (((simp <;> omega)); done)); rintro e wb ⟨rfl, hb_wb⟩; have hs_wb := hb_wb.size; (try simp at hs_wb)); obtain ⟨hc_wb, hf_wb⟩ := bcell hb_wb; (try have hz_wb : w.heap.size < wb.heap.size := by omega)))
    have e1 : wb.cell? ⟨w.heap.size, 0, none⟩ = some (.pointer none) := by (repeat (first | with_reducible assumption | (with_reducible refine cell_below_keep (by with_reducible assumption) ?_) | (with_reducible refine cell_gb_keep (by with_reducible assumption) (by omega) ?_) | (simp [go_sem]; done) | (with_reducible refine cell_alloc_keep _ ?_) | (with_reducible refine cell_drew_keep ?_) | (with_reducible refine cell_drewN_keep _ ?_) | (with_reducible refine cell_set_keep _ (by first | (simp; omega) | omega) ?_)))
    have e2 := set_same e1
    exact bodyPost_ret (v := .tuple #[.agg #[.pointer none], .bool false]) (by simp [results, Try.results81, go_sem, *]) rfl ⟨rfl, (by repeat (first | assumption | exact Below.refl _ _ | (refine below_chain ?_ (by assumption) (by first | omega | (simp <;> omega) | simp)) | (refine Below.alloc ?_ (by first | omega | (simp <;> omega) | simp) _) | (apply below_drewN) | (apply below_drew) | (refine Below.setCell ?_ (by first | omega | (simp <;> omega) | simp) _)))⟩
set_option maxHeartbeats 2000000 in
theorem iParcelOf_yes (h : Ints w p (fl L)) (hc : L.length ≤ c) (hv : parV L = true) :
    Calls Try.prog 81 #[.slice p L.length c] w fun e w' => ∃ A : Nat → Nat, (e = .returned (.tuple #[.agg #[.pointer (some ⟨A 0, 0, none⟩)], .bool true]) ∧ RingB w'.heap.size A L w') ∧ Below w.heap.size w w' := by
  have H := Lib.hid h
  have hp := parV_poly hv
  have hok : okP L = true := polyV_ok hp
  have ha := parV_area hv
  have c1 := fun w h => Lib.hid (iSimpleOf_yes (p := p) (c := c) (L := L) (w := w) h hc hp)
  have c2 := fun (A : Nat → Nat) (n₀ : Nat) w h hn => Lib.hid (iArea (n₀ := n₀) (A := A) (L := L) (w := w) h hn hok)
  have ha' : ¬ areaL L ≤ 0 := by omega
  clear h hv hok hp
  go_enter Try.func81, Try.ntmps81
  go_wp2_with (first | ((go_at_call 63; (with_reducible refine ((c1 _ ?_).out).mono ?_); (focus ((exact H.out.below (by repeat (first | assumption | exact Below.refl _ _ | (refine below_chain ?_ (by assumption) (by first | omega | (simp <;> omega) | simp)) | (refine Below.alloc ?_ (by first | omega | (simp <;> omega) | simp) _) | (apply below_drewN) | (apply below_drew) | (refine Below.setCell ?_ (by first | omega | (simp <;> omega) | simp) _)))); done)); rintro e wa ⟨A, ⟨rfl, hR⟩, hb_wa⟩; have hs_wa := hb_wa.size; (try simp at hs_wa)); obtain ⟨hc_wa, hf_wa⟩ := bcell hb_wa; (try have hz_wa : w.heap.size < wa.heap.size := by omega)) | ((go_at_call 70; (with_reducible refine ((c2 A wa.heap.size _ ?_ ?_).out).mono ?_); (focus ((exact hR.below ((Below.refl _ _).alloc (Nat.le_refl _) _)); done)); (focus (((simp <;> omega)); done)); rintro e wb ⟨rfl, hb_wb⟩; have hs_wb := hb_wb.size; (try simp at hs_wb)); obtain ⟨hc_wb, hf_wb⟩ := bcell hb_wb; (try have hz_wb : w.heap.size < wb.heap.size := by omega)))
  have e1 : wb.cell? ⟨w.heap.size, 0, none⟩ = some (.pointer none) := by (repeat (first | with_reducible assumption | (with_reducible refine cell_below_keep (by with_reducible assumption) ?_) | (with_reducible refine cell_gb_keep (by with_reducible assumption) (by omega) ?_) | (simp [go_sem]; done) | (with_reducible refine cell_alloc_keep _ ?_) | (with_reducible refine cell_drew_keep ?_) | (with_reducible refine cell_drewN_keep _ ?_) | (with_reducible refine cell_set_keep _ (by first | (simp; omega) | omega) ?_)))
  have e2 := set_same e1
  refine bodyPost_ret (v := .tuple #[.agg #[.pointer (some ⟨A 0, 0, none⟩)], .bool true]) (by simp [results, Try.results81, go_sem, *]) rfl ⟨A, ⟨rfl, ?_⟩, (by repeat (first | assumption | exact Below.refl _ _ | (refine below_chain ?_ (by assumption) (by first | omega | (simp <;> omega) | simp)) | (refine Below.alloc ?_ (by first | omega | (simp <;> omega) | simp) _) | (apply below_drewN) | (apply below_drew) | (refine Below.setCell ?_ (by first | omega | (simp <;> omega) | simp) _)))⟩
  have hq : Below wa.heap.size wa wb := ((Below.refl wa.heap.size wa).alloc (Nat.le_refl _) _).trans (hb_wb.mono (by simp))
  exact ((hR.below hq).put e1 _).up (by simpa using hq.size)
set_option maxHeartbeats 2000000 in
theorem iParcelValid_no (h : Ints w p (fl L)) (hc : L.length ≤ c) (hl : L.length ≤ 4000000000000000000) (hv : parV L = false) :
    Calls Try.prog 34 #[.slice p L.length c] w fun e w' => e = .returned (.bool false) ∧ Below w.heap.size w w' := by
  have H := Lib.hid h
  have c1 := fun w h => Lib.hid (iParcelOf_no (p := p) (c := c) (L := L) (w := w) h hc hl hv)
  clear h hv
  go_enter Try.func34, Try.ntmps34
  go_wp2_with ((go_at_call 81; (with_reducible refine ((c1 _ ?_).out).mono ?_); (focus ((exact H.out.below (by repeat (first | assumption | exact Below.refl _ _ | (refine below_chain ?_ (by assumption) (by first | omega | (simp <;> omega) | simp)) | (refine Below.alloc ?_ (by first | omega | (simp <;> omega) | simp) _) | (apply below_drewN) | (apply below_drew) | (refine Below.setCell ?_ (by first | omega | (simp <;> omega) | simp) _)))); done)); rintro e wa ⟨rfl, hb_wa⟩; have hs_wa := hb_wa.size; (try simp at hs_wa)); obtain ⟨hc_wa, hf_wa⟩ := bcell hb_wa; (try have hz_wa : w.heap.size < wa.heap.size := by omega))
  exact bodyPost_ret (v := .bool false) (by simp [results, Try.results34, go_sem, *]) rfl ⟨rfl, (by repeat (first | assumption | exact Below.refl _ _ | (refine below_chain ?_ (by assumption) (by first | omega | (simp <;> omega) | simp)) | (refine Below.alloc ?_ (by first | omega | (simp <;> omega) | simp) _) | (apply below_drewN) | (apply below_drew) | (refine Below.setCell ?_ (by first | omega | (simp <;> omega) | simp) _)))⟩
set_option maxHeartbeats 2000000 in
theorem iParcelValid_yes (h : Ints w p (fl L)) (hc : L.length ≤ c) (hv : parV L = true) :
    Calls Try.prog 34 #[.slice p L.length c] w fun e w' => e = .returned (.bool true) ∧ Below w.heap.size w w' := by
  have H := Lib.hid h
  have c1 := fun w h => Lib.hid (iParcelOf_yes (p := p) (c := c) (L := L) (w := w) h hc hv)
  clear h hv
  go_enter Try.func34, Try.ntmps34
  go_wp2_with ((go_at_call 81; (with_reducible refine ((c1 _ ?_).out).mono ?_); (focus ((exact H.out.below (by repeat (first | assumption | exact Below.refl _ _ | (refine below_chain ?_ (by assumption) (by first | omega | (simp <;> omega) | simp)) | (refine Below.alloc ?_ (by first | omega | (simp <;> omega) | simp) _) | (apply below_drewN) | (apply below_drew) | (refine Below.setCell ?_ (by first | omega | (simp <;> omega) | simp) _)))); done)); rintro e wa ⟨A, ⟨rfl, hR⟩, hb_wa⟩; have hs_wa := hb_wa.size; (try simp at hs_wa)); obtain ⟨hc_wa, hf_wa⟩ := bcell hb_wa; (try have hz_wa : w.heap.size < wa.heap.size := by omega))
  exact bodyPost_ret (v := .bool true) (by simp [results, Try.results34, go_sem, *]) rfl ⟨rfl, (by repeat (first | assumption | exact Below.refl _ _ | (refine below_chain ?_ (by assumption) (by first | omega | (simp <;> omega) | simp)) | (refine Below.alloc ?_ (by first | omega | (simp <;> omega) | simp) _) | (apply below_drewN) | (apply below_drew) | (refine Below.setCell ?_ (by first | omega | (simp <;> omega) | simp) _)))⟩
end
section
variable {n₁ n₂ : Nat} {A B : Nat → Nat} {L M : List P2} {w : World}
set_option maxHeartbeats 2000000 in
theorem iOpposes (hR : Ring n₁ A L w) (hn : n₁ ≤ w.heap.size) (hS : Ring n₂ B M w) (hm : n₂ ≤ w.heap.size) (i k : Nat) :
    Calls Try.prog 113 #[.pointer (some ⟨A i, 0, none⟩), .pointer (some ⟨B k, 0, none⟩)] w fun e w' => e = .returned (.bool (oppP L M i k)) ∧ Below w.heap.size w w' := by
  obtain ⟨x0, x1, x2⟩ := hR.cells i
  obtain ⟨y0, y1, y2⟩ := hR.cells (i + 1)
  obtain ⟨z0, z1, z2⟩ := hS.cells k
  obtain ⟨t0, t1, t2⟩ := hS.cells (k + 1)
  have l1 : A i < w.heap.size := Nat.lt_of_lt_of_le (hR.lt i) hn
  have l2 : A (i + 1) < w.heap.size := Nat.lt_of_lt_of_le (hR.lt (i + 1)) hn
  have l3 : B k < w.heap.size := Nat.lt_of_lt_of_le (hS.lt k) hm
  have l4 : B (k + 1) < w.heap.size := Nat.lt_of_lt_of_le (hS.lt (k + 1)) hm
  have ho : oppP L M i k = (((cy L i).1 == (cy M (k + 1)).1 && (cy L i).2 == (cy M (k + 1)).2) && ((cy L (i + 1)).1 == (cy M k).1 && (cy L (i + 1)).2 == (cy M k).2)) := by
    unfold oppP
    have e : ∀ a b : P2, decide (a = b) = (a.1 == b.1 && a.2 == b.2) := fun a b => by
      by_cases e : a = b
      · subst e; simp
      · rw [decide_eq_false e]
        by_cases h1 : a.1 = b.1
        · have h2 : ¬ a.2 = b.2 := fun h2 => e (Prod.ext h1 h2)
          simp [h2]
        · simp [h1]
    rw [e, e]
  rw [ho]
  clear hR hS ho
  generalize (cy L i).1 = a1 at *
  generalize (cy L i).2 = a2 at *
  generalize (cy L (i + 1)).1 = b1 at *
  generalize (cy L (i + 1)).2 = b2 at *
  generalize (cy M k).1 = c1 at *
  generalize (cy M k).2 = c2 at *
  generalize (cy M (k + 1)).1 = d1 at *
  generalize (cy M (k + 1)).2 = d2 at *
  by_cases h1 : a1 = d1
  · by_cases h2 : a2 = d2
    · by_cases h3 : b1 = c1
      · by_cases h4 : b2 = c2
        · go_enter Try.func113, Try.ntmps113
          go_upto_region 1 with fail
          go_quiet (fail)
          go_wp2_with fail
          go_ret
          exact ⟨by simp [h1, h2, h3, h4], (by repeat (first | assumption | exact Below.refl _ _ | (refine below_chain ?_ (by assumption) (by first | omega | (simp <;> omega) | simp)) | (refine Below.alloc ?_ (by first | omega | (simp <;> omega) | simp) _) | (apply below_drewN) | (apply below_drew) | (refine Below.setCell ?_ (by first | omega | (simp <;> omega) | simp) _)))⟩
        · go_enter Try.func113, Try.ntmps113
          go_upto_region 1 with fail
          go_quiet (fail)
          go_wp2_with fail
          go_ret
          exact ⟨by simp [h1, h2, h3, h4], (by repeat (first | assumption | exact Below.refl _ _ | (refine below_chain ?_ (by assumption) (by first | omega | (simp <;> omega) | simp)) | (refine Below.alloc ?_ (by first | omega | (simp <;> omega) | simp) _) | (apply below_drewN) | (apply below_drew) | (refine Below.setCell ?_ (by first | omega | (simp <;> omega) | simp) _)))⟩
      · go_enter Try.func113, Try.ntmps113
        go_upto_region 1 with fail
        go_quiet (fail)
        go_wp2_with fail
        go_ret
        exact ⟨by simp [h1, h2, h3], (by repeat (first | assumption | exact Below.refl _ _ | (refine below_chain ?_ (by assumption) (by first | omega | (simp <;> omega) | simp)) | (refine Below.alloc ?_ (by first | omega | (simp <;> omega) | simp) _) | (apply below_drewN) | (apply below_drew) | (refine Below.setCell ?_ (by first | omega | (simp <;> omega) | simp) _)))⟩
    · go_enter Try.func113, Try.ntmps113
      go_upto_region 1 with fail
      go_quiet (fail)
      go_wp2_with fail
      go_ret
      exact ⟨by simp [h1, h2], (by repeat (first | assumption | exact Below.refl _ _ | (refine below_chain ?_ (by assumption) (by first | omega | (simp <;> omega) | simp)) | (refine Below.alloc ?_ (by first | omega | (simp <;> omega) | simp) _) | (apply below_drewN) | (apply below_drew) | (refine Below.setCell ?_ (by first | omega | (simp <;> omega) | simp) _)))⟩
  · go_enter Try.func113, Try.ntmps113
    go_upto_region 1 with fail
    go_quiet (fail)
    go_wp2_with fail
    go_ret
    exact ⟨by simp [h1], (by repeat (first | assumption | exact Below.refl _ _ | (refine below_chain ?_ (by assumption) (by first | omega | (simp <;> omega) | simp)) | (refine Below.alloc ?_ (by first | omega | (simp <;> omega) | simp) _) | (apply below_drewN) | (apply below_drew) | (refine Below.setCell ?_ (by first | omega | (simp <;> omega) | simp) _)))⟩
end
end Go.Proofs.Ytegcjdcinebleaa
namespace Go.Proofs.Ytegcjdcinebleaa
open Go.RowKit Poly
set_option linter.unusedVariables false

theorem wp_append_zerosP {P : Program} (w : World) {ops : Array Oper} {rest : List Oper} {o : Oper} {a : Act} {Q : Exit → Act → World → Prop} (hgd : o.guard = none) (s x : Operand) (t tn : TypeId)
    (ho : o.op = .call { callee := .builtin .append, args := #[s, x], argTypes := #[t, tn] })
    (e : TypeId) (z : Value) (sz bytes : Nat) (ht : P.underlying t = some (.slice e)) (htn : P.underlying tn = some (.int .i64)) (hinfo : (P.info? e).map (fun i => (i.zero, i.size, i.bytes)) = some (some z, sz, bytes)) (hzs : z.cells.size = sz) (hsz : 0 < sz) (hby : bytes ≤ 32)
    (hs : a.eval s = .slice none 0 0) (n : Nat) (hn : 0 < n) (hn4 : n ≤ 4194304) (hx : a.eval x = .int .i64 n)
    (h : ∀ cap' w', n ≤ cap' → Own w' w.heap.size e sz 0 cap' [] → Below w.heap.size w w' → wpList P ops Q rest (a.put o.dst (.slice (some ⟨w.heap.size, 0, none⟩) n cap')) w') :
    wpList P ops Q (o :: rest) a w := by
  obtain ⟨i, hi, hzz⟩ := Option.map_eq_some_iff.1 hinfo
  simp only [Prod.mk.injEq] at hzz
  obtain ⟨hz, hs', hb⟩ := hzz
  have hbn : n * bytes ≤ 4194304 * 32 := Nat.mul_le_mul hn4 hby
  refine Lib.wpList_append_run w hgd s x t tn ho _ _ hs hx _ _ (Lib.run_append_nil_zeros (P := P) w t tn o.type e i z .i64 .i64 ht htn hi hz n hn (by omega) (by omega) (by rw [hb]; omega)) ?_
  have hcap := grownCap_ge w n 0 e
  refine h _ _ hcap ?_ ((below_drew (Below.refl _ _)).alloc (Nat.le_refl _) _)
  refine .of (cur := Builtin.zeroCells z.cells n ++ Builtin.zeroCells z.cells (grownCap w n 0 e - n)) ?_ (Nat.zero_le _) (grownCap_le_maxLen w n 0 e (by unfold maxLen; omega)) ?_ (by simp [ivs]) (by simp)
  · have := Deep.blk_alloc_new w.drew (.cells (Builtin.zeroCells z.cells n ++ Builtin.zeroCells z.cells (grownCap w n 0 e - n)) e)
    exact this
  · rw [Array.size_append, size_zeroCells, size_zeroCells, hzs, ← Nat.add_mul]
    congr 1; omega

theorem iGrowP (n : Nat) (w : World) (hn : 0 < n) (hn4 : n ≤ 4194304) :
    Calls Try.prog 122 #[.slice none 0 0, .int .i64 n] w fun e w' => ∃ g cap, e = .returned (.slice (some ⟨g, 0, none⟩) 0 cap) ∧ w.heap.size ≤ g ∧ Own w' g 31 2 0 cap [] ∧ Below w.heap.size w w' := by
  have hn' : (0 : Int) < (n : Int) := by omega
  go_enter Try.func122, Try.ntmps122
  go_wp2_with (at_builtin; refine wp_append_zerosP _ rfl _ _ 23 3 rfl 31 _ 2 16 Try.underlying23 Try.underlying3 info_point rfl (by decide) (by decide) rfl n hn hn4 rfl ?_; intro cap' w' hcap hown hb)
  go_ret
  exact ⟨_, cap', rfl, Nat.le_refl _, hown, hb⟩
theorem cell_below_anyP {w w' : World} {a : Addr} {v : Value} (h : Below w.heap.size w w') (hc : w.cell? a = some v) : w'.cell? a = some v := (World.cell?_of_block (h.block _ (World.block_lt_of_cell? w a hc))).trans hc
/-- what is laid out after each of two lists -/
def prtP (xs ys : List P2) (j : Nat) : List P2 := if j = 0 then [] else if j = 1 then xs else xs ++ ys
set_option maxHeartbeats 4000000 in
set_option maxRecDepth 100000 in
theorem iConcatP (sb cs c1 c2 k1 k2 K : Nat) (a1 a2 : Addr) (xs ys : List P2) (w : World) (h0 : w.cell? ⟨sb, 0, none⟩ = some (.slice (some a1) k1 c1)) (h1 : w.cell? ⟨sb, 1, none⟩ = some (.slice (some a2) k2 c2))
    (hx : ∀ (j : Nat) (z : Int), (fl xs)[j]? = some z → w.cell? (a1.add j) = some (.int .i64 z)) (hy : ∀ (j : Nat) (z : Int), (fl ys)[j]? = some z → w.cell? (a2.add j) = some (.int .i64 z)) (l1 : xs.length = k1) (l2 : ys.length = k2) (hK : k1 + k2 = K) (h12 : K ≤ 12) (h00 : 0 < K) :
    Calls Try.prog 112 #[.slice (some ⟨sb, 0, none⟩) 2 cs] w fun e w' => ∃ g cap, e = .returned (.slice (some ⟨g, 0, none⟩) K cap) ∧ w.heap.size ≤ g ∧ Own w' g 31 2 K cap (fl (xs ++ ys)) ∧ Below w.heap.size w w' := by
  have hKi : (k1 : Int) + (k2 : Int) = (K : Int) := by omega
  have hk1 : k1 ≤ 12 := by omega
  have hk2 : k2 ≤ 12 := by omega
  have HX := Lib.hid (And.intro hx (And.intro hy (And.intro l1 (And.intro l2 hK))))
  clear hx hy l1 l2 hK
  go_enter Try.func112, Try.ntmps112
  go_wp2_with fail
  go_loopw [3, 11] (fun s i wr => ∃ j : Nat, j ≤ 2 ∧ i = .int .i64 j ∧ s = .int .i64 (if j = 0 then 0 else if j = 1 then (k1 : Int) else (K : Int)) ∧ w = wr) (fun _ i _ => 2 - (intOf i).toNat)
  case atStart => exact ⟨0, by omega, rfl, rfl, rfl⟩
  case round =>
    obtain ⟨j, hj, rfl, rfl, rfl⟩ := hrel
    have hlt : j = 0 ∨ j = 1 ∨ j = 2 := by omega
    rcases hlt with rfl | rfl | rfl
    · go_wp2_with fail
      exact ⟨⟨1, by omega, rfl, by first | rfl | go_num, trivial⟩, by simp [intOf]⟩
    · go_wp2_with fail
      exact ⟨⟨2, by omega, rfl, by first | rfl | go_num, trivial⟩, by simp [intOf]⟩
    · go_wp2_with (go_at_call 122; (with_reducible refine (iGrowP K _ h00 (by omega)).mono ?_); rintro e w1 ⟨g, cap, rfl, hg, hown, hb_w1⟩; have hs_w1 := hb_w1.size; have HO := Lib.hid hown; clear hown)
      go_loopw [6, 27] (fun v i wr => ∃ (j g cap : Nat), j ≤ 2 ∧ i = .int .i64 j ∧ v = .slice (some ⟨g, 0, none⟩) (if j = 0 then 0 else if j = 1 then k1 else K) cap ∧ w.heap.size ≤ g ∧ Own wr g 31 2 (if j = 0 then 0 else if j = 1 then k1 else K) cap (fl (prtP xs ys j)) ∧ Below w.heap.size w wr) (fun _ i _ => 2 - (intOf i).toNat)
      case atStart => exact ⟨0, g, cap, by omega, rfl, rfl, hg, HO.out, hb_w1⟩
      case round =>
        clear hb_w1 hs_w1 HO hg
        rename World => wr
        obtain ⟨j, g, cap, hj, rfl, rfl, hg, ho, hbr⟩ := hrel
        have d0 := cell_below_keep hbr h0
        have d1 := cell_below_keep hbr h1
        have hsr := hbr.size
        have hlt : j = 0 ∨ j = 1 ∨ j = 2 := by omega
        rcases hlt with rfl | rfl | rfl
        · have HO : Hid (Own wr g 31 2 0 cap []) := Lib.hid (by simpa [prtP, fl] using ho)
          clear ho
          go_wp2_with (at_builtin; refine wp_append _ rfl _ _ 23 rfl 31 _ 2 16 Try.underlying23 info_point rfl (by decide) (by decide) g 0 cap [] rfl HO.out a1 k1 c1 (fl xs) rfl (by rw [fl_len, HX.out.2.2.1]) (fun j z hz => cell_below_anyP hbr (HX.out.1 j z hz)) (by omega) ?_; intro g2 d2 w2 hown2 hg2 hloc2 hsz2; have HN := Lib.hid (And.intro hown2 (And.intro hg2 hloc2)); clear hown2 hg2 hloc2)
          have hgl : w.heap.size ≤ g2 := by rcases HN.out.2.2 with e | e <;> omega
          have ho2 : Own w2 g2 31 2 k1 d2 (fl xs) := by have := HN.out.1; simpa using this
          exact ⟨⟨1, g2, d2, by omega, rfl, by simp, hgl, by simpa [prtP] using ho2, below_gr hbr HN.out.2.1 hg hsr⟩, by simp [intOf]⟩
        · have HO : Hid (Own wr g 31 2 k1 cap (fl xs)) := Lib.hid (by simpa [prtP, fl] using ho)
          clear ho
          go_wp2_with (at_builtin; refine wp_append _ rfl _ _ 23 rfl 31 _ 2 16 Try.underlying23 info_point rfl (by decide) (by decide) g k1 cap (fl xs) rfl HO.out a2 k2 c2 (fl ys) rfl (by rw [fl_len, HX.out.2.2.2.1]) (fun j z hz => cell_below_anyP hbr (HX.out.2.1 j z hz)) (by omega) ?_; intro g2 d2 w2 hown2 hg2 hloc2 hsz2; have HN := Lib.hid (And.intro hown2 (And.intro hg2 hloc2)); clear hown2 hg2 hloc2)
          have hgl : w.heap.size ≤ g2 := by rcases HN.out.2.2 with e | e <;> omega
          have ho2 : Own w2 g2 31 2 K d2 (fl (xs ++ ys)) := by have := HN.out.1; rw [HX.out.2.2.2.2, ← fl_append] at this; exact this
          have hKn := HX.out.2.2.2.2
          exact ⟨⟨2, g2, d2, by omega, rfl, by simp [hKn], hgl, by simpa [prtP] using ho2, below_gr hbr HN.out.2.1 hg hsr⟩, by simp [intOf]⟩
        · have HO : Hid (Own wr g 31 2 K cap (fl (xs ++ ys))) := Lib.hid (by simpa [prtP, fl] using ho)
          clear ho
          go_wp2_with fail
          go_ret
          exact ⟨g, cap, by simp, hg, HO.out, hbr⟩
end Go.Proofs.Ytegcjdcinebleaa
namespace Poly
def mstep (L : List P2) (s : Nat × List P2) (x : Nat) : Nat × List P2 := (x, if sd (cy L s.1) (cy L (s.1 + 1)) (cy L (x + 1)) = 0 then s.2 else s.2 ++ [cy L x])
def mst (L : List P2) (pre : List Nat) : Nat × List P2 := pre.foldl (mstep L) (L.length - 1, [])
theorem mst_snoc (L : List P2) (pre : List Nat) (x : Nat) : mst L (pre ++ [x]) = mstep L (mst L pre) x := by unfold mst; rw [List.foldl_append]; rfl
theorem mst_len (L : List P2) (pre : List Nat) : (mst L pre).2.length ≤ pre.length := by
  suffices ∀ (pre : List Nat) (s : Nat × List P2), (pre.foldl (mstep L) s).2.length ≤ s.2.length + pre.length by
    have := this pre (L.length - 1, [])
    simpa [mst] using this
  intro pre
  induction pre with
  | nil => intro s; simp
  | cons a l ih =>
    intro s
    have := ih (mstep L s a)
    have h2 : (mstep L s a).2.length ≤ s.2.length + 1 := by unfold mstep; dsimp only; split <;> simp
    rw [List.foldl_cons, List.length_cons]
    omega
theorem mst_range (L : List P2) (h : 0 < L.length) : ∀ k, mst L (List.range k) = (if k = 0 then L.length - 1 else k - 1, marksTo L k)
  | 0 => rfl
  | k + 1 => by
    rw [List.range_succ, mst_snoc, mst_range L h k, marksTo_succ]
    have e : cy L (if k = 0 then L.length - 1 else k - 1) = cy L (k + L.length - 1) := by
      split
      · next e => subst e; rw [Nat.zero_add]
      · rw [show k + L.length - 1 = (k - 1) + L.length by omega, cy_add]
    have e2 : cy L ((if k = 0 then L.length - 1 else k - 1) + 1) = cy L k := by
      split
      · next e => subst e; rw [show L.length - 1 + 1 = 0 + L.length by omega, cy_add]
      · rw [show k - 1 + 1 = k by omega]
    unfold mstep markB
    dsimp only
    rw [e, e2]
    by_cases hz : sd (cy L (k + L.length - 1)) (cy L k) (cy L (k + 1)) = 0 <;> simp [hz]
end Poly
namespace Go.Proofs.Ytegcjdcinebleaa
open Go.RowKit Go.Shelf Poly
set_option linter.unusedVariables false
attribute [local go_sem] Oper.semAt_some

theorem LstP.belowP {lo : Nat} {W W' : World} {v : Value} {xs : List P2} (h : LstP lo W v xs) (hb : Below W.heap.size W W') : LstP lo W' v xs := by
  rcases h with h | ⟨g, cap, h1, h2, h3⟩
  · exact .inl h
  · exact .inr ⟨g, cap, h1, h2, h3.below hb⟩
theorem LstP.set {lo G : Nat} {W : World} {v : Value} {xs : List P2} (h : LstP lo W v xs) (hG : G < lo) (u : Value) : LstP lo (W.setCell ⟨G, 0, none⟩ u) v xs := by
  rcases h with h | ⟨g, cap, h1, h2, h3⟩
  · exact .inl h
  · exact .inr ⟨g, cap, h1, h2, h3.setOther (by simp; omega) _⟩
theorem LstP.low {lo lo' : Nat} {W : World} {v : Value} {xs : List P2} (h : LstP lo W v xs) (hl : lo' ≤ lo) : LstP lo' W v xs := by
  rcases h with h | ⟨g, cap, h1, h2, h3⟩
  · exact .inl h
  · exact .inr ⟨g, cap, h1, Nat.le_trans hl h2, h3⟩
theorem LstP.put {lo D : Nat} {W : World} {v : Value} {xs : List P2} (h : LstP lo W v xs) (hK : W.heap[D]? = some (.deferred (some []))) {o : Obj} : LstP lo (W.putObj D o) v xs := by
  rcases h with h | ⟨g, cap, h1, h2, h3⟩
  · exact .inl h
  · refine .inr ⟨g, cap, h1, h2, h3.block ?_⟩
    obtain ⟨cur, hb, -⟩ := h3.body
    refine World.putObj_heap_other (fun e => ?_)
    rw [e] at hb
    rw [hb] at hK
    cases hK
set_option maxRecDepth 100000 in
set_option maxHeartbeats 4000000 in
theorem iMarksM {n₀ : Nat} {A : Nat → Nat} {L : List P2} {w : World} (hR : RingB n₀ A L w) (hn : n₀ ≤ w.heap.size) (hok : okP L = true) :
    Calls Try.prog 94 #[.agg #[.pointer (some ⟨A 0, 0, none⟩)]] w fun e w' => ∃ v, e = .returned v ∧ LstP w.heap.size w' v (marksL L) ∧ Below w.heap.size w w' := by
  refine (callsIn_wide (n := 9)).1 ?_
  have HR := Lib.hid (And.intro hR hok)
  have hl := okP_len hok
  clear hR hok
  refine callsIn_of_wp_marks Try.func94 rfl trivial ?_ rfl
  simp only [Try.ntmps94, List.size_toArray, List.length_cons, List.length_nil, Nat.reduceAdd, Nat.reduceSub, Array.replicate_succ, Array.replicate_zero, List.push_toArray, List.append_toArray, List.nil_append, List.cons_append]
  gi_wp2
  gi_loopw [] (fun wr => ∃ k : Nat, k < L.length ∧ wr.cell? ⟨w.heap.size + 1, 0, none⟩ = some (.pointer (some ⟨A k, 0, none⟩)) ∧ wr.frozen? ⟨w.heap.size + 1, 0, none⟩ = false ∧ wr.cell? ⟨w.heap.size, 0, none⟩ = some (.pointer (some ⟨A 0, 0, none⟩)) ∧ Below w.heap.size w wr ∧ wr.heap.size = w.heap.size + 2)
    (fun wr => restOf A L.length ((wr.cell? ⟨w.heap.size + 1, 0, none⟩).getD undef))
  case atStart => exact ⟨0, by omega, by simp [go_sem], by simp [go_sem], by simp [go_sem], ((Below.refl _ w).alloc (Nat.le_refl _) _).alloc (by simp) _, by simp⟩
  case round =>
    obtain ⟨k, hk, cB, fB, cP, hb, hsz⟩ := hrel
    have hRk : RingB n₀ A L wr := HR.out.1.below (hb.mono hn)
    obtain ⟨x0, x1, x2⟩ := hRk.ring.cells k
    have l1 : A k < wr.heap.size := by have := hRk.ring.lt k; omega
    have hmx : Try.prog.follows .mixedOrders = true := by kernel_rfl
    have hne := fun b (hb : decide ((k + 1) % L.length = 0 % L.length) = !b) V (hV : V = wr.drew) m => RingB.neq (w := World.drewN V m) ⟨hRk.ring.same (fun _ _ => by rw [hV]; rfl), by rw [hV]; exact hRk.blk⟩ (k + 1) 0 hb
    rw [Nat.zero_mod] at hne
    have hcs : ∀ V, V = wr.drew → (∀ a, V.cell? a = wr.cell? a) := fun V hV a => by rw [hV]; rfl
    by_cases hlast : k + 1 = L.length
    · have hne' := hne false (by rw [hlast, Nat.mod_self]; rfl)
      have HB := Lib.hid (And.intro hRk (And.intro hb hlast))
      clear hne hlast hRk hb
      gi_wp2
      refine wpIn_region_any hmx ?_
      obtain ⟨V, hV⟩ : ∃ V, V = wr.drew := ⟨_, rfl⟩
      have hn2 := hne' V hV
      have d0 := (hcs V hV _).trans cB
      have d1 := (hcs V hV _).trans cP
      have d2 := (hcs V hV _).trans x2
      change wpAnyIn _ _ _ _ _ _ _ _ _ wr.drew
      rw [← hV]
      have HV := Lib.hid hV
      clear hV hne' hcs cB cP x0 x1 x2
      refine any_tail (k := 0) rfl (by kernel_rfl) rfl (by kernel_rfl) ?_
      repeat (quiet_step_in (fail))
      refine wpQuietIn_nil ?_
      rintro _ ⟨nq, rfl⟩
      obtain ⟨U, hU⟩ : ∃ U, U = V.drewN nq := ⟨_, rfl⟩
      have e0 : U.cell? ⟨w.heap.size + 1, 0, none⟩ = some (.pointer (some ⟨A k, 0, none⟩)) := by rw [hU]; exact d0
      have e1 : U.cell? ⟨w.heap.size, 0, none⟩ = some (.pointer (some ⟨A 0, 0, none⟩)) := by rw [hU]; exact d1
      have g0 : U.frozen? ⟨w.heap.size + 1, 0, none⟩ = false := by rw [hU, HV.out]; exact fB
      have hbU : Below w.heap.size w U := by rw [hU, HV.out]; exact HB.out.2.1.trans (⟨rfl, rfl, rfl, Nat.le_refl _, fun _ _ => rfl⟩ : Below w.heap.size wr (wr.drew.drewN nq))
      have hsU : U.heap.size = w.heap.size + 2 := by rw [hU, HV.out]; exact hsz
      rw [← hU]
      clear hU d0 d1 d2 hn2 HV fB hsz
      have lU : w.heap.size < U.heap.size := by omega
      have lU1 : w.heap.size + 1 < U.heap.size := by omega
      have HU := Lib.hid (And.intro hbU hsU)
      clear hbU hsU
      gi_wp2
      refine ⟨by simp [Fence.wide], ?_⟩
      refine ((callsIn_wide.2 (iCorners _ _)).mono ?_)
      rintro e w' ⟨rfl, hw'⟩
      obtain ⟨w3, hw3⟩ : ∃ W, W = w' := ⟨_, rfl⟩
      rw [← hw3] at hw' ⊢
      obtain ⟨hbU, hsU⟩ := HU.out
      obtain ⟨G, hG⟩ : ∃ G, U.heap.size = G := ⟨_, rfl⟩
      have hsz : w3.heap.size = G + 2 := by rw [hw', ← hG]; simp
      have hb3 : Below w.heap.size w w3 := by
        rw [hw']
        exact (hbU.alloc (by omega) _).alloc (by simp; omega) _
      have y0 : w3.cell? ⟨w.heap.size + 1, 0, none⟩ = some (.pointer (some ⟨A k, 0, none⟩)) := by rw [hw']; exact cell_alloc_keep _ (cell_alloc_keep _ e0)
      have f0 : w3.frozen? ⟨w.heap.size + 1, 0, none⟩ = false := by
        rw [hw']
        exact ((((Below.refl _ U).alloc (Nat.le_refl _) _).alloc (by simp) _).frozen (p := ⟨w.heap.size + 1, 0, none⟩) lU1).trans g0
      have y1 : w3.cell? ⟨G, 0, none⟩ = some (.slice none 0 0) := by rw [hw', ← hG]; simp [go_sem]
      have f1 : w3.frozen? ⟨G, 0, none⟩ = false := by rw [hw', ← hG]; simp [go_sem]
      have y2 : w3.cell? ⟨G + 1, 0, none⟩ = some (.pointer (some ⟨A 0, 0, none⟩)) := by rw [hw', ← hG]; simp [go_sem]
      have hGw : w.heap.size + 2 = G := by omega
      rw [hG]
      have eN : (U.alloc (.cells #[.slice none 0 0] 23)).heap.size = G + 1 := by rw [← hG]; simp
      rw [eN]
      clear hw' hw3 hG e0 e1 g0 hbU hsU lU lU1 HU eN
      clear U
      have hgive := corners_stops 8 (by decide) (G + 1) n₀ A L (by omega) w3 (by omega) (by omega) y2 (HR.out.1.below (hb3.mono hn))
      have eA : A k = A (mst L []).1 := by
        have := HB.out.2.2
        show A k = A (L.length - 1)
        congr 1; omega
      rw [eA] at y0
      clear eA
      gi_wp2
      refine wpIn_rangeFunc_ownF (F := Fence.wide) rfl (by decide) (gf := 119) (lb := #[.pointer (some ⟨G + 1, 0, none⟩)]) rfl trivial (enters_of Try.func119 (by kernel_rfl) rfl) hgive
        (fun h k => h.t k) (Kp2.b (by omega) (by omega)) (Below.refl _ _) (fun _ => rfl)
        (fun pre W => (W.cell? ⟨w.heap.size + 1, 0, none⟩ = some (.pointer (some ⟨A (mst L pre).1, 0, none⟩)) ∧ W.frozen? ⟨w.heap.size + 1, 0, none⟩ = false) ∧ (∃ v, W.cell? ⟨G, 0, none⟩ = some v ∧ LstP w3.heap.size W v (mst L pre).2) ∧ W.frozen? ⟨G, 0, none⟩ = false ∧ Hold w n₀ A L w3.heap.size W)
        (fun _ _ _ => False)
        (fun s W W' row hs hg hr => by
          obtain ⟨⟨hs0, hs1⟩, ⟨v, hv1, hv2⟩, hs2, hs3⟩ := hs
          exact ⟨⟨cell_kept hs0 hg (fun r e => (hr r e).2), (frozen_kept hs0 hg (fun r e => (hr r e).2)).trans hs1⟩, ⟨v, cell_kept hv1 hg (fun r e => (hr r e).2), hv2.own hg (fun r e => (hr r e).2)⟩, (frozen_kept hv1 hg (fun r e => (hr r e).2)).trans hs2, hs3.own (by omega) hg hr⟩)
        (fun _ _ _ _ _ hs _ _ => hs)
        ⟨⟨y0, f0⟩, ⟨_, y1, .inl ⟨rfl, rfl⟩⟩, f1, HR.out.1.below (hb3.mono hn), hb3, Nat.le_refl _⟩
        (fun x => { tmps := #[.agg #[.pointer (some ⟨A 0, 0, none⟩)], .pointer (some ⟨w.heap.size, 0, none⟩), .slice none 0 0, .pointer (some ⟨w.heap.size + 1, 0, none⟩), .pointer (some ⟨G, 0, none⟩), .pointer (some ⟨A x, 0, none⟩), .pointer (some ⟨w.heap.size, 0, none⟩), .pointer (some ⟨w.heap.size, 0, none⟩), .pointer (some ⟨A 0, 0, none⟩), .pointer (some ⟨A k, 0, none⟩), .pointer (some ⟨A k, 0, none⟩), .pointer (some ⟨A k, 2, none⟩), .pointer (some ⟨A (k + 1), 0, none⟩), .pointer (some ⟨w.heap.size, 0, none⟩), .pointer (some ⟨w.heap.size, 0, none⟩), .pointer (some ⟨A 0, 0, none⟩), .bool false, u17, u18, u19, u20, .pointer (some ⟨w.heap.size, 0, none⟩), .agg #[.pointer (some ⟨A 0, 0, none⟩)], .func (.func 119) #[] #[.pointer (some ⟨G + 1, 0, none⟩)], .pointer (some ⟨A x, 0, none⟩), undef, undef, undef, undef, undef, undef, undef, undef, undef, undef, undef, undef, undef, undef, undef, undef, undef, undef, undef], defers := [] }) ?assign ?body ?done ?stop
      case assign =>
        intro l x W K hK
        gi_wp2
        exact hK
      case body =>
        rintro l pre x W ⟨⟨hb0, hbf⟩, ⟨v, hc, hL⟩, hf, hH⟩ hlen
        have hv := okP_at HR.out.2
        have hxl := mst_len L pre
        have hsn := mst_snoc L pre x
        obtain ⟨b, hbm⟩ : ∃ b, (mst L pre).1 = b := ⟨_, rfl⟩
        obtain ⟨xs, hxs⟩ : ∃ xs, (mst L pre).2 = xs := ⟨_, rfl⟩
        obtain ⟨s, hs⟩ : ∃ s, sd (cy L b) (cy L (b + 1)) (cy L (x + 1)) = s := ⟨_, rfl⟩
        have hm1 : (mst L (pre ++ [x])).1 = x := by rw [hsn]; rfl
        have hm2 : (mst L (pre ++ [x])).2 = if s = 0 then xs else xs ++ [cy L x] := by rw [hsn]; unfold mstep; dsimp only; rw [hbm, hxs, hs]
        rw [hxs] at hxl hL
        rw [hbm] at hb0
        have hW3 := hH.size
        have c1 := fun (W' : World) (hc : ∀ b o, W'.cell? ⟨b, o, none⟩ = W.cell? ⟨b, o, none⟩) (hs' : W'.heap.size = W.heap.size) (d : Ext W') => Lib.hid (by
          have := iTurn (hH.ring.ring.ext (show n₀ ≤ W.heap.size by omega) hc hs' d).1 (hH.ring.ring.ext (show n₀ ≤ W.heap.size by omega) hc hs' d).2 hv b (hv (x + 1))
          rw [hs] at this
          exact this)
        obtain ⟨x0, x1, x2⟩ := hH.ring.ring.cells x
        obtain ⟨z0, z1, z2⟩ := hH.ring.ring.cells (x + 1)
        have l1 : A x < W.heap.size := by have := hH.ring.ring.lt x; omega
        have l2 : A (x + 1) < W.heap.size := by have := hH.ring.ring.lt (x + 1); omega
        have l3 : w.heap.size + 1 < W.heap.size := by omega
        have l4 : G < W.heap.size := by omega
        have HH := Lib.hid (And.intro hH (And.intro hm1 (And.intro hm2 hL)))
        have HHc := Lib.hid (And.intro hc (And.intro hf hbf))
        clear hH hs hv hsn hm1 hm2 hL hc hf hbf hbm hxs
        gi_wp2
        (refine round_grows (by kernel_rfl) (by kernel_rfl) (by kernel_rfl) (fun ⟨_, _, h⟩ => h) ?_; intro W_wg hWc_wg hWs_wg hWe_wg; (repeat (go_big_quiet_step ((go_at_call 110; with_reducible exact Ext.call ((c1 _ hWc_wg hWs_wg _).out))))); with_reducible refine wpQuiet_nil ?_; clear hWe_wg hWs_wg hWc_wg W_wg; intro wg hb_wg; obtain ⟨hc_wg, hf_wg⟩ := bcell hb_wg; (try simp only [World.size_drew, World.cell?_drew, World.frozen?_drew, World.heap_drewN, World.cell?_drewN, World.frozen?_drewN] at hc_wg hf_wg); have hs_wg := hb_wg.size; (try simp at hs_wg))
        clear c1
        obtain ⟨hH, hm1, hm2, hL⟩ := HH.out
        obtain ⟨hc, hf, hbf⟩ := HHc.out
        have hHg := hH.next (W' := wg) hn (by omega) (hb_wg.mono hW3)
        have hb0' := (hb_wg.cell (p := ⟨w.heap.size + 1, 0, none⟩) l3).trans hb0
        have hbf' := (hb_wg.frozen (p := ⟨w.heap.size + 1, 0, none⟩) l3).trans hbf
        have hc' := (hb_wg.cell (p := ⟨G, 0, none⟩) l4).trans hc
        have hf' := (hb_wg.frozen (p := ⟨G, 0, none⟩) l4).trans hf
        have hLg : LstP w3.heap.size wg v xs := hL.belowP hb_wg
        have HG := Lib.hid (And.intro hHg (And.intro hb_wg (And.intro hm1 (And.intro hm2 hLg))))
        clear hH hm1 hm2 hL hc hf hbf hHg hLg HH HHc hb0 hc_wg hf_wg hb_wg x0 x1 x2 z0 z1 z2
        by_cases hz : s = 0
        · have HP := Lib.hid (And.intro hc' hf')
          gi_wp2
          obtain ⟨hHg, hb_wg, hm1, hm2, hLg⟩ := HG.out
          obtain ⟨hc', hf'⟩ := HP.out
          rw [if_pos hz] at hm2
          exact ⟨(keeps_below hb_wg).trans (KeepsOthers.setCell _ _ _), Kp2.put hb_wg (by omega) (by omega) (by omega) (by omega) _,
            ⟨by rw [hm1]; exact World.cell?_setCell_same' _ _ _ (by rw [hb0']; rfl), by rw [World.frozen?_setCell]; exact hbf'⟩,
            ⟨v, by rw [World.cell?_setCell_other _ _ _ _ (by first | (simp; done) | (simp; omega))]; exact hc', by rw [hm2]; exact hLg.set (by omega) _⟩, by rw [World.frozen?_setCell]; exact hf', hHg.put hn (by omega) _⟩
        · gi_wp2
          obtain ⟨hHg, hb_wg, hm1, hm2, hLg⟩ := HG.out
          rw [if_neg hz] at hm2
          obtain ⟨x0, x1, x2⟩ := hHg.ring.ring.cells x
          have lx : A x < wg.heap.size := by omega
          have l3' : w.heap.size + 1 < wg.heap.size := by omega
          have l4' : G < wg.heap.size := by omega
          have hgs := hb_wg.size
          clear HG
          rcases hLg with ⟨hnil, rfl⟩ | ⟨g, cap, rfl, hgl, hown⟩
          · skip
            have hmx : Try.prog.follows .mixedOrders = true := by kernel_rfl
            refine wpIn_region_any hmx (any_in (by kernel_rfl) (fun ⟨_, _, h⟩ => h) _ _ _ _ ?_)
            refine wpAny_take (i := 1) (v := .pointer (some ⟨A x, 0, none⟩)) rfl (by kernel_rfl) (by kernel_rfl) (by kernel_rfl) (fun _ _ _ h => h) (Or.inl ⟨by rfl, fun w => ?_⟩) ?_
            · go_simp
            refine wpAny_take (i := 2) (v := .pointer (some ⟨A x, 0, none⟩)) rfl (by kernel_rfl) (by kernel_rfl) (by kernel_rfl) (fun _ _ _ h => h) (Or.inl ⟨by rfl, fun w => ?_⟩) ?_
            · go_simp
            refine wpAny_take (i := 3) (v := .pointer (some ⟨A x, 0, none⟩)) rfl (by kernel_rfl) (by kernel_rfl) (by kernel_rfl) (fun _ _ _ h => h) (Or.inl ⟨by rfl, fun w => ?_⟩) ?_
            · go_simp
            (refine wpAny_ready (rs := [0, 4]) (by kernel_rfl) (by simp) ?_)
            refine AllReady.cons rfl (fun K hK => ?pa1) (AllReady.cons rfl (fun K hK => ?pb1) AllReady.nil)
            case' pa1 => (go_simp; (refine hK _ _ ?_); clear hK K; (refine wpAny_ready (rs := [4]) (by kernel_rfl) (by simp) ?_); (refine AllReady.cons rfl (fun K hK => ?_) AllReady.nil); go_simp; (refine hK _ _ ?_); clear hK K; (refine wpAny_ready (rs := [5]) (by kernel_rfl) (by simp) ?_); (refine AllReady.cons rfl (fun K hK => ?_) AllReady.nil); go_simp; (refine hK _ _ ?_); clear hK K)
            case' pb1 => (go_simp; (refine hK _ _ ?_); clear hK K; (refine wpAny_ready (rs := [0, 5]) (by kernel_rfl) (by simp) ?_); refine AllReady.cons rfl (fun K hK => ?pc1) (AllReady.cons rfl (fun K hK => ?pd1) AllReady.nil))
            case' pc1 => (go_simp; (refine hK _ _ ?_); clear hK K; (refine wpAny_ready (rs := [5]) (by kernel_rfl) (by simp) ?_); (refine AllReady.cons rfl (fun K hK => ?_) AllReady.nil); go_simp; (refine hK _ _ ?_); clear hK K)
            case' pd1 => (go_simp; (refine hK _ _ ?_); clear hK K; (refine wpAny_ready (rs := [0]) (by kernel_rfl) (by simp) ?_); (refine AllReady.cons rfl (fun K hK => ?_) AllReady.nil); go_simp; (refine hK _ _ ?_); clear hK K)
            all_goals
              refine any_seq (k := 6) rfl (by kernel_rfl) ?_
              have hb_d : Below wg.heap.size wg wg.drew := ⟨rfl, rfl, rfl, Nat.le_refl _, fun _ _ => rfl⟩
              have hsw : (wg.alloc (.cells #[.int .i64 (cy L x).1, .int .i64 (cy L x).2] 31)).drew = wg.drew.alloc (.cells #[.int .i64 (cy L x).1, .int .i64 (cy L x).2] 31) := rfl
              rw [hsw]
              clear hsw hmx
              have q1 : wg.drew.cell? ⟨G, 0, none⟩ = some (.slice none 0 0) := hc'
              have q2 : wg.drew.frozen? ⟨G, 0, none⟩ = false := hf'
              have q3 : wg.drew.cell? ⟨w.heap.size + 1, 0, none⟩ = some (.pointer (some ⟨A b, 0, none⟩)) := hb0'
              have q4 : wg.drew.frozen? ⟨w.heap.size + 1, 0, none⟩ = false := hbf'
              have hHd := hHg.next (W' := wg.drew) hn (by omega) (hb_d.mono (by omega))
              have HM := Lib.hid (And.intro hHd (And.intro hb_d (And.intro hm1 (And.intro hm2 (And.intro hnil hb_wg)))))
              clear hc' hf' hb0' hbf' hHg hHd hb_d hm1 hm2 hnil hb_wg x0 x1 x2
              go_wp2_with (at_builtin; refine wp_append_nil _ rfl _ _ 23 rfl 31 _ 2 16 Try.underlying23 info_point rfl (by decide) (by decide) rfl _ 1 1 [(cy L x).1, (cy L x).2] rfl (by decide) rfl (two_cells wg.drew _ _ _) (by omega) ?_; intro cap' w' hown hbe hlt; (have hbA : Below wg.heap.size wg.drew w' := ((Below.refl wg.heap.size wg.drew).alloc (Nat.le_refl _) (.cells #[.int .i64 (cy L x).1, .int .i64 (cy L x).2] 31)).trans (hbe.mono (by simp))); have q1' := (hbA.cell (p := ⟨G, 0, none⟩) l4').trans q1; have q2' := (hbA.frozen (p := ⟨G, 0, none⟩) l4').trans q2; have q3' := (hbA.cell (p := ⟨w.heap.size + 1, 0, none⟩) l3').trans q3; have q4' := (hbA.frozen (p := ⟨w.heap.size + 1, 0, none⟩) l3').trans q4; (have hown' : Own w' (wg.heap.size + 1) 31 2 1 cap' [(cy L x).1, (cy L x).2] := by simpa using hown); have HA := Lib.hid (And.intro hown' hbA); (have hsA : wg.heap.size ≤ w'.heap.size := hbA.size); clear hown hown' hbe hlt hbA q1 q2 q3 q4)
              have q5 : (w'.setCell ⟨G, 0, none⟩ (.slice (some ⟨wg.heap.size + 1, 0, none⟩) 1 cap')).cell? ⟨w.heap.size + 1, 0, none⟩ = some (.pointer (some ⟨A b, 0, none⟩)) := by rw [World.cell?_setCell_other _ _ _ _ (by first | (simp; done) | (simp; omega))]; exact q3'
              have q6 : (w'.setCell ⟨G, 0, none⟩ (.slice (some ⟨wg.heap.size + 1, 0, none⟩) 1 cap')).frozen? ⟨w.heap.size + 1, 0, none⟩ = false := by rw [World.frozen?_setCell]; exact q4'
              gi_wp2
              obtain ⟨hHd, hb_d, hm1, hm2, hnil, hb_wg⟩ := HM.out
              obtain ⟨hown', hbA⟩ := HA.out
              have hWw : Below W.heap.size W w' := hb_wg.trans ((hb_d.trans hbA).mono hgs)
              have hHw := hHd.next (W' := w') hn (by omega) (hbA.mono (by omega))
              refine ⟨((keeps_below hWw).trans (KeepsOthers.setCell _ _ _)).trans (KeepsOthers.setCell _ _ _), (Kp2.put hWw (by omega) (by omega) (by omega) (by omega) _).t (Kp2.put (Below.refl _ _) (by simp; omega) (by simp; omega) (by omega) (by omega) _), ⟨?_, ?_⟩, ⟨.slice (some ⟨wg.heap.size + 1, 0, none⟩) 1 cap', ?_, .inr ⟨wg.heap.size + 1, cap', ?_, by omega, ?_⟩⟩, ?_, (hHw.put hn (by omega) _).put hn (by omega) _⟩
              · rw [hm1]; exact World.cell?_setCell_same' _ _ _ (by rw [q5]; rfl)
              · rw [World.frozen?_setCell]; exact q6
              · rw [World.cell?_setCell_other _ _ _ _ (by first | (simp; done) | (simp; omega))]; exact World.cell?_setCell_same' _ _ _ (by rw [q1']; rfl)
              · rw [hm2, hnil]; simp
              · rw [hm2, hnil]
                exact (hown'.setOther (by simp; omega) _).setOther (by simp; omega) _
              · rw [World.frozen?_setCell, World.frozen?_setCell]; exact q2'
          · have hgW := hown.lt
            have hne : G ≠ g := by omega
            have hne2 : w.heap.size + 1 ≠ g := by omega
            obtain ⟨m, hm⟩ : ∃ m, xs.length = m := ⟨_, rfl⟩
            rw [hm] at hc' hown
            have hm12 : m < 12 := by omega
            have hmx : Try.prog.follows .mixedOrders = true := by kernel_rfl
            refine wpIn_region_any hmx (any_in (by kernel_rfl) (fun ⟨_, _, h⟩ => h) _ _ _ _ ?_)
            refine wpAny_take (i := 1) (v := .pointer (some ⟨A x, 0, none⟩)) rfl (by kernel_rfl) (by kernel_rfl) (by kernel_rfl) (fun _ _ _ h => h) (Or.inl ⟨by rfl, fun w => ?_⟩) ?_
            · go_simp
            refine wpAny_take (i := 2) (v := .pointer (some ⟨A x, 0, none⟩)) rfl (by kernel_rfl) (by kernel_rfl) (by kernel_rfl) (fun _ _ _ h => h) (Or.inl ⟨by rfl, fun w => ?_⟩) ?_
            · go_simp
            refine wpAny_take (i := 3) (v := .pointer (some ⟨A x, 0, none⟩)) rfl (by kernel_rfl) (by kernel_rfl) (by kernel_rfl) (fun _ _ _ h => h) (Or.inl ⟨by rfl, fun w => ?_⟩) ?_
            · go_simp
            (refine wpAny_ready (rs := [0, 4]) (by kernel_rfl) (by simp) ?_)
            refine AllReady.cons rfl (fun K hK => ?pa2) (AllReady.cons rfl (fun K hK => ?pb2) AllReady.nil)
            case' pa2 => (go_simp; (refine hK _ _ ?_); clear hK K; (refine wpAny_ready (rs := [4]) (by kernel_rfl) (by simp) ?_); (refine AllReady.cons rfl (fun K hK => ?_) AllReady.nil); go_simp; (refine hK _ _ ?_); clear hK K; (refine wpAny_ready (rs := [5]) (by kernel_rfl) (by simp) ?_); (refine AllReady.cons rfl (fun K hK => ?_) AllReady.nil); go_simp; (refine hK _ _ ?_); clear hK K)
            case' pb2 => (go_simp; (refine hK _ _ ?_); clear hK K; (refine wpAny_ready (rs := [0, 5]) (by kernel_rfl) (by simp) ?_); refine AllReady.cons rfl (fun K hK => ?pc2) (AllReady.cons rfl (fun K hK => ?pd2) AllReady.nil))
            case' pc2 => (go_simp; (refine hK _ _ ?_); clear hK K; (refine wpAny_ready (rs := [5]) (by kernel_rfl) (by simp) ?_); (refine AllReady.cons rfl (fun K hK => ?_) AllReady.nil); go_simp; (refine hK _ _ ?_); clear hK K)
            case' pd2 => (go_simp; (refine hK _ _ ?_); clear hK K; (refine wpAny_ready (rs := [0]) (by kernel_rfl) (by simp) ?_); (refine AllReady.cons rfl (fun K hK => ?_) AllReady.nil); go_simp; (refine hK _ _ ?_); clear hK K)
            all_goals
              refine any_seq (k := 6) rfl (by kernel_rfl) ?_
              have hb_d : Below wg.heap.size wg wg.drew := ⟨rfl, rfl, rfl, Nat.le_refl _, fun _ _ => rfl⟩
              have hsw : (wg.alloc (.cells #[.int .i64 (cy L x).1, .int .i64 (cy L x).2] 31)).drew = wg.drew.alloc (.cells #[.int .i64 (cy L x).1, .int .i64 (cy L x).2] 31) := rfl
              rw [hsw]
              clear hsw hmx
              have q1 : wg.drew.cell? ⟨G, 0, none⟩ = some (.slice (some ⟨g, 0, none⟩) m cap) := hc'
              have q2 : wg.drew.frozen? ⟨G, 0, none⟩ = false := hf'
              have q3 : wg.drew.cell? ⟨w.heap.size + 1, 0, none⟩ = some (.pointer (some ⟨A b, 0, none⟩)) := hb0'
              have q4 : wg.drew.frozen? ⟨w.heap.size + 1, 0, none⟩ = false := hbf'
              have hO : Own (wg.drew.alloc (.cells #[.int .i64 (cy L x).1, .int .i64 (cy L x).2] 31)) g 31 2 m cap (fl xs) := (hown.below hb_d).alloc _
              have HO := Lib.hid hO
              have HM := Lib.hid (And.intro hHg (And.intro hown (And.intro hm1 (And.intro hm2 (And.intro hm hb_wg)))))
              clear hc' hf' hb0' hbf' hHg hown hb_d hm1 hm2 hm hb_wg x0 x1 x2 hO
              go_wp2_with (at_builtin; refine wp_append _ rfl _ _ 23 rfl 31 _ 2 16 Try.underlying23 info_point rfl (by decide) (by decide) g m cap (fl xs) rfl HO.out _ 1 1 [(cy L x).1, (cy L x).2] rfl rfl (two_cells wg.drew _ _ _) (by omega) ?_; intro g' cap' w' hown hgr hloc hlt; (have hq : ∀ k, k < wg.heap.size → k ≠ g → w'.heap[k]? = wg.heap[k]? := fun k hk hk2 => (hgr.block k (by simp; omega) (by simpa using hk2)).trans (Deep.blk_alloc_lt wg.drew _ _ hk)); have q1' := (World.cell?_of_block (hq G l4' hne)).trans q1; have q2' := (World.frozen?_of_block (hq G l4' hne)).trans q2; have q3' := (World.cell?_of_block (hq (w.heap.size + 1) l3' hne2)).trans q3; have q4' := (World.frozen?_of_block (hq (w.heap.size + 1) l3' hne2)).trans q4; have HA := Lib.hid (And.intro hown (And.intro hgr (And.intro hloc hlt))); clear hown hgr hloc hlt q1 q2 q3 q4 hq)
              have q5 : (w'.setCell ⟨G, 0, none⟩ (.slice (some ⟨g', 0, none⟩) (m + 1) cap')).cell? ⟨w.heap.size + 1, 0, none⟩ = some (.pointer (some ⟨A b, 0, none⟩)) := by rw [World.cell?_setCell_other _ _ _ _ (by first | (simp; done) | (simp; omega))]; exact q3'
              have q6 : (w'.setCell ⟨G, 0, none⟩ (.slice (some ⟨g', 0, none⟩) (m + 1) cap')).frozen? ⟨w.heap.size + 1, 0, none⟩ = false := by rw [World.frozen?_setCell]; exact q4'
              gi_wp2
              obtain ⟨hHg, hown0, hm1, hm2, hm, hb_wg⟩ := HM.out
              obtain ⟨hown, hgr, hloc, hlt⟩ := HA.out
              have hbA : Below wg.heap.size wg (wg.drew.alloc (.cells #[.int .i64 (cy L x).1, .int .i64 (cy L x).2] 31)) := (show Below wg.heap.size wg wg.drew from ⟨rfl, rfl, rfl, Nat.le_refl _, fun _ _ => rfl⟩).alloc (Nat.le_refl _) _
              have hszA := hbA.size
              have hgWw : wg.grownBy w' (some g) := ⟨hgr.os.trans hbA.os, hgr.tape.trans hbA.tape, hgr.output.trans hbA.output, Nat.le_trans hbA.size hgr.size, fun k hk hk2 => (hgr.block k (by omega) hk2).trans (hbA.block k hk)⟩
              have hsw' := hgWw.size
              have hg'l : w3.heap.size ≤ g' := by rcases hloc with h | h <;> (rw [h]; first | omega | (simp; omega))
              have hHw := hHg.grow (W' := w') hn (by omega) hgWw hgl
              refine ⟨(((keeps_below hb_wg).trans (KeepsOthers.of_grownBy hgWw (fun j o e ho => ?_))).trans (KeepsOthers.setCell _ _ _)).trans (KeepsOthers.setCell _ _ _), (((Kp2.of hb_wg (by omega) (by omega)).t (Kp2.grow hgWw (by omega) (by omega) (by omega) (by omega))).t (Kp2.put (Below.refl _ _) (by omega) (by omega) (by omega) (by omega) _)).t (Kp2.put (Below.refl _ _) (by simp; omega) (by simp; omega) (by omega) (by omega) _), ⟨?_, ?_⟩, ⟨.slice (some ⟨g', 0, none⟩) (m + 1) cap', ?_, .inr ⟨g', cap', ?_, hg'l, ?_⟩⟩, ?_, (hHw.put hn (by omega) _).put hn (by omega) _⟩
              · cases e
                obtain ⟨cur, hb, -⟩ := hown0.body
                rw [hb] at ho
                cases ho
                rfl
              · rw [hm1]; exact World.cell?_setCell_same' _ _ _ (by rw [q5]; rfl)
              · rw [World.frozen?_setCell]; exact q6
              · rw [World.cell?_setCell_other _ _ _ _ (by first | (simp; done) | (simp; omega))]; exact World.cell?_setCell_same' _ _ _ (by rw [q1']; rfl)
              · rw [hm2]; simp [hm]
              · rw [hm2, fl_append, List.length_append, hm]
                exact (hown.setOther (by simp; omega) _).setOther (by simp; omega) _
              · rw [World.frozen?_setCell, World.frozen?_setCell]; exact q2'
      case done =>
        rintro D ys W hD rfl ⟨⟨hb0, hbf⟩, ⟨v, hc, hL⟩, hf, hH⟩ hK
        rw [mst_range L (by omega)] at hL
        have hW3 := hH.size
        have HL := Lib.hid hL
        gi_wp2
        refine ⟨by simp, .inl ⟨_, _, rfl, run_takeDeferred hK, ?_⟩⟩
        refine ⟨_, results_tmp rfl _ _ _, v, rfl, ?_, hH.below.trans (below_put W D _ (by omega))⟩
        exact (HL.out.low (by omega)).put hK
      case stop =>
        rintro D c pre W _ _ h _
        exact h.elim
    · have hne' := hne true (by rw [Nat.mod_eq_of_lt (show k + 1 < L.length by omega)]; rfl)
      have HB := Lib.hid (And.intro hRk (And.intro hb hlast))
      clear hne hlast hRk hb
      gi_wp2
      refine wpIn_region_any hmx ?_
      obtain ⟨V, hV⟩ : ∃ V, V = wr.drew := ⟨_, rfl⟩
      have hn2 := hne' V hV
      have d0 := (hcs V hV _).trans cB
      have d1 := (hcs V hV _).trans cP
      have d2 := (hcs V hV _).trans x2
      have f0 : V.frozen? ⟨w.heap.size + 1, 0, none⟩ = false := by rw [hV]; exact fB
      change wpAnyIn _ _ _ _ _ _ _ _ _ wr.drew
      rw [← hV]
      have HV := Lib.hid hV
      clear hV hne' hcs cB cP x0 x1 x2 fB
      refine any_tail (k := 0) rfl (by kernel_rfl) rfl (by kernel_rfl) ?_
      repeat (quiet_step_in (fail))
      refine wpQuietIn_nil ?_
      rintro _ ⟨nq, rfl⟩
      obtain ⟨U, hU⟩ : ∃ U, U = V.drewN nq := ⟨_, rfl⟩
      have e0 : U.cell? ⟨w.heap.size + 1, 0, none⟩ = some (.pointer (some ⟨A k, 0, none⟩)) := by rw [hU]; exact d0
      have e1 : U.cell? ⟨w.heap.size, 0, none⟩ = some (.pointer (some ⟨A 0, 0, none⟩)) := by rw [hU]; exact d1
      have e2 : U.cell? ⟨A k, 2, none⟩ = some (.pointer (some ⟨A (k + 1), 0, none⟩)) := by rw [hU]; exact d2
      have g0 : U.frozen? ⟨w.heap.size + 1, 0, none⟩ = false := by rw [hU]; exact f0
      have hbU : Below w.heap.size w U := by rw [hU, HV.out]; exact HB.out.2.1.trans (⟨rfl, rfl, rfl, Nat.le_refl _, fun _ _ => rfl⟩ : Below w.heap.size wr (wr.drew.drewN nq))
      have hsU : U.heap.size = w.heap.size + 2 := by rw [hU, HV.out]; exact hsz
      have hc0 : wr.cell? ⟨w.heap.size + 1, 0, none⟩ = some (.pointer (some ⟨A k, 0, none⟩)) := by rw [HV.out] at d0; exact d0
      have HW := Lib.hid (And.intro hc0 (And.intro hbU hsU))
      rw [← hU]
      clear hU d0 d1 d2 f0 hn2 HV hsz hc0 hbU hsU
      have hk1 : k + 1 < L.length := by have := HB.out.2.2; omega
      gi_wp2
      obtain ⟨hc0, hbU, hsU⟩ := HW.out
      have q0 := World.cell?_setCell_same' U ⟨w.heap.size + 1, 0, none⟩ (.pointer (some ⟨A (k + 1), 0, none⟩)) (by rw [e0]; rfl)
      go_roundw
      case rel => exact ⟨k + 1, hk1, q0, by rw [World.frozen?_setCell]; exact g0, by rw [World.cell?_setCell_other _ _ _ _ (by simp)]; exact e1, hbU.setCell (p := ⟨w.heap.size + 1, 0, none⟩) (by simp) _, by simpa using hsU⟩
      case measure => rw [q0, hc0, Option.getD_some, Option.getD_some, restOf_eq HB.out.1.ring hk1, restOf_eq HB.out.1.ring hk]; omega
end Go.Proofs.Ytegcjdcinebleaa
namespace Go.Proofs.Ytegcjdcinebleaa
open Go.RowKit Go.Shelf Poly
set_option linter.unusedVariables false
attribute [local go_sem] Oper.semAt_some

theorem kp2_own {n Bn B' : Nat} {β : Type} {W0 : World} (hB : W0.heap.size ≤ B') (hn : n ≤ W0.heap.size) (hb : Bn < W0.heap.size) : OwnFrom B' (fun (_ : β) W => Kp2 n Bn W0 W) :=
  fun _ X Y row hs hg hr => ⟨hs.1.grown hg (by have := hs.1.size; omega) (fun r e => by have := (hr r e).1; omega),
    (hg.block Bn (by have := hs.1.size; omega) (fun e => by have := (hr Bn e.symm).1; omega)).trans hs.2⟩
theorem size_own {β : Type} {B' m : Nat} : OwnFrom B' (fun (_ : β) (W : World) => m ≤ W.heap.size) := fun _ X Y row hs hg hr => Nat.le_trans hs hg.size
set_option maxRecDepth 100000 in
set_option maxHeartbeats 4000000 in
theorem iCommonM {n₁ n₂ : Nat} {A B : Nat → Nat} {L M : List P2} {w : World} (hR : RingB n₁ A L w) (hn : n₁ ≤ w.heap.size) (hS : RingB n₂ B M w) (hm : n₂ ≤ w.heap.size) (hL : okP L = true) (hM : okP M = true) :
    Calls Try.prog 90 #[.agg #[.pointer (some ⟨A 0, 0, none⟩)], .agg #[.pointer (some ⟨B 0, 0, none⟩)]] w fun e w' => e = .returned (.int .i64 (commonL L M)) ∧ Below w.heap.size w w' := by
  refine (callsIn_wide (n := 9)).1 ?_
  have HR := Lib.hid (And.intro hR hS)
  have hl := okP_len hL
  have hl2 := okP_len hM
  clear hR hS hL hM
  refine callsIn_of_wp_marks Try.func90 rfl trivial ?_ rfl
  simp only [Try.ntmps90, List.size_toArray, List.length_cons, List.length_nil, Nat.reduceAdd, Nat.reduceSub, Array.replicate_succ, Array.replicate_zero, List.push_toArray, List.append_toArray, List.nil_append, List.cons_append]
  gi_wp2
  refine ⟨by simp [Fence.wide], ?_⟩
  refine ((callsIn_wide.2 (iCorners _ _)).mono ?_)
  rintro e w' ⟨rfl, hw'⟩
  obtain ⟨W0, hW0⟩ : ∃ W, W = w' := ⟨_, rfl⟩
  rw [← hW0] at hw' ⊢
  have hsz : W0.heap.size = w.heap.size + 4 := by rw [hw']; simp
  have hB0 : Below w.heap.size w W0 := by
    rw [hw']
    exact ((((Below.refl _ w).alloc (Nat.le_refl _) _).alloc (by simp) _).alloc (by simp; omega) _).alloc (by simp; omega) _
  have bQ : Boxed W0 (w.heap.size + 1) 80 (.pointer (some ⟨B 0, 0, none⟩)) := by
    rw [hw']
    have := ((Boxed.new (w.alloc (.cells #[.pointer (some ⟨A 0, 0, none⟩)] 80)) 80 (.pointer (some ⟨B 0, 0, none⟩))).alloc (.cells #[.int .i64 0] 3)).alloc (.cells #[.pointer (some ⟨A 0, 0, none⟩)] 69)
    simpa using this
  have bS : Boxed W0 (w.heap.size + 1 + 1) 3 (.int .i64 0) := by
    rw [hw']
    have := (Boxed.new ((w.alloc (.cells #[.pointer (some ⟨A 0, 0, none⟩)] 80)).alloc (.cells #[.pointer (some ⟨B 0, 0, none⟩)] 80)) 3 (.int .i64 0)).alloc (.cells #[.pointer (some ⟨A 0, 0, none⟩)] 69)
    simpa using this
  have y2 : W0.cell? ⟨w.heap.size + 1 + 1 + 1, 0, none⟩ = some (.pointer (some ⟨A 0, 0, none⟩)) := by rw [hw']; simp [go_sem]
  clear hw' hW0
  gi_wp2
  refine wpIn_rangeFunc_ownH (F := Fence.wide) rfl (by decide) (gf := 119) (lb := #[.pointer (some ⟨w.heap.size + 1 + 1 + 1, 0, none⟩)]) rfl trivial (enters_of Try.func119 (by kernel_rfl) rfl)
    (corners_stops 8 (by decide) (w.heap.size + 1 + 1 + 1) n₁ A L (by omega) W0 (by omega) (by omega) y2 (HR.out.1.below (hB0.mono hn)))
    (fun h k => h.t k) (Kp2.b (by omega) (by omega)) (Below.refl _ _) (fun _ => rfl)
    (fun pre W => ((Boxed W (w.heap.size + 1 + 1) 3 (.int .i64 (sumL (fun i => comRow L M i M.length) pre)) ∧ Boxed W (w.heap.size + 1) 80 (.pointer (some ⟨B 0, 0, none⟩))) ∧ Below w.heap.size w W) ∧ W0.heap.size ≤ W.heap.size)
    (fun _ _ _ => False)
    (OwnFrom.and (OwnFrom.and (OwnFrom.and (Own.from (boxed_own _ _ _) _) (Own.from (boxed_own _ _ _) _)) (ownFrom_below (Nat.le_refl _) (by omega))) size_own)
    (fun _ _ _ _ _ hs _ _ => hs)
    ⟨⟨⟨bS, bQ⟩, hB0⟩, Nat.le_refl _⟩
    (fun x a' W => ∃ Bx, W0.heap.size ≤ Bx ∧ Boxed W Bx 67 (.pointer (some ⟨A x, 0, none⟩)) ∧ a' = { tmps := #[.agg #[.pointer (some ⟨A 0, 0, none⟩)], .agg #[.pointer (some ⟨B 0, 0, none⟩)], .pointer (some ⟨w.heap.size, 0, none⟩), .pointer (some ⟨w.heap.size + 1, 0, none⟩), .int .i64 0, .pointer (some ⟨w.heap.size + 1 + 1, 0, none⟩), .pointer (some ⟨Bx, 0, none⟩), undef, .pointer (some ⟨w.heap.size, 0, none⟩), .agg #[.pointer (some ⟨A 0, 0, none⟩)], .func (.func 119) #[] #[.pointer (some ⟨w.heap.size + 1 + 1 + 1, 0, none⟩)], .pointer (some ⟨A x, 0, none⟩), undef, undef, undef, undef, undef, undef, undef, undef, undef, undef], defers := [] })
    (fun x a' _ X Y row hs hg hr => by obtain ⟨Bx, h1, h2, h3⟩ := hs; exact ⟨Bx, h1, boxed_own Bx 67 (fun (_ : Unit) => Value.pointer (some ⟨A x, 0, none⟩)) () X Y row h2 hg (fun r e => (hr r e).2), h3⟩)
    ?assign ?body ?done ?stop
  case assign =>
    rintro l pre x W K ⟨⟨⟨bS1, bQ1⟩, hB1⟩, hW1⟩ hK
    gi_wp2
    exact hK _ _ ((KeepsOthers.alloc _ _).from _) (Kp2.of ((Below.refl _ W).alloc (Nat.le_refl _) _) (by omega) (by omega)) ⟨⟨⟨bS1.alloc _, bQ1.alloc _⟩, hB1.alloc hB1.size _⟩, by simp; omega⟩ ⟨W.heap.size, hW1, Boxed.new W 67 _, rfl⟩
  case body =>
    rintro l pre x a' W hll ⟨r, hr⟩ ⟨⟨⟨bS1, bQ1⟩, hB1⟩, hW1⟩ ⟨Bx, hBx, bX, rfl⟩ hlt
    have cQ := bQ1.cell
    obtain ⟨s, hs⟩ : ∃ s, sumL (fun i => comRow L M i M.length) pre = s := ⟨_, rfl⟩
    have hsb := sumL_bd (f := fun i => comRow L M i M.length) (m := 12) (fun i => by have := row_bd L M i M.length; omega) pre
    rw [hs] at bS1 hsb
    have hBxl := bX.lt
    have H1 := Lib.hid (And.intro bS1 (And.intro bQ1 (And.intro hB1 bX)))
    have hsn := sumL_snoc (fun i => comRow L M i M.length) pre x
    rw [hs] at hsn
    have hsW := hB1.size
    clear bS1 bQ1 hB1 bX hs
    gi_wp2
    refine ⟨by simp [Fence.wide], ?_⟩
    refine (CallsIn.inRound l (callsIn_wide.2 (iCorners _ _))).mono ?_
    rintro e w' ⟨rfl, hw'⟩
    obtain ⟨W1, hWe⟩ : ∃ W, W = w' := ⟨_, rfl⟩
    rw [← hWe] at hw' ⊢
    have hbW : Below W.heap.size W W1 := by rw [hw']; exact (Below.refl _ W).alloc (Nat.le_refl _) _
    have hsz1 : W1.heap.size = W.heap.size + 1 := by rw [hw']; simp
    have hr' : W1.heap[l]? = some (.loop r) := (hbW.block l (Array.getElem?_eq_some_iff.1 hr).1).trans hr
    have yN : W1.cell? ⟨W.heap.size, 0, none⟩ = some (.pointer (some ⟨B 0, 0, none⟩)) := by rw [hw']; simp [go_sem]
    have bS1 : Boxed W1 (w.heap.size + 1 + 1) 3 (.int .i64 s) := by rw [hw']; exact H1.out.1.alloc _
    have bQ1 : Boxed W1 (w.heap.size + 1) 80 (.pointer (some ⟨B 0, 0, none⟩)) := by rw [hw']; exact H1.out.2.1.alloc _
    have bX1 : Boxed W1 Bx 67 (.pointer (some ⟨A x, 0, none⟩)) := by rw [hw']; exact H1.out.2.2.2.alloc _
    have hkf : KeepsFrom W0.heap.size W W1 := by rw [hw']; exact (KeepsOthers.alloc _ _).from _
    clear hw' hWe
    gi_wp2
    refine wpIn_rangeFunc_ownN (l₀ := l) (r₀ := r) rfl hr' (by decide) (gf := 119) (lb := #[.pointer (some ⟨W.heap.size, 0, none⟩)]) rfl trivial (enters_of Try.func119 (by kernel_rfl) rfl)
      ((corners_stops 6 (by decide) W.heap.size n₂ B M (by omega) W1 (by omega) (by omega) yN (HR.out.2.below ((H1.out.2.2.1.trans (hbW.mono hsW)).mono hm))).inRound l)
      (fun h k => h.t k) (Kp2.b (by omega) (by omega)) (Below.refl _ _) (fun _ => rfl)
      (fun pre' W' => (((Boxed W' (w.heap.size + 1 + 1) 3 (.int .i64 (s + sumL (fun k => b2i (oppP L M x k)) pre')) ∧ Boxed W' Bx 67 (.pointer (some ⟨A x, 0, none⟩))) ∧ Boxed W' (w.heap.size + 1) 80 (.pointer (some ⟨B 0, 0, none⟩))) ∧ (Below w.heap.size W W' ∧ KeepsFrom W0.heap.size W W')) ∧ (Kp2 n₁ (w.heap.size + 1 + 1 + 1) W W' ∧ W1.heap.size ≤ W'.heap.size))
      (fun _ _ _ => False)
      (OwnFrom.and (OwnFrom.and (OwnFrom.and (OwnFrom.and (Own.from (boxed_own _ _ _) _) (Own.from (boxed_own _ _ _) _)) (Own.from (boxed_own _ _ _) _)) (OwnFrom.and (ownFrom_below hsW (by omega)) (ownFrom_keepsFrom (by omega)))) (OwnFrom.and (kp2_own (by omega) (by omega) (by omega)) size_own))
      (fun _ _ _ _ _ hs _ _ => hs)
      ⟨⟨⟨⟨by simpa [sumL] using bS1, bX1⟩, bQ1⟩, hbW.mono hsW, hkf⟩, Kp2.of hbW (by omega) (by omega), Nat.le_refl _⟩
      (fun y a'' _ => a'' = { tmps := #[.agg #[.pointer (some ⟨A 0, 0, none⟩)], .agg #[.pointer (some ⟨B 0, 0, none⟩)], .pointer (some ⟨w.heap.size, 0, none⟩), .pointer (some ⟨w.heap.size + 1, 0, none⟩), .int .i64 0, .pointer (some ⟨w.heap.size + 1 + 1, 0, none⟩), .pointer (some ⟨Bx, 0, none⟩), .pointer (some ⟨B y, 0, none⟩), .pointer (some ⟨w.heap.size, 0, none⟩), .agg #[.pointer (some ⟨A 0, 0, none⟩)], .func (.func 119) #[] #[.pointer (some ⟨w.heap.size + 1 + 1 + 1, 0, none⟩)], .pointer (some ⟨A x, 0, none⟩), .pointer (some ⟨w.heap.size + 1, 0, none⟩), .agg #[.pointer (some ⟨B 0, 0, none⟩)], .func (.func 119) #[] #[.pointer (some ⟨W.heap.size, 0, none⟩)], .pointer (some ⟨B y, 0, none⟩), undef, undef, undef, undef, undef, undef], defers := [] })
      (fun _ _ _ _ _ _ hs _ _ => hs)
      ?assign2 ?body2 ?done2 ?stop2
    case assign2 =>
      rintro l2 pre' y W' K hi hK
      gi_wp2
      exact hK _ _ (KeepsFrom.refl _ _) ⟨Below.refl _ _, rfl⟩ hi rfl
    case body2 =>
      rintro l2 pre' y a'' W' _ _ ⟨⟨⟨⟨bS2, bX2⟩, bQ2⟩, hBW, hKF⟩, hK2, hW2⟩ rfl hlt2
      have hBw : Below w.heap.size w W' := H1.out.2.2.1.trans hBW
      have hbs := hBW.size
      have hR2 := HR.out.1.below (hBw.mono hn)
      have hS2 := HR.out.2.below (hBw.mono hm)
      have c1 := Lib.hid (iOpposes hR2.ring (by omega) hS2.ring (by omega) x y)
      obtain ⟨t, ht⟩ : ∃ t, sumL (fun k => b2i (oppP L M x k)) pre' = t := ⟨_, rfl⟩
      have htb := sumL_bd (f := fun k => b2i (oppP L M x k)) (m := 1) (fun k => by have := b2i_bd (oppP L M x k); omega) pre'
      have htn := sumL_snoc (fun k => b2i (oppP L M x k)) pre' y
      obtain ⟨b, hb⟩ : ∃ b, oppP L M x y = b := ⟨_, rfl⟩
      rw [hb] at c1 htn
      rw [ht] at htb htn bS2
      have cX := bX2.cell
      have HB := Lib.hid (And.intro bS2 (And.intro bX2 (And.intro bQ2 (And.intro hBW (And.intro hKF (And.intro hK2 htn))))))
      clear bS2 bX2 bQ2 hBW hKF hK2 hR2 hS2 hBw hb ht htn
      gi_wp2
      refine ⟨by simp [Fence.wide], ?_⟩
      refine (CallsIn.inRound l2 (callsIn_wide.2 c1.out)).mono ?_
      rintro e wb ⟨rfl, hbb⟩
      have hsb2 := hbb.size
      have l1 := HB.out.1.lt
      have l2' := HB.out.2.1.lt
      have l3 := HB.out.2.2.1.lt
      have bS3 : Boxed wb (w.heap.size + 1 + 1) 3 (.int .i64 (s + t)) := (hbb.block _ l1).trans HB.out.1
      have bX3 : Boxed wb Bx 67 (.pointer (some ⟨A x, 0, none⟩)) := (hbb.block _ l2').trans HB.out.2.1
      have bQ3 : Boxed wb (w.heap.size + 1) 80 (.pointer (some ⟨B 0, 0, none⟩)) := (hbb.block _ l3).trans HB.out.2.2.1
      have hKo : KeepsOthers W' wb := keeps_below hbb
      have hBW3 : Below w.heap.size W wb := HB.out.2.2.2.1.trans (hbb.mono (by omega))
      have hKF3 : KeepsFrom W0.heap.size W wb := HB.out.2.2.2.2.1.trans (hKo.from _)
      have hK23 : Kp2 n₁ (w.heap.size + 1 + 1 + 1) W wb := HB.out.2.2.2.2.2.1.t (Kp2.of hbb (by omega) (by omega))
      have hKi : Kp2 n₂ W.heap.size W' wb := Kp2.of hbb (by omega) (by omega)
      have HC := Lib.hid (And.intro hbb (And.intro hKo (And.intro bS3 (And.intro bX3 (And.intro bQ3 (And.intro hBW3 (And.intro hKF3 (And.intro hK23 hKi))))))))
      have cS := bS3.cell
      have fS := bS3.frozen
      clear hbb hKo bS3 bX3 bQ3 hBW3 hKF3 hK23 hKi
      obtain ⟨hbb, hKo, bS3, bX3, bQ3, hBW3, hKF3, hK23, hKi⟩ := HC.out
      have e1 := HB.out.2.2.2.2.2.2
      have HD := Lib.hid (And.intro hbb (And.intro hKo (And.intro bS3 (And.intro bX3 (And.intro bQ3 (And.intro hBW3 (And.intro hKF3 (And.intro hK23 (And.intro hKi e1)))))))))
      clear hbb hKo bS3 bX3 bQ3 hBW3 hKF3 hK23 hKi e1
      cases b
      · gi_wp2
        obtain ⟨hbb, hKo, bS3, bX3, bQ3, hBW3, hKF3, hK23, hKi, e1⟩ := HD.out
        rw [show b2i false = 0 from rfl, Int.add_zero] at e1
        exact ⟨hKo.from _, hKi, ⟨⟨⟨by rw [e1]; exact bS3, bX3⟩, bQ3⟩, hBW3, hKF3⟩, hK23, by omega⟩
      · gi_wp2
        obtain ⟨hbb, hKo, bS3, bX3, bQ3, hBW3, hKF3, hK23, hKi, e1⟩ := HD.out
        rw [show b2i true = 1 from rfl] at e1
        exact ⟨(hKo.trans (KeepsOthers.setCell _ _ _)).from _, hKi.t (Kp2.put (Below.refl _ _) (by omega) (by omega) (by omega) (by omega) _), ⟨⟨⟨by rw [e1, ← Int.add_assoc]; exact bS3.set _, bX3.other (by omega) _⟩, bQ3.other (by omega) _⟩, hBW3.setCell (p := ⟨w.heap.size + 1 + 1, 0, none⟩) (by simp; omega) _, hKF3.trans ((KeepsOthers.setCell _ _ _).from _)⟩, hK23.t (Kp2.put (Below.refl _ _) (by omega) (by omega) (by omega) (by omega) _), by simp; omega⟩
    case done2 =>
      rintro ys' W' rfl ⟨⟨⟨⟨bS2, bX2⟩, bQ2⟩, hBW, hKF⟩, hK2, hW2⟩
      gi_wp2
      rw [sumL_range] at bS2
      exact ⟨hKF, hK2, ⟨⟨by rw [hsn]; exact bS2, bQ2⟩, H1.out.2.2.1.trans hBW⟩, by omega⟩
    case stop2 =>
      rintro c pre' W' _ h
      exact h.elim
  case done =>
    rintro D zs W hD rfl ⟨⟨⟨bS1, bQ1⟩, hB1⟩, hW1⟩ hK
    have cS := bS1.cell
    gi_wp2
    refine ⟨by simp, .inl ⟨_, _, rfl, run_takeDeferred hK, ?_⟩⟩
    exact ⟨_, results_tmp rfl _ _ _, by rw [sumL_range]; rfl, hB1.trans (below_put W D _ (by omega))⟩
  case stop =>
    rintro D c pre W _ _ h _
    exact h.elim
end Go.Proofs.Ytegcjdcinebleaa
namespace Go.Proofs.Ytegcjdcinebleaa
open Go.RowKit Poly
set_option linter.unusedVariables false

theorem ints_part {w : World} {g i m : Nat} {L : List P2} (h : Ints w (some ⟨g, 0, none⟩) (fl L)) : Ints w (some ⟨g, i * 2, none⟩) (fl ((L.drop i).take m)) := by
  by_cases e : fl ((L.drop i).take m) = []
  · exact .inl e
  · have hb : g < w.heap.size := by
      rcases h with h | ⟨B, o, e1, hB, hc⟩
      · exfalso
        apply e
        have hL : L = [] := by
          cases L with
          | nil => rfl
          | cons a l => simp [fl] at h
        rw [hL]; simp [fl]
      · injection e1 with e1
        injection e1 with e1 e2
        subst e1; exact hB
    refine .inr ⟨g, i * 2, rfl, hb, fun j z hj => ?_⟩
    rw [fl_take, List.getElem?_take] at hj
    split at hj
    · rw [fl_drop, List.getElem?_drop] at hj
      have := pts_cell h hj
      rw [Nat.zero_add] at this
      exact this
    · cases hj
/-- what parcelOf answers, whatever the list -/
def POf (w : World) (L : List P2) (e : Ending) (w' : World) : Prop :=
  ∃ q : Option Addr, (e = .returned (.tuple #[.agg #[.pointer q], .bool (parV L)]) ∧ (parV L = true → ∃ A : Nat → Nat, q = some ⟨A 0, 0, none⟩ ∧ RingB w'.heap.size A L w')) ∧ Below w.heap.size w w'
theorem iParcelOf_any {p : Option Addr} {c : Nat} {L : List P2} {w : World} (h : Ints w p (fl L)) (hc : L.length ≤ c) (hl : L.length ≤ 4000000000000000000) :
    Calls Try.prog 81 #[.slice p L.length c] w (POf w L) := by
  cases hv : parV L
  · refine (iParcelOf_no h hc hl hv).mono ?_
    rintro e w' ⟨rfl, hb⟩
    exact ⟨none, ⟨by rw [hv], fun h => by rw [hv] at h; cases h⟩, hb⟩
  · refine (iParcelOf_yes h hc hv).mono ?_
    rintro e w' ⟨A, ⟨rfl, hR⟩, hb⟩
    exact ⟨some ⟨A 0, 0, none⟩, ⟨by rw [hv], fun _ => ⟨A, rfl, hR⟩⟩, hb⟩
theorem iParcelOf_n {p : Option Addr} {c n : Nat} {L : List P2} {w : World} {b : Bool} (h : Ints w p (fl L)) (hn : L.length = n) (hc : n ≤ c) (hl : n ≤ 4000000000000000000) (hb : parV L = b) :
    Calls Try.prog 81 #[.slice p n c] w fun e w' => ∃ q : Option Addr, (e = .returned (.tuple #[.agg #[.pointer q], .bool b]) ∧ (b = true → ∃ A : Nat → Nat, q = some ⟨A 0, 0, none⟩ ∧ RingB w'.heap.size A L w')) ∧ Below w.heap.size w w' := by
  subst hn
  have := iParcelOf_any h hc hl
  unfold POf at this
  rw [hb] at this
  exact this
set_option maxHeartbeats 4000000 in
theorem iSplit_bad {n₀ : Nat} {A : Nat → Nat} {L : List P2} {w : World} (hR : RingB n₀ A L w) (hn : n₀ ≤ w.heap.size) (hok : okP L = true) (i j : Int) (hij : inJ L i j = false) :
    Calls Try.prog 85 #[.agg #[.pointer (some ⟨A 0, 0, none⟩)], .int .i64 i, .int .i64 j] w fun e w' => e = .returned (.tuple #[.agg #[.pointer none], .agg #[.pointer none], .bool false]) ∧ Below w.heap.size w w' := by
  have HR := Lib.hid hR
  have c1 := fun w h hn => Lib.hid (iPoints (n₀ := n₀) (A := A) (L := L) (w := w) h hn hok)
  obtain ⟨n, hnl⟩ : ∃ n, L.length = n := ⟨_, rfl⟩
  unfold inJ at hij
  rw [hnl, decide_eq_false_iff_not] at hij
  rw [hnl] at c1
  clear hR hok hnl
  have hcs : i < 0 ∨ (¬ i < 0 ∧ j ≤ i) ∨ (¬ i < 0 ∧ ¬ j ≤ i ∧ (n : Int) ≤ j) := by omega
  clear hij
  rcases hcs with h1 | ⟨h1, h2⟩ | ⟨h1, h2, h3⟩
  all_goals go_enter Try.func85, Try.ntmps85
  all_goals go_wp2_with ((go_at_call 69; (with_reducible refine ((c1 _ ?_ ?_).out).mono ?_); (focus ((exact HR.out.below ((show Below w.heap.size w _ from (by repeat (first | assumption | exact Below.refl _ _ | (refine below_chain ?_ (by assumption) (by first | omega | (simp <;> omega) | simp)) | (refine Below.alloc ?_ (by first | omega | (simp <;> omega) | simp) _) | (apply below_drewN) | (apply below_drew) | (refine Below.setCell ?_ (by first | omega | (simp <;> omega) | simp) _)))).mono hn)); done)); (focus (((simp <;> omega)); done)); rintro e wa ⟨g, cap, rfl, hg, hown, hb_wa⟩; have hs_wa := hb_wa.size; (try simp at hs_wa)); obtain ⟨hc_wa, hf_wa⟩ := bcell hb_wa; (try have hz_wa : w.heap.size < wa.heap.size := by omega); clear hown)
  all_goals exact bodyPost_ret (v := .tuple #[.agg #[.pointer none], .agg #[.pointer none], .bool false]) (by simp [results, Try.results85, go_sem, *]) rfl ⟨rfl, (by repeat (first | assumption | exact Below.refl _ _ | (refine below_chain ?_ (by assumption) (by first | omega | (simp <;> omega) | simp)) | (refine Below.alloc ?_ (by first | omega | (simp <;> omega) | simp) _) | (apply below_drewN) | (apply below_drew) | (refine Below.setCell ?_ (by first | omega | (simp <;> omega) | simp) _)))⟩
theorem ways_split {V : World} {B : List P2} {b : Bool} {G : Prop} {P : Nat → Nat → Nat → Nat → Option Addr → World → Prop}
    (h1 : (∀ Y sb g2 d2 q2 W, W.cell? ⟨Y, 0, none⟩ = some (.pointer q2) → V.heap.size ≤ Y → Below V.heap.size V W → (b = true → ∃ A : Nat → Nat, q2 = some ⟨A 0, 0, none⟩ ∧ RingB W.heap.size A B W) → P Y sb g2 d2 q2 W) → G)
    (h2 : ∀ Y sb g2 d2 q2 W, W.cell? ⟨Y, 0, none⟩ = some (.pointer q2) → V.heap.size ≤ Y → Below V.heap.size V W → (b = true → ∃ A : Nat → Nat, q2 = some ⟨A 0, 0, none⟩ ∧ RingB W.heap.size A B W) → P Y sb g2 d2 q2 W) : G := h1 h2
set_option maxHeartbeats 8000000 in
set_option maxRecDepth 100000 in
theorem iSplit_any {n₀ : Nat} {A : Nat → Nat} {L : List P2} {w : World} (hR : RingB n₀ A L w) (hn : n₀ ≤ w.heap.size) (hok : okP L = true) (i j : Nat) (hij : i < j) (hj : j < L.length) {b1 b2 : Bool} (h1 : parV (splA L i j) = b1) (h2 : parV (splB L i j) = b2) :
    Calls Try.prog 85 #[.agg #[.pointer (some ⟨A 0, 0, none⟩)], .int .i64 i, .int .i64 j] w fun e w' => ∃ q1 q2 : Option Addr, (e = .returned (.tuple #[.agg #[.pointer q1], .agg #[.pointer q2], .bool (b1 && b2)]) ∧
      (b1 = true → ∃ A : Nat → Nat, q1 = some ⟨A 0, 0, none⟩ ∧ RingB w'.heap.size A (splA L i j) w') ∧ (b2 = true → ∃ A : Nat → Nat, q2 = some ⟨A 0, 0, none⟩ ∧ RingB w'.heap.size A (splB L i j) w')) ∧ Below w.heap.size w w' := by
  have HR := Lib.hid hR
  have hl12 := (okP_len hok).2
  have c1 := fun w h hn => Lib.hid (iPoints (n₀ := n₀) (A := A) (L := L) (w := w) h hn hok)
  have hlA := splA_len (L := L) hij hj
  have hlB := splB_len (L := L) hij hj
  obtain ⟨n, hnl⟩ : ∃ n, L.length = n := ⟨_, rfl⟩
  have hTl : (L.take (i + 1)).length = i + 1 := by rw [List.length_take]; omega
  have hDl : (L.drop j).length = n - j := by rw [List.length_drop, hnl]
  rw [hnl] at c1 hlB hj hl12
  have hsum : n - j + (i + 1) = n - j + i + 1 := by omega
  have hA1 : j + 1 - i = j - i + 1 := by omega
  have H := Lib.hid (And.intro hnl (And.intro hTl (And.intro hDl (And.intro hlA (And.intro hlB (And.intro h1 h2))))))
  have hi0 : ¬ (i : Int) < 0 := by omega
  have hji : ¬ (j : Int) ≤ (i : Int) := by omega
  have hnj : ¬ (n : Int) ≤ (j : Int) := by omega
  have qj : IntKind.i64.wrap ((j : Int) + 1) = (j : Int) + 1 := by rw [IntKind.wrap_i64]; omega
  have qi : IntKind.i64.wrap ((i : Int) + 1) = (i : Int) + 1 := by rw [IntKind.wrap_i64]; omega
  have HS := Lib.hid hsum
  clear hR hok hnl hTl hDl hlA hlB h1 h2 hsum
  go_enter Try.func85, Try.ntmps85
  go_upto_region 4 with ((go_at_call 69; (with_reducible refine ((c1 _ ?_ ?_).out).mono ?_); (focus ((exact HR.out.below ((show Below w.heap.size w _ from (by repeat (first | assumption | exact Below.refl _ _ | (refine below_chain ?_ (by assumption) (by first | omega | (simp <;> omega) | simp)) | (refine Below.alloc ?_ (by first | omega | (simp <;> omega) | simp) _) | (apply below_drewN) | (apply below_drew) | (refine Below.setCell ?_ (by first | omega | (simp <;> omega) | simp) _)))).mono hn)); done)); (focus (((simp <;> omega)); done)); rintro e wa ⟨g, cap, rfl, hg, hown, hb_wa⟩; have hs_wa := hb_wa.size; (try simp at hs_wa)); obtain ⟨hc_wa, hf_wa⟩ := bcell hb_wa; (try have hz_wa : w.heap.size < wa.heap.size := by omega))
  have hncap : n ≤ cap := by obtain ⟨_, _, h, _⟩ := hown.body; exact h
  have k6 : wa.cell? ⟨w.heap.size + 1, 0, none⟩ = some (.pointer none) := by (repeat (first | with_reducible assumption | (with_reducible refine cell_below_keep (by with_reducible assumption) ?_) | (with_reducible refine cell_gb_keep (by with_reducible assumption) (by omega) ?_) | (simp [go_sem]; done) | (with_reducible refine cell_alloc_keep _ ?_) | (with_reducible refine cell_drew_keep ?_) | (with_reducible refine cell_drewN_keep _ ?_) | (with_reducible refine cell_set_keep _ (by first | (simp; omega) | omega) ?_)))
  have k7 : wa.cell? ⟨w.heap.size + 1 + 1, 0, none⟩ = some (.pointer none) := by (repeat (first | with_reducible assumption | (with_reducible refine cell_below_keep (by with_reducible assumption) ?_) | (with_reducible refine cell_gb_keep (by with_reducible assumption) (by omega) ?_) | (simp [go_sem]; done) | (with_reducible refine cell_alloc_keep _ ?_) | (with_reducible refine cell_drew_keep ?_) | (with_reducible refine cell_drewN_keep _ ?_) | (with_reducible refine cell_set_keep _ (by first | (simp; omega) | omega) ?_)))
  have r6 : wa.frozen? ⟨w.heap.size + 1, 0, none⟩ = false := by rw [hf_wa _ _ (by simp)]; simp [go_sem]
  have r7 : wa.frozen? ⟨w.heap.size + 1 + 1, 0, none⟩ = false := by rw [hf_wa _ _ (by simp)]; simp [go_sem]
  have hbw : Below w.heap.size w wa := (by repeat (first | assumption | exact Below.refl _ _ | (refine below_chain ?_ (by assumption) (by first | omega | (simp <;> omega) | simp)) | (refine Below.alloc ?_ (by first | omega | (simp <;> omega) | simp) _) | (apply below_drewN) | (apply below_drew) | (refine Below.setCell ?_ (by first | omega | (simp <;> omega) | simp) _)))
  have hO := hown.pts
  have cA := fun w h => Lib.hid (iParcelOf_n (p := some ⟨g, i * 2, none⟩) (c := cap - i) (n := j - i + 1) (L := splA L i j) (w := w) (b := b1) h H.out.2.2.2.1 (by omega) (by omega) H.out.2.2.2.2.2.1)
  have cB := fun g2 d w h (hd : n - j + i + 1 ≤ d) => Lib.hid (iParcelOf_n (p := some ⟨g2, 0, none⟩) (c := d) (n := n - j + i + 1) (L := splB L i j) (w := w) (b := b2) h H.out.2.2.2.2.1 hd (by omega) H.out.2.2.2.2.2.2)
  have u1 : (j : Int) + 1 ≤ (cap : Int) := by omega
  have u2 : (i : Int) ≤ (j : Int) + 1 := by omega
  have u3 : (j : Int) ≤ (n : Int) := by omega
  have u4 : (n : Int) ≤ (cap : Int) := by omega
  have u5 : (0 : Int) ≤ (i : Int) + 1 := by omega
  have u6 : (i : Int) + 1 ≤ (cap : Int) := by omega
  have u7 : ¬ cap = i := by omega
  have u8 : ¬ cap = j := by omega
  have u9 : ¬ cap = 0 := by omega
  have HW := Lib.hid (And.intro hbw (And.intro hown hg))
  clear hbw hown hb_wa hc_wa hf_wa hg
  go_upto_region 5 with ((go_at_call 81; (with_reducible refine ((cA _ ?_).out).mono ?_); (focus ((exact ints_part hO); done)); rintro e wb ⟨q1, ⟨rfl, hq1⟩, hb_wb⟩; have hs_wb := hb_wb.size; (try simp at hs_wb)); obtain ⟨hc_wb, hf_wb⟩ := bcell hb_wb)
  obtain ⟨V, hV⟩ : ∃ V, V = wb.alloc (.cells #[.pointer q1] 80) := ⟨_, rfl⟩
  obtain ⟨X, hX⟩ : ∃ X, X = wb.heap.size := ⟨_, rfl⟩
  have k10 : V.cell? ⟨X, 0, none⟩ = some (.pointer q1) := by rw [hV, hX]; simp [go_sem]
  have hbV : Below wa.heap.size wa V := by rw [hV]; exact hb_wb.alloc hs_wb _
  have hsV : V.heap.size = X + 1 := by rw [hV, hX]; simp
  have k6' := cell_below_keep hbV k6
  have k7' := cell_below_keep hbV k7
  have r6' := (hbV.frozen (p := ⟨w.heap.size + 1, 0, none⟩) (show w.heap.size + 1 < wa.heap.size by omega)).trans r6
  have r7' := (hbV.frozen (p := ⟨w.heap.size + 1 + 1, 0, none⟩) (show w.heap.size + 1 + 1 < wa.heap.size by omega)).trans r7
  have hOV := hO.below hbV
  have hqV : b1 = true → ∃ A : Nat → Nat, q1 = some ⟨A 0, 0, none⟩ ∧ RingB X A (splA L i j) V := fun hb => by
    obtain ⟨A, e, hr⟩ := hq1 hb
    rw [hV, hX]
    exact ⟨A, e, hr.below ((Below.refl _ _).alloc (Nat.le_refl _) _)⟩
  have hbwV : Below w.heap.size w V := HW.out.1.trans (hbV.mono (by omega))
  rw [← hV, ← hX]
  have HV := Lib.hid (And.intro hbwV (And.intro hqV hOV))
  have hX0 : w.heap.size + 1 + 1 < X := by omega
  clear hV hX hq1 hb_wb hc_wb hf_wb hs_wb k6 k7 r6 r7 hO hbV hbwV hqV HW cA
  have KC : ∀ (sb : Nat) (W : World), W.cell? ⟨sb, 0, none⟩ = some (.slice (some ⟨g, j * 2, none⟩) (n - j) (cap - j)) → W.cell? ⟨sb, 1, none⟩ = some (.slice (some ⟨g, 0, none⟩) (i + 1) cap) → Ints W (some ⟨g, 0, none⟩) (fl L) →
      Calls Try.prog 112 #[.slice (some ⟨sb, 0, none⟩) 2 2] W fun e w' => ∃ g2 d2, e = .returned (.slice (some ⟨g2, 0, none⟩) (n - j + i + 1) d2) ∧ n - j + i + 1 ≤ d2 ∧ Ints w' (some ⟨g2, 0, none⟩) (fl (splB L i j)) ∧ Below W.heap.size W w' := by
    intro sb W h0 h1 hI
    refine (iConcatP sb 2 (cap - j) cap (n - j) (i + 1) (n - j + i + 1) ⟨g, j * 2, none⟩ ⟨g, 0, none⟩ (L.drop j) (L.take (i + 1)) W h0 h1 ?_ ?_ H.out.2.2.1 H.out.2.1 HS.out (by omega) (by omega)).mono ?_
    · intro t z hz
      rw [Go.WideShapes.add_plain]
      rw [fl_drop, List.getElem?_drop] at hz
      have := pts_cell hI hz
      rw [Nat.zero_add] at this
      exact this
    · intro t z hz
      rw [Go.WideShapes.add_plain]
      rw [fl_take, List.getElem?_take] at hz
      split at hz
      · exact pts_cell hI hz
      · cases hz
    · rintro e w' ⟨g2, d2, rfl, hg2, hown, hb⟩
      exact ⟨g2, d2, rfl, by obtain ⟨_, _, h, _⟩ := hown.body; exact h, hown.pts, hb⟩
  have KCH := Lib.hid KC
  clear KC
  have hsVX := Lib.hid hsV
  have hXV : X < V.heap.size := by omega
  clear hsV
  apply ways_split (V := V) (B := splB L i j) (b := b2)
  · intro REST
    refine wp_region_any (by kernel_rfl) ?_
    change wpAny _ _ _ _ _ _ _ (World.drew _)
    refine wpAny_take (i := 0) (v := .slice (some ⟨g, 0, none⟩) n cap) rfl (by kernel_rfl) (by kernel_rfl) (by kernel_rfl) (fun _ _ _ h => h) (Or.inl ⟨by rfl, ?_⟩) ?_
    focus ((intro w; go_simp); done)
    refine wpAny_take (i := 1) (v := .int .i64 j) rfl (by kernel_rfl) (by kernel_rfl) (by kernel_rfl) (fun _ _ _ h => h) (Or.inl ⟨by rfl, ?_⟩) ?_
    focus ((intro w; go_simp); done)
    refine wpAny_take (i := 2) (v := .slice (some ⟨g, j * 2, none⟩) (n - j) (cap - j)) rfl (by kernel_rfl) (by kernel_rfl) (by kernel_rfl) (fun _ _ _ h => h) (Or.inl ⟨by rfl, ?_⟩) ?_
    focus ((intro w; go_simp); done)
    refine wpAny_take (i := 3) (v := .slice (some ⟨g, 0, none⟩) n cap) rfl (by kernel_rfl) (by kernel_rfl) (by kernel_rfl) (fun _ _ _ h => h) (Or.inl ⟨by rfl, ?_⟩) ?_
    focus ((intro w; go_simp); done)
    refine wpAny_take (i := 4) (v := .int .i64 i) rfl (by kernel_rfl) (by kernel_rfl) (by kernel_rfl) (fun _ _ _ h => h) (Or.inl ⟨by rfl, ?_⟩) ?_
    focus ((intro w; go_simp); done)
    refine wpAny_take (i := 5) (v := .int .i64 ((i : Int) + 1)) rfl (by kernel_rfl) (by kernel_rfl) (by kernel_rfl) (fun _ _ _ h => h) (Or.inl ⟨by rfl, ?_⟩) ?_
    focus ((intro w; go_simp); done)
    refine wpAny_take (i := 6) (v := .slice (some ⟨g, 0, none⟩) (i + 1) cap) rfl (by kernel_rfl) (by kernel_rfl) (by kernel_rfl) (fun _ _ _ h => h) (Or.inl ⟨by rfl, ?_⟩) ?_
    focus ((intro w; go_simp); done)
    refine wpAny_ready (rs := [7, 13]) (by kernel_rfl) (by simp) ?_
    refine AllReady.cons rfl (fun K hK => ?_) (AllReady.cons rfl (fun K hK => ?_) AllReady.nil)
    · skip
      go_simp
      refine hK _ _ ?_
      clear hK K
      refine wpAny_ready (rs := [8, 13]) (by kernel_rfl) (by simp) ?_
      refine AllReady.cons rfl (fun K hK => ?_) (AllReady.cons rfl (fun K hK => ?_) AllReady.nil)
      · skip
        go_simp
        refine (KCH.out _ _ ?_ ?_ ?_).mono ?_
        focus (simp [go_sem]; done)
        focus (simp [go_sem]; done)
        focus ((first | exact HV.out.2.2.alloc _ | exact (HV.out.2.2.alloc _).alloc _); done)
        rintro e wc ⟨g2, d2, rfl, hd2, hI2, hb_wc⟩
        refine hK _ _ ?_
        clear hK K
        have hVc : Below V.heap.size V wc := ((below_drew (Below.refl V.heap.size V)).alloc (Nat.le_refl _) (.cells #[.slice (some ⟨g, j * 2, none⟩) (n - j) (cap - j), .slice (some ⟨g, 0, none⟩) (i + 1) cap] 23)).trans (hb_wc.mono (by simp))
        have hs_wc := hb_wc.size
        simp at hs_wc
        refine wpAny_ready (rs := [9, 13]) (by kernel_rfl) (by simp) ?_
        refine AllReady.cons rfl (fun K hK => ?_) (AllReady.cons rfl (fun K hK => ?_) AllReady.nil)
        · skip
          go_simp
          refine (cB _ _ _ ?_ ?_).out.mono ?_
          focus ((first | exact hI2 | exact hI2.alloc _); done)
          focus (exact hd2)
          rintro e wd ⟨q2, ⟨rfl, hq2⟩, hb_wd⟩
          refine hK _ _ ?_
          clear hK K
          have hs_wd := hb_wd.size
          (try simp at hs_wd)
          have hVd : Below V.heap.size V wd := hVc.trans (hb_wd.mono hVc.size)
          refine wpAny_take (i := 10) (v := .tuple #[.agg #[.pointer q2], .bool b2]) rfl (by kernel_rfl) (by kernel_rfl) (by kernel_rfl) (fun _ _ _ h => h) (Or.inl ⟨by rfl, ?_⟩) ?_
          focus ((intro w; go_simp); done)
          refine wpAny_take (i := 11) (v := .agg #[.pointer q2]) rfl (by kernel_rfl) (by kernel_rfl) (by kernel_rfl) (fun _ _ _ h => h) (Or.inl ⟨by rfl, ?_⟩) ?_
          focus ((intro w; go_simp); done)
          refine wpAny_take (i := 12) (v := .bool b2) rfl (by kernel_rfl) (by kernel_rfl) (by kernel_rfl) (fun _ _ _ h => h) (Or.inl ⟨by rfl, ?_⟩) ?_
          focus ((intro w; go_simp); done)
          refine wpAny_ready (rs := [13]) (by kernel_rfl) (by simp) ?_
          refine AllReady.cons rfl (fun K hK => ?_) AllReady.nil
          go_simp
          refine hK _ _ ?_
          clear hK K
          refine wpAny_ready (rs := [14]) (by kernel_rfl) (by simp) ?_
          refine AllReady.cons rfl (fun K hK => ?_) AllReady.nil
          go_simp
          refine hK _ _ ?_
          clear hK K
          refine wpAny_ready (rs := [15]) (by kernel_rfl) (by simp) ?_
          refine AllReady.cons rfl (fun K hK => ?_) AllReady.nil
          go_simp
          refine hK _ _ ?_
          clear hK K
          have hf1 : (wd.alloc (.cells #[.pointer q2] 80)).cell? ⟨wd.heap.size, 0, none⟩ = some (.pointer q2) := by simp [go_sem]
          have hf2 : V.heap.size ≤ wd.heap.size := hVd.size
          have hf3 : Below V.heap.size V (wd.alloc (.cells #[.pointer q2] 80)) := hVd.alloc hVd.size _
          have hf4 : b2 = true → ∃ A : Nat → Nat, q2 = some ⟨A 0, 0, none⟩ ∧ RingB (wd.alloc (.cells #[.pointer q2] 80)).heap.size A (splB L i j) (wd.alloc (.cells #[.pointer q2] 80)) := fun hb => by
            obtain ⟨A, e, hr⟩ := hq2 hb
            exact ⟨A, e, (hr.below ((Below.refl _ _).alloc (Nat.le_refl _) _)).up (by simp)⟩
          obtain ⟨Y, hY⟩ : ∃ Y, wd.heap.size = Y := ⟨_, rfl⟩
          obtain ⟨sb, hsb⟩ : ∃ sb, V.heap.size = sb := ⟨_, rfl⟩
          obtain ⟨W, hW⟩ : ∃ W, (wd.alloc (.cells #[.pointer q2] 80)) = W := ⟨_, rfl⟩
          refine wpAny_done (by kernel_rfl) ?_ _
          have hg1 : W.cell? ⟨Y, 0, none⟩ = some (.pointer q2) := by rw [← hW, ← hY]; exact hf1
          have hg2 : V.heap.size ≤ Y := by rw [← hY]; exact hf2
          have hg3 : Below V.heap.size V W := by rw [← hW]; exact hf3
          have hg4 : b2 = true → ∃ A : Nat → Nat, q2 = some ⟨A 0, 0, none⟩ ∧ RingB W.heap.size A (splB L i j) W := by rw [← hW]; exact hf4
          rw [hW]
          rw [hY, hsb]
          exact REST Y sb g2 d2 q2 W hg1 hg2 hg3 hg4
        · skip
          go_simp
          refine hK _ _ ?_
          clear hK K
          refine wpAny_ready (rs := [9]) (by kernel_rfl) (by simp) ?_
          refine AllReady.cons rfl (fun K hK => ?_) AllReady.nil
          go_simp
          refine (cB _ _ _ ?_ ?_).out.mono ?_
          focus ((first | exact hI2 | exact hI2.alloc _); done)
          focus (exact hd2)
          rintro e wd ⟨q2, ⟨rfl, hq2⟩, hb_wd⟩
          refine hK _ _ ?_
          clear hK K
          have hs_wd := hb_wd.size
          (try simp at hs_wd)
          have hVd : Below V.heap.size V wd := (hVc.alloc hVc.size _).trans (hb_wd.mono (by have := hVc.size; simp; omega))
          have y1d : wd.cell? ⟨wc.heap.size, 0, none⟩ = some (.pointer none) := by rw [hb_wd.cell (p := ⟨wc.heap.size, 0, none⟩) (by simp)]; simp [go_sem]
          have y2d : wd.frozen? ⟨wc.heap.size, 0, none⟩ = false := by rw [hb_wd.frozen (p := ⟨wc.heap.size, 0, none⟩) (by simp)]; simp [go_sem]
          refine wpAny_take (i := 10) (v := .tuple #[.agg #[.pointer q2], .bool b2]) rfl (by kernel_rfl) (by kernel_rfl) (by kernel_rfl) (fun _ _ _ h => h) (Or.inl ⟨by rfl, ?_⟩) ?_
          focus ((intro w; go_simp); done)
          refine wpAny_take (i := 11) (v := .agg #[.pointer q2]) rfl (by kernel_rfl) (by kernel_rfl) (by kernel_rfl) (fun _ _ _ h => h) (Or.inl ⟨by rfl, ?_⟩) ?_
          focus ((intro w; go_simp); done)
          refine wpAny_take (i := 12) (v := .bool b2) rfl (by kernel_rfl) (by kernel_rfl) (by kernel_rfl) (fun _ _ _ h => h) (Or.inl ⟨by rfl, ?_⟩) ?_
          focus ((intro w; go_simp); done)
          refine wpAny_ready (rs := [14]) (by kernel_rfl) (by simp) ?_
          refine AllReady.cons rfl (fun K hK => ?_) AllReady.nil
          go_simp
          refine hK _ _ ?_
          clear hK K
          refine wpAny_ready (rs := [15]) (by kernel_rfl) (by simp) ?_
          refine AllReady.cons rfl (fun K hK => ?_) AllReady.nil
          go_simp
          refine hK _ _ ?_
          clear hK K
          have hf1 : (wd.setCell ⟨wc.heap.size, 0, none⟩ (.pointer q2)).cell? ⟨wc.heap.size, 0, none⟩ = some (.pointer q2) := set_same y1d _
          have hf2 : V.heap.size ≤ wc.heap.size := by first | exact Nat.le_refl _ | omega | exact hVc.size
          have hf3 : Below V.heap.size V (wd.setCell ⟨wc.heap.size, 0, none⟩ (.pointer q2)) := hVd.setCell (p := ⟨wc.heap.size, 0, none⟩) hf2 _
          have hf4 : b2 = true → ∃ A : Nat → Nat, q2 = some ⟨A 0, 0, none⟩ ∧ RingB (wd.setCell ⟨wc.heap.size, 0, none⟩ (.pointer q2)).heap.size A (splB L i j) (wd.setCell ⟨wc.heap.size, 0, none⟩ (.pointer q2)) := fun hb => by
            obtain ⟨A, e, hr⟩ := hq2 hb
            exact ⟨A, e, (hr.put y1d _).up (by simp)⟩
          obtain ⟨Y, hY⟩ : ∃ Y, wc.heap.size = Y := ⟨_, rfl⟩
          obtain ⟨sb, hsb⟩ : ∃ sb, V.heap.size = sb := ⟨_, rfl⟩
          obtain ⟨W, hW⟩ : ∃ W, (wd.setCell ⟨wc.heap.size, 0, none⟩ (.pointer q2)) = W := ⟨_, rfl⟩
          refine wpAny_done (by kernel_rfl) ?_ _
          have hg1 : W.cell? ⟨Y, 0, none⟩ = some (.pointer q2) := by rw [← hW, ← hY]; exact hf1
          have hg2 : V.heap.size ≤ Y := by rw [← hY]; exact hf2
          have hg3 : Below V.heap.size V W := by rw [← hW]; exact hf3
          have hg4 : b2 = true → ∃ A : Nat → Nat, q2 = some ⟨A 0, 0, none⟩ ∧ RingB W.heap.size A (splB L i j) W := by rw [← hW]; exact hf4
          rw [hW]
          rw [hY, hsb]
          exact REST Y sb g2 d2 q2 W hg1 hg2 hg3 hg4
      · skip
        go_simp
        refine hK _ _ ?_
        clear hK K
        refine wpAny_ready (rs := [8]) (by kernel_rfl) (by simp) ?_
        refine AllReady.cons rfl (fun K hK => ?_) AllReady.nil
        go_simp
        refine (KCH.out _ _ ?_ ?_ ?_).mono ?_
        focus (simp [go_sem]; done)
        focus (simp [go_sem]; done)
        focus ((first | exact HV.out.2.2.alloc _ | exact (HV.out.2.2.alloc _).alloc _); done)
        rintro e wc ⟨g2, d2, rfl, hd2, hI2, hb_wc⟩
        refine hK _ _ ?_
        clear hK K
        have hVc : Below V.heap.size V wc := (((below_drew (Below.refl V.heap.size V)).alloc (Nat.le_refl _) (.cells #[.slice (some ⟨g, j * 2, none⟩) (n - j) (cap - j), .slice (some ⟨g, 0, none⟩) (i + 1) cap] 23)).alloc (by simp) (.cells #[.pointer none] 80)).trans (hb_wc.mono (by simp; omega))
        have hs_wc := hb_wc.size
        simp at hs_wc
        have y1 : wc.cell? ⟨V.heap.size + 1, 0, none⟩ = some (.pointer none) := by rw [hb_wc.cell (p := ⟨V.heap.size + 1, 0, none⟩) (by first | (simp; done) | (simp; omega))]; simp [go_sem]
        have y2 : wc.frozen? ⟨V.heap.size + 1, 0, none⟩ = false := by rw [hb_wc.frozen (p := ⟨V.heap.size + 1, 0, none⟩) (by first | (simp; done) | (simp; omega))]; simp [go_sem]
        refine wpAny_ready (rs := [9]) (by kernel_rfl) (by simp) ?_
        refine AllReady.cons rfl (fun K hK => ?_) AllReady.nil
        go_simp
        refine (cB _ _ _ ?_ ?_).out.mono ?_
        focus ((first | exact hI2 | exact hI2.alloc _); done)
        focus (exact hd2)
        rintro e wd ⟨q2, ⟨rfl, hq2⟩, hb_wd⟩
        refine hK _ _ ?_
        clear hK K
        have hs_wd := hb_wd.size
        (try simp at hs_wd)
        have hVd : Below V.heap.size V wd := hVc.trans (hb_wd.mono hVc.size)
        have y1d : wd.cell? ⟨V.heap.size + 1, 0, none⟩ = some (.pointer none) := cell_below_keep hb_wd y1
        have y2d : wd.frozen? ⟨V.heap.size + 1, 0, none⟩ = false := (hb_wd.frozen (World.block_lt_of_cell? wc _ y1)).trans y2
        refine wpAny_take (i := 10) (v := .tuple #[.agg #[.pointer q2], .bool b2]) rfl (by kernel_rfl) (by kernel_rfl) (by kernel_rfl) (fun _ _ _ h => h) (Or.inl ⟨by rfl, ?_⟩) ?_
        focus ((intro w; go_simp); done)
        refine wpAny_take (i := 11) (v := .agg #[.pointer q2]) rfl (by kernel_rfl) (by kernel_rfl) (by kernel_rfl) (fun _ _ _ h => h) (Or.inl ⟨by rfl, ?_⟩) ?_
        focus ((intro w; go_simp); done)
        refine wpAny_take (i := 12) (v := .bool b2) rfl (by kernel_rfl) (by kernel_rfl) (by kernel_rfl) (fun _ _ _ h => h) (Or.inl ⟨by rfl, ?_⟩) ?_
        focus ((intro w; go_simp); done)
        refine wpAny_ready (rs := [14]) (by kernel_rfl) (by simp) ?_
        refine AllReady.cons rfl (fun K hK => ?_) AllReady.nil
        go_simp
        refine hK _ _ ?_
        clear hK K
        refine wpAny_ready (rs := [15]) (by kernel_rfl) (by simp) ?_
        refine AllReady.cons rfl (fun K hK => ?_) AllReady.nil
        go_simp
        refine hK _ _ ?_
        clear hK K
        have hf1 : (wd.setCell ⟨V.heap.size + 1, 0, none⟩ (.pointer q2)).cell? ⟨V.heap.size + 1, 0, none⟩ = some (.pointer q2) := set_same y1d _
        have hf2 : V.heap.size ≤ V.heap.size + 1 := by first | exact Nat.le_refl _ | omega | exact hVc.size
        have hf3 : Below V.heap.size V (wd.setCell ⟨V.heap.size + 1, 0, none⟩ (.pointer q2)) := hVd.setCell (p := ⟨V.heap.size + 1, 0, none⟩) hf2 _
        have hf4 : b2 = true → ∃ A : Nat → Nat, q2 = some ⟨A 0, 0, none⟩ ∧ RingB (wd.setCell ⟨V.heap.size + 1, 0, none⟩ (.pointer q2)).heap.size A (splB L i j) (wd.setCell ⟨V.heap.size + 1, 0, none⟩ (.pointer q2)) := fun hb => by
          obtain ⟨A, e, hr⟩ := hq2 hb
          exact ⟨A, e, (hr.put y1d _).up (by simp)⟩
        obtain ⟨Y, hY⟩ : ∃ Y, V.heap.size + 1 = Y := ⟨_, rfl⟩
        obtain ⟨sb, hsb⟩ : ∃ sb, V.heap.size = sb := ⟨_, rfl⟩
        obtain ⟨W, hW⟩ : ∃ W, (wd.setCell ⟨V.heap.size + 1, 0, none⟩ (.pointer q2)) = W := ⟨_, rfl⟩
        refine wpAny_done (by kernel_rfl) ?_ _
        have hg1 : W.cell? ⟨Y, 0, none⟩ = some (.pointer q2) := by rw [← hW, ← hY]; exact hf1
        have hg2 : V.heap.size ≤ Y := by rw [← hY]; exact hf2
        have hg3 : Below V.heap.size V W := by rw [← hW]; exact hf3
        have hg4 : b2 = true → ∃ A : Nat → Nat, q2 = some ⟨A 0, 0, none⟩ ∧ RingB W.heap.size A (splB L i j) W := by rw [← hW]; exact hf4
        rw [hW]
        rw [hY, hsb]
        exact REST Y sb g2 d2 q2 W hg1 hg2 hg3 hg4
    · skip
      go_simp
      refine hK _ _ ?_
      clear hK K
      refine wpAny_ready (rs := [7]) (by kernel_rfl) (by simp) ?_
      refine AllReady.cons rfl (fun K hK => ?_) AllReady.nil
      go_simp
      refine hK _ _ ?_
      clear hK K
      refine wpAny_ready (rs := [8]) (by kernel_rfl) (by simp) ?_
      refine AllReady.cons rfl (fun K hK => ?_) AllReady.nil
      go_simp
      refine (KCH.out _ _ ?_ ?_ ?_).mono ?_
      focus (simp [go_sem]; done)
      focus (simp [go_sem]; done)
      focus ((first | exact HV.out.2.2.alloc _ | exact (HV.out.2.2.alloc _).alloc _); done)
      rintro e wc ⟨g2, d2, rfl, hd2, hI2, hb_wc⟩
      refine hK _ _ ?_
      clear hK K
      have hVc : Below V.heap.size V wc := (((below_drew (Below.refl V.heap.size V)).alloc (Nat.le_refl _) (.cells #[.pointer none] 80)).alloc (by simp) (.cells #[.slice (some ⟨g, j * 2, none⟩) (n - j) (cap - j), .slice (some ⟨g, 0, none⟩) (i + 1) cap] 23)).trans (hb_wc.mono (by simp; omega))
      have hs_wc := hb_wc.size
      simp at hs_wc
      have y1 : wc.cell? ⟨V.heap.size, 0, none⟩ = some (.pointer none) := by rw [hb_wc.cell (p := ⟨V.heap.size, 0, none⟩) (by first | (simp; done) | (simp; omega))]; simp [go_sem]
      have y2 : wc.frozen? ⟨V.heap.size, 0, none⟩ = false := by rw [hb_wc.frozen (p := ⟨V.heap.size, 0, none⟩) (by first | (simp; done) | (simp; omega))]; simp [go_sem]
      refine wpAny_ready (rs := [9]) (by kernel_rfl) (by simp) ?_
      refine AllReady.cons rfl (fun K hK => ?_) AllReady.nil
      go_simp
      refine (cB _ _ _ ?_ ?_).out.mono ?_
      focus ((first | exact hI2 | exact hI2.alloc _); done)
      focus (exact hd2)
      rintro e wd ⟨q2, ⟨rfl, hq2⟩, hb_wd⟩
      refine hK _ _ ?_
      clear hK K
      have hs_wd := hb_wd.size
      (try simp at hs_wd)
      have hVd : Below V.heap.size V wd := hVc.trans (hb_wd.mono hVc.size)
      have y1d : wd.cell? ⟨V.heap.size, 0, none⟩ = some (.pointer none) := cell_below_keep hb_wd y1
      have y2d : wd.frozen? ⟨V.heap.size, 0, none⟩ = false := (hb_wd.frozen (World.block_lt_of_cell? wc _ y1)).trans y2
      refine wpAny_take (i := 10) (v := .tuple #[.agg #[.pointer q2], .bool b2]) rfl (by kernel_rfl) (by kernel_rfl) (by kernel_rfl) (fun _ _ _ h => h) (Or.inl ⟨by rfl, ?_⟩) ?_
      focus ((intro w; go_simp); done)
      refine wpAny_take (i := 11) (v := .agg #[.pointer q2]) rfl (by kernel_rfl) (by kernel_rfl) (by kernel_rfl) (fun _ _ _ h => h) (Or.inl ⟨by rfl, ?_⟩) ?_
      focus ((intro w; go_simp); done)
      refine wpAny_take (i := 12) (v := .bool b2) rfl (by kernel_rfl) (by kernel_rfl) (by kernel_rfl) (fun _ _ _ h => h) (Or.inl ⟨by rfl, ?_⟩) ?_
      focus ((intro w; go_simp); done)
      refine wpAny_ready (rs := [14]) (by kernel_rfl) (by simp) ?_
      refine AllReady.cons rfl (fun K hK => ?_) AllReady.nil
      go_simp
      refine hK _ _ ?_
      clear hK K
      refine wpAny_ready (rs := [15]) (by kernel_rfl) (by simp) ?_
      refine AllReady.cons rfl (fun K hK => ?_) AllReady.nil
      go_simp
      refine hK _ _ ?_
      clear hK K
      have hf1 : (wd.setCell ⟨V.heap.size, 0, none⟩ (.pointer q2)).cell? ⟨V.heap.size, 0, none⟩ = some (.pointer q2) := set_same y1d _
      have hf2 : V.heap.size ≤ V.heap.size := by first | exact Nat.le_refl _ | omega | exact hVc.size
      have hf3 : Below V.heap.size V (wd.setCell ⟨V.heap.size, 0, none⟩ (.pointer q2)) := hVd.setCell (p := ⟨V.heap.size, 0, none⟩) hf2 _
      have hf4 : b2 = true → ∃ A : Nat → Nat, q2 = some ⟨A 0, 0, none⟩ ∧ RingB (wd.setCell ⟨V.heap.size, 0, none⟩ (.pointer q2)).heap.size A (splB L i j) (wd.setCell ⟨V.heap.size, 0, none⟩ (.pointer q2)) := fun hb => by
        obtain ⟨A, e, hr⟩ := hq2 hb
        exact ⟨A, e, (hr.put y1d _).up (by simp)⟩
      obtain ⟨Y, hY⟩ : ∃ Y, V.heap.size = Y := ⟨_, rfl⟩
      obtain ⟨sb, hsb⟩ : ∃ sb, V.heap.size + 1 = sb := ⟨_, rfl⟩
      obtain ⟨W, hW⟩ : ∃ W, (wd.setCell ⟨V.heap.size, 0, none⟩ (.pointer q2)) = W := ⟨_, rfl⟩
      refine wpAny_done (by kernel_rfl) ?_ _
      have hg1 : W.cell? ⟨Y, 0, none⟩ = some (.pointer q2) := by rw [← hW, ← hY]; exact hf1
      have hg2 : V.heap.size ≤ Y := by rw [← hY]; exact hf2
      have hg3 : Below V.heap.size V W := by rw [← hW]; exact hf3
      have hg4 : b2 = true → ∃ A : Nat → Nat, q2 = some ⟨A 0, 0, none⟩ ∧ RingB W.heap.size A (splB L i j) W := by rw [← hW]; exact hf4
      rw [hW]
      rw [hsb, hY]
      exact REST Y sb g2 d2 q2 W hg1 hg2 hg3 hg4
  · intro Y sb g2 d2 q2 W hY hVY hbVW hq2
    have hsX := hsVX.out
    have hqV := HV.out.2.1
    have hXW : X < W.heap.size := by have := hbVW.size; omega
    have hX6 : ¬ X = w.heap.size + 1 := by omega
    have hX7 : ¬ X = w.heap.size + 1 + 1 := by omega
    have hY6 : ¬ Y = w.heap.size + 1 := by omega
    have hY7 : ¬ Y = w.heap.size + 1 + 1 := by omega
    have hX6' : ¬ w.heap.size + 1 = X := by omega
    have hX7' : ¬ w.heap.size + 1 + 1 = X := by omega
    have hY6' : ¬ w.heap.size + 1 = Y := by omega
    have hY7' : ¬ w.heap.size + 1 + 1 = Y := by omega
    have m10 := (hbVW.cell (p := ⟨X, 0, none⟩) hXV).trans k10
    have m6 := (hbVW.cell (p := ⟨w.heap.size + 1, 0, none⟩) (show w.heap.size + 1 < V.heap.size by omega)).trans k6'
    have m7 := (hbVW.cell (p := ⟨w.heap.size + 1 + 1, 0, none⟩) (show w.heap.size + 1 + 1 < V.heap.size by omega)).trans k7'
    have r6 := (hbVW.frozen (p := ⟨w.heap.size + 1, 0, none⟩) (show w.heap.size + 1 < V.heap.size by omega)).trans r6'
    have r7 := (hbVW.frozen (p := ⟨w.heap.size + 1 + 1, 0, none⟩) (show w.heap.size + 1 + 1 < V.heap.size by omega)).trans r7'
    have hqW : b1 = true → ∃ A : Nat → Nat, q1 = some ⟨A 0, 0, none⟩ ∧ RingB X A (splA L i j) W := fun hb => by
      obtain ⟨A, e, hr⟩ := hqV hb
      exact ⟨A, e, hr.below (hbVW.mono (by omega))⟩
    have hbW : Below w.heap.size w W := HV.out.1.trans (hbVW.mono (by omega))
    have HF := Lib.hid (And.intro hbW (And.intro hqW (And.intro hq2 (And.intro m6 m7))))
    clear hsX hqV hXV hsVX hbVW hVY hqW hbW hq2 k10 k6' k7' r6' r7' HV KCH hOV cB
    have lX : X < W.heap.size := hXW
    have lY : Y < W.heap.size := World.block_lt_of_cell? W _ hY
    have l6 : w.heap.size + 1 < W.heap.size := by omega
    have l7 : w.heap.size + 1 + 1 < W.heap.size := by omega
    clear hXW
    cases b1
    · go_upto_region 6 with fail
      first | go_region_with fail | fail
      all_goals go_wp2_with fail
      all_goals obtain ⟨hbW, hqW, hq2, m6, m7⟩ := HF.out
      all_goals have e6 := set_same m6 (.pointer q1)
      all_goals have e7 : ((W.setCell ⟨w.heap.size + 1, 0, none⟩ (.pointer q1)).setCell ⟨w.heap.size + 1 + 1, 0, none⟩ (.pointer q2)).cell? ⟨w.heap.size + 1 + 1, 0, none⟩ = some (.pointer q2) := World.cell?_setCell_same' _ _ _ (by rw [World.cell?_setCell_other _ _ _ _ (by simp), m7]; rfl)
      all_goals have e8 : ((W.setCell ⟨w.heap.size + 1, 0, none⟩ (.pointer q1)).setCell ⟨w.heap.size + 1 + 1, 0, none⟩ (.pointer q2)).cell? ⟨w.heap.size + 1, 0, none⟩ = some (.pointer q1) := by rw [World.cell?_setCell_other _ _ _ _ (by simp)]; exact e6
      all_goals
        have h2 : b2 = true → ∃ A : Nat → Nat, q2 = some ⟨A 0, 0, none⟩ ∧ RingB ((W.setCell ⟨w.heap.size + 1, 0, none⟩ (.pointer q1)).setCell ⟨w.heap.size + 1 + 1, 0, none⟩ (.pointer q2)).drew.heap.size A (splB L i j) ((W.setCell ⟨w.heap.size + 1, 0, none⟩ (.pointer q1)).setCell ⟨w.heap.size + 1 + 1, 0, none⟩ (.pointer q2)).drew := by
          intro hb
          obtain ⟨A, e, hr⟩ := hq2 hb
          exact ⟨A, e, (((hr.put m6 (.pointer q1)).put (by rw [World.cell?_setCell_other _ _ _ _ (by simp)]; exact m7) (.pointer q2)).below (w' := ((W.setCell ⟨w.heap.size + 1, 0, none⟩ (.pointer q1)).setCell ⟨w.heap.size + 1 + 1, 0, none⟩ (.pointer q2)).drew) (below_drew (Below.refl _ _))).up (by simp)⟩
      all_goals have hB : Below w.heap.size w ((W.setCell ⟨w.heap.size + 1, 0, none⟩ (.pointer q1)).setCell ⟨w.heap.size + 1 + 1, 0, none⟩ (.pointer q2)).drew := below_drew ((hbW.setCell (p := ⟨w.heap.size + 1, 0, none⟩) (by simp) _).setCell (p := ⟨w.heap.size + 1 + 1, 0, none⟩) (by simp; omega) _)
      all_goals exact bodyPost_ret (v := .tuple #[.agg #[.pointer q1], .agg #[.pointer q2], .bool false]) (by simp [results, Try.results85, go_sem, e7, e8]) rfl ⟨q1, q2, ⟨rfl, (fun hb => by cases hb), h2⟩, hB⟩
    · go_upto_region 6 with fail
      go_region_held3 (fun W => W.cell? ⟨X, 0, none⟩ = some (.pointer q1) ∧ W.cell? ⟨Y, 0, none⟩ = some (.pointer q2)) (((try dsimp only); (try go_split_ands); refine ⟨?_, ?_⟩ <;> (first | ((repeat (first | with_reducible assumption | (with_reducible refine cell_below_keep (by with_reducible assumption) ?_) | (simp [go_sem]; done) | (with_reducible refine cell_alloc_keep _ ?_) | (with_reducible refine cell_drew_keep ?_) | (with_reducible refine cell_drewN_keep _ ?_) | (with_reducible refine cell_set_keep _ (by first | (simp; omega) | omega) ?_))); done) | (simp [*, go_sem]; done)))) (fail)
      go_wp2_with fail
      obtain ⟨hbW, hqW, hq2, m6, m7⟩ := HF.out
      have e6 := set_same m6 (.pointer q1)
      have e7 : ((W.setCell ⟨w.heap.size + 1, 0, none⟩ (.pointer q1)).setCell ⟨w.heap.size + 1 + 1, 0, none⟩ (.pointer q2)).cell? ⟨w.heap.size + 1 + 1, 0, none⟩ = some (.pointer q2) := World.cell?_setCell_same' _ _ _ (by rw [World.cell?_setCell_other _ _ _ _ (by simp), m7]; rfl)
      have e8 : ((W.setCell ⟨w.heap.size + 1, 0, none⟩ (.pointer q1)).setCell ⟨w.heap.size + 1 + 1, 0, none⟩ (.pointer q2)).cell? ⟨w.heap.size + 1, 0, none⟩ = some (.pointer q1) := by rw [World.cell?_setCell_other _ _ _ _ (by simp)]; exact e6
      have h1 : true = true → ∃ A : Nat → Nat, q1 = some ⟨A 0, 0, none⟩ ∧ RingB ((W.setCell ⟨w.heap.size + 1, 0, none⟩ (.pointer q1)).setCell ⟨w.heap.size + 1 + 1, 0, none⟩ (.pointer q2)).drew.heap.size A (splA L i j) ((W.setCell ⟨w.heap.size + 1, 0, none⟩ (.pointer q1)).setCell ⟨w.heap.size + 1 + 1, 0, none⟩ (.pointer q2)).drew := by
        intro hb
        obtain ⟨A, e, hr⟩ := hqW trivial
        exact ⟨A, e, (((hr.put m6 (.pointer q1)).put (by rw [World.cell?_setCell_other _ _ _ _ (by simp)]; exact m7) (.pointer q2)).below (w' := ((W.setCell ⟨w.heap.size + 1, 0, none⟩ (.pointer q1)).setCell ⟨w.heap.size + 1 + 1, 0, none⟩ (.pointer q2)).drew) (below_drew (Below.refl _ _))).up (by simp; omega)⟩
      have h2 : b2 = true → ∃ A : Nat → Nat, q2 = some ⟨A 0, 0, none⟩ ∧ RingB ((W.setCell ⟨w.heap.size + 1, 0, none⟩ (.pointer q1)).setCell ⟨w.heap.size + 1 + 1, 0, none⟩ (.pointer q2)).drew.heap.size A (splB L i j) ((W.setCell ⟨w.heap.size + 1, 0, none⟩ (.pointer q1)).setCell ⟨w.heap.size + 1 + 1, 0, none⟩ (.pointer q2)).drew := by
        intro hb
        obtain ⟨A, e, hr⟩ := hq2 hb
        exact ⟨A, e, (((hr.put m6 (.pointer q1)).put (by rw [World.cell?_setCell_other _ _ _ _ (by simp)]; exact m7) (.pointer q2)).below (w' := ((W.setCell ⟨w.heap.size + 1, 0, none⟩ (.pointer q1)).setCell ⟨w.heap.size + 1 + 1, 0, none⟩ (.pointer q2)).drew) (below_drew (Below.refl _ _))).up (by simp)⟩
      have hB : Below w.heap.size w ((W.setCell ⟨w.heap.size + 1, 0, none⟩ (.pointer q1)).setCell ⟨w.heap.size + 1 + 1, 0, none⟩ (.pointer q2)).drew := below_drew ((hbW.setCell (p := ⟨w.heap.size + 1, 0, none⟩) (by simp) _).setCell (p := ⟨w.heap.size + 1 + 1, 0, none⟩) (by simp; omega) _)
      exact bodyPost_ret (v := .tuple #[.agg #[.pointer q1], .agg #[.pointer q2], .bool b2]) (by simp [results, Try.results85, go_sem, e7, e8]) rfl ⟨⟨q1, q2, rfl, h1 rfl, h2⟩, hB⟩
end Go.Proofs.Ytegcjdcinebleaa
namespace Go.Proofs.Ytegcjdcinebleaa
open Go.RowKit Poly
set_option linter.unusedVariables false

section
variable {p q : Option Addr} {c d : Nat} {L M : List P2} {w : World}
set_option maxHeartbeats 2000000 in
theorem iParcelCommon_no (h : Ints w p (fl L)) (h' : Ints w q (fl M)) (hc : L.length ≤ c) (hc' : M.length ≤ d) (hl : L.length ≤ 4000000000000000000) (hl' : M.length ≤ 4000000000000000000) (hv : (parV L && parV M) = false) :
    Calls Try.prog 42 #[.slice p L.length c, .slice q M.length d] w fun e w' => e = .returned (.int .i64 (-1)) ∧ Below w.heap.size w w' := by
  have H := Lib.hid (And.intro h h')
  obtain ⟨b1, hb1⟩ : ∃ b, parV L = b := ⟨_, rfl⟩
  obtain ⟨b2, hb2⟩ : ∃ b, parV M = b := ⟨_, rfl⟩
  have c1 := fun w h => Lib.hid (iParcelOf_n (p := p) (c := c) (L := L) (w := w) h rfl hc hl hb1)
  have c2 := fun w h => Lib.hid (iParcelOf_n (p := q) (c := d) (L := M) (w := w) h rfl hc' hl' hb2)
  rw [hb1, hb2] at hv
  clear h h' hb1 hb2
  have hd : b1 = false ∨ (b1 = true ∧ b2 = false) := by cases b1 <;> simp at hv ⊢; exact hv
  clear hv
  rcases hd with rfl | ⟨rfl, rfl⟩
  all_goals go_enter Try.func42, Try.ntmps42
  all_goals go_wp2_with (first | ((go_at_call 81; (with_reducible refine ((c1 _ ?_).out).mono ?_); (focus ((exact H.out.1.below (by repeat (first | assumption | exact Below.refl _ _ | (refine below_chain ?_ (by assumption) (by first | omega | (simp <;> omega) | simp)) | (refine Below.alloc ?_ (by first | omega | (simp <;> omega) | simp) _) | (apply below_drewN) | (apply below_drew) | (refine Below.setCell ?_ (by first | omega | (simp <;> omega) | simp) _)))); done)); rintro e wa ⟨q1, ⟨rfl, hq1⟩, hb_wa⟩; have hs_wa := hb_wa.size; (try simp at hs_wa))) | ((go_at_call 81; (with_reducible refine ((c2 _ ?_).out).mono ?_); (focus ((exact H.out.2.below (by repeat (first | assumption | exact Below.refl _ _ | (refine below_chain ?_ (by assumption) (by first | omega | (simp <;> omega) | simp)) | (refine Below.alloc ?_ (by first | omega | (simp <;> omega) | simp) _) | (apply below_drewN) | (apply below_drew) | (refine Below.setCell ?_ (by first | omega | (simp <;> omega) | simp) _)))); done)); rintro e wb ⟨q2, ⟨rfl, hq2⟩, hb_wb⟩; have hs_wb := hb_wb.size; (try simp at hs_wb)); skip))
  all_goals go_ret
  all_goals exact ⟨rfl, (by repeat (first | assumption | exact Below.refl _ _ | (refine below_chain ?_ (by assumption) (by first | omega | (simp <;> omega) | simp)) | (refine Below.alloc ?_ (by first | omega | (simp <;> omega) | simp) _) | (apply below_drewN) | (apply below_drew) | (refine Below.setCell ?_ (by first | omega | (simp <;> omega) | simp) _)))⟩
set_option maxHeartbeats 2000000 in
theorem iParcelCommon_yes (h : Ints w p (fl L)) (h' : Ints w q (fl M)) (hc : L.length ≤ c) (hc' : M.length ≤ d) (hv : parV L = true) (hv' : parV M = true) :
    Calls Try.prog 42 #[.slice p L.length c, .slice q M.length d] w fun e w' => e = .returned (.int .i64 (commonL L M)) ∧ Below w.heap.size w w' := by
  have H := Lib.hid (And.intro h h')
  have o1 := parV_ok hv
  have o2 := parV_ok hv'
  have c1 := fun w h => Lib.hid (iParcelOf_yes (p := p) (c := c) (L := L) (w := w) h hc hv)
  have c2 := fun w h => Lib.hid (iParcelOf_yes (p := q) (c := d) (L := M) (w := w) h hc' hv')
  have c3 := fun (A B : Nat → Nat) (n1 n2 : Nat) w h1 h2 h3 h4 => Lib.hid (iCommonM (n₁ := n1) (n₂ := n2) (A := A) (B := B) (L := L) (M := M) (w := w) h1 h2 h3 h4 o1 o2)
  clear h h' hv hv' o1 o2
  go_enter Try.func42, Try.ntmps42
  go_wp2_with (first | ((go_at_call 81; (with_reducible refine ((c1 _ ?_).out).mono ?_); (focus ((exact H.out.1.below (by repeat (first | assumption | exact Below.refl _ _ | (refine below_chain ?_ (by assumption) (by first | omega | (simp <;> omega) | simp)) | (refine Below.alloc ?_ (by first | omega | (simp <;> omega) | simp) _) | (apply below_drewN) | (apply below_drew) | (refine Below.setCell ?_ (by first | omega | (simp <;> omega) | simp) _)))); done)); rintro e wa ⟨A, ⟨rfl, hR⟩, hb_wa⟩; have hs_wa := hb_wa.size; (try simp at hs_wa))) | ((go_at_call 81; (with_reducible refine ((c2 _ ?_).out).mono ?_); (focus ((exact H.out.2.below (by repeat (first | assumption | exact Below.refl _ _ | (refine below_chain ?_ (by assumption) (by first | omega | (simp <;> omega) | simp)) | (refine Below.alloc ?_ (by first | omega | (simp <;> omega) | simp) _) | (apply below_drewN) | (apply below_drew) | (refine Below.setCell ?_ (by first | omega | (simp <;> omega) | simp) _)))); done)); rintro e wb ⟨B, ⟨rfl, hS⟩, hb_wb⟩; have hs_wb := hb_wb.size; (try simp at hs_wb)); obtain ⟨hc_wb, hf_wb⟩ := bcell hb_wb; (have hz_wb : wa.heap.size < wb.heap.size := by omega)) | ((go_at_call 90; (with_reducible refine ((c3 A B wa.heap.size wb.heap.size _ ?_ ?_ ?_ ?_).out).mono ?_); (focus ((exact (((hR.below ((Below.refl _ _).alloc (Nat.le_refl _) _)).below (hb_wb.mono (by simp))).below ((Below.refl _ _).alloc (by omega) _))); done)); (focus (((simp <;> omega)); done)); (focus ((exact hS.below ((Below.refl _ _).alloc (Nat.le_refl _) _)); done)); (focus (((simp <;> omega)); done)); rintro e wd ⟨rfl, hb_wd⟩; have hs_wd := hb_wd.size; (try simp at hs_wd))))
  go_ret
  exact ⟨rfl, (by repeat (first | assumption | exact Below.refl _ _ | (refine below_chain ?_ (by assumption) (by first | omega | (simp <;> omega) | simp)) | (refine Below.alloc ?_ (by first | omega | (simp <;> omega) | simp) _) | (apply below_drewN) | (apply below_drew) | (refine Below.setCell ?_ (by first | omega | (simp <;> omega) | simp) _)))⟩
set_option maxHeartbeats 2000000 in
theorem iParcelMarks_no (h : Ints w p (fl L)) (hc : L.length ≤ c) (hl : L.length ≤ 4000000000000000000) (hv : parV L = false) :
    Calls Try.prog 49 #[.slice p L.length c] w fun e w' => e = .returned (.tuple #[.slice none 0 0, .bool false]) ∧ Below w.heap.size w w' := by
  have H := Lib.hid h
  have c1 := fun w h => Lib.hid (iParcelOf_no (p := p) (c := c) (L := L) (w := w) h hc hl hv)
  clear h hv
  go_enter Try.func49, Try.ntmps49
  go_wp2_with ((go_at_call 81; (with_reducible refine ((c1 _ ?_).out).mono ?_); (focus ((exact H.out.below (by repeat (first | assumption | exact Below.refl _ _ | (refine below_chain ?_ (by assumption) (by first | omega | (simp <;> omega) | simp)) | (refine Below.alloc ?_ (by first | omega | (simp <;> omega) | simp) _) | (apply below_drewN) | (apply below_drew) | (refine Below.setCell ?_ (by first | omega | (simp <;> omega) | simp) _)))); done)); rintro e wa ⟨rfl, hb_wa⟩; have hs_wa := hb_wa.size; (try simp at hs_wa)))
  refine bodyPost_ret (v := .tuple #[.slice none 0 0, .bool false]) (by simp [results, Try.results49, go_sem]) rfl ⟨rfl, (by repeat (first | assumption | exact Below.refl _ _ | (refine below_chain ?_ (by assumption) (by first | omega | (simp <;> omega) | simp)) | (refine Below.alloc ?_ (by first | omega | (simp <;> omega) | simp) _) | (apply below_drewN) | (apply below_drew) | (refine Below.setCell ?_ (by first | omega | (simp <;> omega) | simp) _)))⟩
set_option maxHeartbeats 2000000 in
theorem iParcelMarks_yes (h : Ints w p (fl L)) (hc : L.length ≤ c) (hv : parV L = true) :
    Calls Try.prog 49 #[.slice p L.length c] w fun e w' => ∃ v, e = .returned (.tuple #[v, .bool true]) ∧ LstP w.heap.size w' v (marksL L) ∧ Below w.heap.size w w' := by
  have H := Lib.hid h
  have o1 := parV_ok hv
  have c1 := fun w h => Lib.hid (iParcelOf_yes (p := p) (c := c) (L := L) (w := w) h hc hv)
  have c3 := fun (A : Nat → Nat) (n1 : Nat) w h1 h2 => Lib.hid (iMarksM (n₀ := n1) (A := A) (L := L) (w := w) h1 h2 o1)
  clear h hv o1
  go_enter Try.func49, Try.ntmps49
  go_wp2_with (first | ((go_at_call 81; (with_reducible refine ((c1 _ ?_).out).mono ?_); (focus ((exact H.out.below (by repeat (first | assumption | exact Below.refl _ _ | (refine below_chain ?_ (by assumption) (by first | omega | (simp <;> omega) | simp)) | (refine Below.alloc ?_ (by first | omega | (simp <;> omega) | simp) _) | (apply below_drewN) | (apply below_drew) | (refine Below.setCell ?_ (by first | omega | (simp <;> omega) | simp) _)))); done)); rintro e wa ⟨A, ⟨rfl, hR⟩, hb_wa⟩; have hs_wa := hb_wa.size; (try simp at hs_wa))) | ((go_at_call 94; (with_reducible refine ((c3 A wa.heap.size _ ?_ ?_).out).mono ?_); (focus ((exact hR.below ((Below.refl _ _).alloc (Nat.le_refl _) _)); done)); (focus (((simp <;> omega)); done)); rintro e wd ⟨v, rfl, hL, hb_wd⟩; have hs_wd := hb_wd.size; (try simp at hs_wd))))
  have hs1 := hb_wa.size
  refine bodyPost_ret (v := .tuple #[v, .bool true]) (by simp [results, Try.results49, go_sem]) rfl ⟨v, rfl, hL.low (by simp; omega), (by repeat (first | assumption | exact Below.refl _ _ | (refine below_chain ?_ (by assumption) (by first | omega | (simp <;> omega) | simp)) | (refine Below.alloc ?_ (by first | omega | (simp <;> omega) | simp) _) | (apply below_drewN) | (apply below_drew) | (refine Below.setCell ?_ (by first | omega | (simp <;> omega) | simp) _)))⟩
end
end Go.Proofs.Ytegcjdcinebleaa
