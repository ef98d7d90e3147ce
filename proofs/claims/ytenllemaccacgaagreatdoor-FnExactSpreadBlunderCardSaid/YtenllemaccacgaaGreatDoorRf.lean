/-
  The first greatest of a list of quotients in the program; SpreadWorst by the reference model and by the program.
-/
import Derived.Test.YtenllemaccacgaaGreatDoorRl
namespace Go.Proofs.YtenllemaccacgaaGreatDoor
open Go.RowKit
set_option linter.unusedVariables false

/-- the first quotients, and zeros behind them -/
def qW (k j : Nat) (f : Nat → Int × Int) : List Int := flq ((List.range j).map f) ++ List.replicate ((k - j) * 2) 0
theorem qW_len {k j : Nat} (f : Nat → Int × Int) (h : j ≤ k) : (qW k j f).length = k * 2 := by unfold qW; rw [List.length_append, flq_len]; simp; omega
theorem qW_zero (k : Nat) (f : Nat → Int × Int) : qW k 0 f = List.replicate (k * 2) 0 := by unfold qW; simp [flq]
theorem qW_done (k : Nat) (f : Nat → Int × Int) : qW k k f = flq ((List.range k).map f) := by unfold qW; simp
theorem qW_set {k j : Nat} (f : Nat → Int × Int) (h : j < k) : ((qW k j f).set (j * 2) (f j).1).set (j * 2 + 1) (f j).2 = qW k (j + 1) f := by
  have hl : (flq ((List.range j).map f)).length = j * 2 := by rw [flq_len]; simp
  have e : List.replicate ((k - j) * 2) (0 : Int) = 0 :: 0 :: List.replicate ((k - (j + 1)) * 2) 0 := by
    rw [show (k - j) * 2 = (k - (j + 1)) * 2 + 1 + 1 by omega]; rfl
  unfold qW
  rw [e, List.set_append_right _ _ (by omega), hl, Nat.sub_self, List.set_append_right _ _ (by omega), hl, show j * 2 + 1 - j * 2 = 1 by omega, List.range_succ, List.map_append, flq_append]
  simp [flq]
theorem made_quosW (w : World) (n : Nat) (hn : n ≤ 1048576) : (Instr.makeSlice 67 (.int .i64 (n : Int)) (.int .i64 (n : Int))).run Tryz.prog w = .ok (.slice (some ⟨w.heap.size, 0, none⟩) n n) (w.alloc (.cells (madeCells (Array.replicate 2 (.int .i64 0)) (n * 2)) 27)) := by
  obtain ⟨i, hi, hzz⟩ := Option.map_eq_some_iff.1 info_quo
  simp only [Prod.mk.injEq] at hzz
  obtain ⟨hz, hs, hb⟩ := hzz
  have := run_make (P := Tryz.prog) w 67 27 i _ Tryz.underlying67 hi hz .i64 .i64 n n (by omega) (Int.le_refl _) (by rw [hb]; omega) (by omega)
  simp only [Int.toNat_natCast, hs] at this
  exact this
/-- a slice value holds quotients -/
def QReadW (w : World) (p : Option Addr) (xs : List (Int × Int)) : Prop := xs = [] ∨ ∃ B, p = some ⟨B, 0, none⟩ ∧ B < w.heap.size ∧ ∀ (i : Nat) (x : Int × Int), xs[i]? = some x → w.cell? ⟨B, i * 2, none⟩ = some (.int .i64 x.1) ∧ w.cell? ⟨B, i * 2 + 1, none⟩ = some (.int .i64 x.2)
theorem QReadW.below {w w' : World} {p : Option Addr} {xs : List (Int × Int)} (h : QReadW w p xs) (hb : Below w.heap.size w w') : QReadW w' p xs := by
  rcases h with h | ⟨B, h1, h2, h3⟩
  · exact .inl h
  · exact .inr ⟨B, h1, Nat.lt_of_lt_of_le h2 hb.size, fun i x hi => ⟨cell_below_keep hb (h3 i x hi).1, cell_below_keep hb (h3 i x hi).2⟩⟩
theorem Own.quosW {w : World} {g n cap : Nat} {xs : List (Int × Int)} (h : Own w g 27 2 n cap (flq xs)) : QReadW w (some ⟨g, 0, none⟩) xs :=
  .inr ⟨g, rfl, h.lt, fun i x hi => by
    have := flq_at hi
    exact ⟨h.cells this.1, h.cells this.2⟩⟩
theorem gix_in {q : List (Int × Int)} {j : Nat} (hj : j < q.length) : gix q j < q.length := by
  rcases Nat.eq_zero_or_pos j with h | h
  · subst h; exact hj
  · have := gix_lt (q := q) h; omega
/-- how the program orders two valid quotients -/
theorem order_q {x y : Int × Int} (hx : Quo.qv x.1 x.2 = true) (hy : Quo.qv y.1 y.2 = true) : Quo.both x.1 x.2 y.1 y.2 = true ∧ Quo.gS (Quo.both x.1 x.2 y.1 y.2) (x.1 * y.2 - y.1 * x.2) = Quo.sg (gtq x y) := by
  have hb : Quo.both x.1 x.2 y.1 y.2 = true := by unfold Quo.both; rw [hx, hy]; rfl
  refine ⟨hb, ?_⟩
  unfold Quo.gS
  rw [hb]; rfl
theorem gix_step {q : List (Int × Int)} {j : Nat} {x y : Int × Int} (hx : q[j]? = some x) (hy : q[gix q j]? = some y) : gix q (j + 1) = if 0 < gtq x y then j else gix q j := by
  have e : gix q (j + 1) = if 0 < gtq ((q[j]?).getD (0, 1)) ((q[gix q j]?).getD (0, 1)) then j else gix q j := rfl
  rw [e, hx, hy]; rfl
set_option maxHeartbeats 4000000 in
set_option maxRecDepth 100000 in
theorem iGreatest (n c : Nat) (p : Option Addr) (q : List (Int × Int)) (w : World) (h : QReadW w p q) (hl : q.length = n) (hn : n ≤ 100) (hv : ∀ x ∈ q, Quo.qv x.1 x.2 = true) :
    Calls Tryz.prog 33 #[.slice p n c] w fun e w' => e = .returned (.tuple #[.int .i64 (gix q n), .bool (decide (0 < n))]) ∧ Below w.heap.size w w' := by
  have H := Lib.hid (And.intro h (And.intro hl hv))
  clear h hl hv
  go_enter Tryz.func33, Tryz.ntmps33
  go_wp2_with fail
  go_loopw [4, 11] (fun s i wr => ∃ j : Nat, j ≤ n ∧ i = .int .i64 j ∧ s = .int .i64 (gix q j) ∧ Below w.heap.size w wr) (fun _ i _ => n - (intOf i).toNat)
  case atStart => exact ⟨0, Nat.zero_le _, rfl, rfl, Below.refl _ _⟩
  case round =>
    rename World => wr
    obtain ⟨j, hj, rfl, rfl, hb⟩ := hrel
    have hbs := hb.size
    by_cases hlt : j < n
    · have hlt' : (j : Int) < (n : Int) := by omega
      have hjl : j < q.length := by rw [H.out.2.1]; exact hlt
      have hgl := gix_in hjl
      obtain ⟨x, hx⟩ : ∃ x, q[j]? = some x := ⟨_, List.getElem?_eq_getElem hjl⟩
      obtain ⟨y, hy⟩ : ∃ y, q[gix q j]? = some y := ⟨_, List.getElem?_eq_getElem hgl⟩
      have hst := gix_step hx hy
      have hord := order_q (H.out.2.2 x (List.mem_of_getElem? hx)) (H.out.2.2 y (List.mem_of_getElem? hy))
      obtain ⟨B, rfl, hB, hc⟩ : ∃ B, p = some ⟨B, 0, none⟩ ∧ B < wr.heap.size ∧ ∀ (i : Nat) (x : Int × Int), q[i]? = some x → wr.cell? ⟨B, i * 2, none⟩ = some (.int .i64 x.1) ∧ wr.cell? ⟨B, i * 2 + 1, none⟩ = some (.int .i64 x.2) := by
        rcases H.out.1.below hb with h | h
        · rw [h] at hjl; simp at hjl
        · exact h
      obtain ⟨x1, x2⟩ := hc j x hx
      obtain ⟨y1, y2⟩ := hc _ y hy
      obtain ⟨g, hg⟩ : ∃ g, gix q j = g := ⟨_, rfl⟩
      rw [hg] at y1 y2 hst hgl ⊢
      have hgn : g < n := by rw [← H.out.2.1]; exact hgl
      have hgn' : (g : Int) < (n : Int) := by omega
      obtain ⟨xa, xb⟩ := x
      obtain ⟨ya, yb⟩ := y
      dsimp only at x1 x2 y1 y2 hord
      have c1 := fun w => Lib.hid (by have := iOrder_any xa xb ya yb w; rw [hord.2, hord.1] at this; exact this)
      obtain ⟨od, hod⟩ : ∃ o, Quo.sg (gtq (xa, xb) (ya, yb)) = o := ⟨_, rfl⟩
      have hpos : 0 < od ↔ 0 < gtq (xa, xb) (ya, yb) := by rw [← hod]; exact sg_pos
      rw [hod] at c1
      have HB := Lib.hid (And.intro hb hst)
      clear hb hx hy hst hord hc hg hod hjl hgl
      go_upto_region 5 with fail
      have hal : Below wr.heap.size wr (wr.alloc (.cells #[.int .i64 xa, .int .i64 xb] 27)) := (Below.refl _ _).alloc (Nat.le_refl _) _
      obtain ⟨V, X, hV, hX, hC, hBd, hXl⟩ := new_cell (Below.refl wr.heap.size wr) xa xb 27
      rw [← hV, ← hX]
      have z1 := cell_below_keep hBd y1
      have z2 := cell_below_keep hBd y2
      obtain ⟨k1, k2, -, -⟩ := hC
      have hXV := World.block_lt_of_cell? V _ k1
      have hBV := World.block_lt_of_cell? V _ z1
      have HV := Lib.hid (HB.out.1.trans (hBd.mono hbs))
      clear hal hV hX hBd x1 x2 y1 y2
      go_region_held3 (fun W => W.cell? ⟨X, 0, none⟩ = some (.int .i64 xa) ∧ W.cell? ⟨X, 1, none⟩ = some (.int .i64 xb) ∧ W.cell? ⟨B, g * 2, none⟩ = some (.int .i64 ya) ∧ W.cell? ⟨B, g * 2 + 1, none⟩ = some (.int .i64 yb)) (first | (go_keep; done) | ((with_reducible refine cell_below_keep (by with_reducible assumption) ?_); with_reducible assumption))
        (first | (go_at_call 18; (with_reducible refine ((c1 _).out).mono ?_); rintro e w2 ⟨rfl, hb_w2⟩; have l1 := cell_below_keep hb_w2 (cell_drew_keep k1); have l2 := cell_below_keep hb_w2 (cell_drew_keep k2); have l3 := cell_below_keep hb_w2 (cell_drew_keep z1); have l4 := cell_below_keep hb_w2 (cell_drew_keep z2)))
      have hB2 : Below w.heap.size w w2 := HV.out.trans (((below_drew (Below.refl _ _)).trans hb_w2).mono HV.out.size)
      have HB2 := Lib.hid hB2
      clear hB2 k1 k2 z1 z2 l1 l2 l3 l4 hb_w2
      by_cases ho : 0 < od
      · have HE : Hid (gix q (j + 1) = j) := Lib.hid (by rw [HB.out.2, if_pos (hpos.1 ho)])
        go_wp2_with fail
        go_roundw
        case rel => exact ⟨j + 1, by omega, by go_num, by rw [HE.out], HB2.out⟩
        case measure => simp [intOf]; omega
      · have HE : Hid (gix q (j + 1) = g) := Lib.hid (by rw [HB.out.2, if_neg (fun h => ho (hpos.2 h))])
        have ho' : ¬ (0 : Int) < od := ho
        go_wp2_with fail
        go_roundw
        case rel => exact ⟨j + 1, by omega, by go_num, by rw [HE.out], HB2.out⟩
        case measure => simp [intOf]; omega
    · have e : j = n := by omega
      subst e
      have HB := Lib.hid hb
      clear hb
      go_wp2_with fail
      refine bodyPost_ret (v := .tuple #[.int .i64 (gix q j), .bool (decide (0 < j))]) (by simp [results, Tryz.results33, go_sem]) rfl ⟨rfl, HB.out⟩
end Go.Proofs.YtenllemaccacgaaGreatDoor
