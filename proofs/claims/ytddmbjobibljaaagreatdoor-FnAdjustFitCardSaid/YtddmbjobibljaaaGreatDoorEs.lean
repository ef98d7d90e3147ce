/-
  The program's quotients of the determinants of replaced columns.
-/
import Derived.Test.YtddmbjobibljaaaGreatDoorEr
import Derived.Test.YtddmbjobibljaaaGreatDoorQh
namespace Go.Proofs.YtddmbjobibljaaaGreatDoor
open Go.RowKit
set_option linter.unusedVariables false

/-- the first quotients, and zeros behind them -/
def qP (k j : Nat) (f : Nat → Int × Int) : List Int := flq ((List.range j).map f) ++ List.replicate ((k - j) * 2) 0
theorem qP_len {k j : Nat} (f : Nat → Int × Int) (h : j ≤ k) : (qP k j f).length = k * 2 := by unfold qP; rw [List.length_append, flq_len]; simp; omega
theorem qP_zero (k : Nat) (f : Nat → Int × Int) : qP k 0 f = List.replicate (k * 2) 0 := by unfold qP; simp [flq]
theorem qP_done (k : Nat) (f : Nat → Int × Int) : qP k k f = flq ((List.range k).map f) := by unfold qP; simp
theorem qP_set {k j : Nat} (f : Nat → Int × Int) (h : j < k) : ((qP k j f).set (j * 2) (f j).1).set (j * 2 + 1) (f j).2 = qP k (j + 1) f := by
  have hl : (flq ((List.range j).map f)).length = j * 2 := by rw [flq_len]; simp
  have e : List.replicate ((k - j) * 2) (0 : Int) = 0 :: 0 :: List.replicate ((k - (j + 1)) * 2) 0 := by
    rw [show (k - j) * 2 = (k - (j + 1)) * 2 + 1 + 1 by omega]; rfl
  unfold qP
  rw [e, List.set_append_right _ _ (by omega), hl, Nat.sub_self, List.set_append_right _ _ (by omega), hl, show j * 2 + 1 - j * 2 = 1 by omega, List.range_succ, List.map_append, flq_append]
  simp [flq]
theorem made_quos (w : World) (n : Nat) (hn : n ≤ 1048576) : (Instr.makeSlice 26 (.int .i64 (n : Int)) (.int .i64 (n : Int))).run Tryz.prog w = .ok (.slice (some ⟨w.heap.size, 0, none⟩) n n) (w.alloc (.cells (madeCells (Array.replicate 2 (.int .i64 0)) (n * 2)) 36)) := by
  obtain ⟨i, hi, hzz⟩ := Option.map_eq_some_iff.1 info_quo
  simp only [Prod.mk.injEq] at hzz
  obtain ⟨hz, hs, hb⟩ := hzz
  have := run_make (P := Tryz.prog) w 26 36 i _ Tryz.underlying26 hi hz .i64 .i64 n n (by omega) (Int.le_refl _) (by rw [hb]; omega) (by omega)
  simp only [Int.toNat_natCast, hs] at this
  exact this
section
variable (k c d : Nat) (p q : Option Addr) (L : List (List Int)) (xs : List Int) (D : Int) (top : Nat → Int) (w : World)
set_option maxHeartbeats 4000000 in
set_option maxRecDepth 100000 in
theorem iQuos (a : Addr) (ha : w.cell? ⟨0, 0, none⟩ = some (.iface 146 (.pointer (some a)))) (h : GRead w p L) (hq : Ints w q xs) (hs : Sq k L) (hn : xs.length = k) (hk5 : k ≤ 5) (hr0 : In64 k (ent L)) (hD : det k (ent L) = D) (hd0 : -9223372036854775808 ≤ D ∧ D < 9223372036854775808)
    (hr : ∀ j, j < k → In64 k (upc (ent L) j (num xs))) (hT : ∀ j, j < k → det k (upc (ent L) j (num xs)) = top j) (hd : ∀ j, j < k → -9223372036854775808 ≤ top j ∧ top j < 9223372036854775808) :
    Calls Tryz.prog 24 #[.slice p k c, .slice q k d] w fun e w' => (((∀ j, j < k → Quo.rOk (top j) D = true) ∧ ∃ g, e = .returned (.tuple #[.slice (some ⟨g, 0, none⟩) k k, .nilIface]) ∧ w.heap.size ≤ g ∧ Own w' g 36 2 k k (flq ((List.range k).map (fun j => (Quo.rT (top j) D, Quo.rL (top j) D))))) ∨
      ((∃ j, j < k ∧ Quo.rOk (top j) D = false) ∧ e = .returned (.tuple #[.slice none 0 0, .iface 146 (.pointer (some a))]))) ∧ Below w.heap.size w w' := by
  have c1 := fun w h => Lib.hid (by have := iDetG k c p L w h hs hk5 hr0 (by rw [hD]; exact hd0); rw [hD] at this; exact this)
  have c2 := fun w h hq => Lib.hid (iColDets k c d p q L xs w h hq hs hn hk5 hr (fun j hj => by rw [hT j hj]; exact hd j hj))
  have hmk := fun w => made_quos w k (by omega)
  have HT : Hid (∀ j, j < k → (slL k L xs)[j]? = some (top j)) := Lib.hid (fun j hj => by
    unfold slL
    rw [List.getElem?_map, List.getElem?_range hj, ← hT j hj]; rfl)
  have H := Lib.hid (And.intro h hq)
  clear h hq hs hn hr0 hD hd0 hr hT hd
  go_enter Tryz.func24, Tryz.ntmps24
  go_upto_region 3 with (go_at_call 52; (with_reducible refine ((c1 _ ?_).out).mono ?_); (focus (exact H.out.1; done)); rintro e w1 ⟨rfl, hb_w1⟩)
  clear hmk c1
  have hs1 := hb_w1.size
  have H0 : Hid (Own (w1.alloc (.cells (madeCells (Array.replicate 2 (.int .i64 0)) (k * 2)) 36)) w1.heap.size 36 2 k k (qP k 0 (fun j => (Quo.rT (top j) D, Quo.rL (top j) D)))) := Lib.hid (by
    rw [qP_zero]
    exact Own.made w1 36 k 2 (by decide) (by unfold maxLen; omega))
  have hbA : Below w.heap.size w (w1.alloc (.cells (madeCells (Array.replicate 2 (.int .i64 0)) (k * 2)) 36)) := hb_w1.alloc hs1 _
  obtain ⟨V, hV⟩ : ∃ V, V = w1.alloc (.cells (madeCells (Array.replicate 2 (.int .i64 0)) (k * 2)) 36) := ⟨_, rfl⟩
  obtain ⟨g, hg⟩ : ∃ g, g = w1.heap.size := ⟨_, rfl⟩
  rw [← hV, ← hg] at H0
  rw [← hV] at hbA ⊢
  rw [← hg] at hs1 ⊢
  have HB := Lib.hid hbA
  have hsV := hbA.size
  clear hV hg hbA hb_w1
  go_upto_region 4 with (go_at_call 53; (with_reducible refine ((c2 _ ?_ ?_).out).mono ?_); (focus (exact H.out.1.below HB.out; done)); (focus (exact H.out.2.below HB.out; done)); rintro e w2 ⟨rfl, ho_w2, hb_w2⟩; have HC := Lib.hid (And.intro ho_w2 hb_w2); clear ho_w2 hb_w2)
  have hs2 := HC.out.2.size
  have hgV : g < V.heap.size := H0.out.lt
  have HBC := Lib.hid (HB.out.trans (HC.out.2.mono hsV))
  go_loopw [21] (fun i wr => ∃ x : Nat, x ≤ k ∧ i = .int .i64 x ∧ Own wr g 36 2 k k (qP k x (fun j => (Quo.rT (top j) D, Quo.rL (top j) D))) ∧ (∀ i, i < x → Quo.rOk (top i) D = true) ∧ Own wr V.heap.size 3 1 k k (slL k L xs) ∧ Below w.heap.size w wr) (fun i _ => k - (intOf i).toNat)
  case atStart => exact ⟨0, Nat.zero_le _, rfl, H0.out.below HC.out.2, fun i hi => by omega, HC.out.1, HBC.out⟩
  case round =>
    clear H0 HBC
    rename World => wr
    obtain ⟨x, hx, rfl, ho, hall, hoi, hBr⟩ := hrel
    have hlo := ho.lt
    have hli := hoi.lt
    have hsr := hBr.size
    by_cases hlt : x < k
    · have hlt' : (x : Int) < (k : Int) := by omega
      have e0 := hoi.cells (HT.out x hlt)
      have hpl := qP_len (fun j => (Quo.rT (top j) D, Quo.rL (top j) D)) hx
      have e1 := ho.cells (i := x * 2) (List.getElem?_eq_getElem (by omega))
      have e2 := ho.cells (i := x * 2 + 1) (List.getElem?_eq_getElem (by omega))
      have f1 := ho.frozen (x * 2)
      have f2 := ho.frozen (x * 2 + 1)
      have st := fun (W : World) (hW : Below wr.heap.size wr W) => Lib.hid (by
        have h1 := ((ho.below hW).set (x * 2) (Quo.rT (top x) D) (by omega)).set (x * 2 + 1) (Quo.rL (top x) D) (by simp; omega)
        rw [qP_set (fun j => (Quo.rT (top j) D, Quo.rL (top j) D)) hlt] at h1
        exact h1)
      have c3 := fun w => Lib.hid (iof_any (top x) D w)
      have er := cell_below_keep hBr ha
      obtain ⟨A, hA⟩ : ∃ A, Quo.rT (top x) D = A := ⟨_, rfl⟩
      obtain ⟨B, hB⟩ : ∃ B, Quo.rL (top x) D = B := ⟨_, rfl⟩
      rw [hA, hB] at st c3
      have HX := Lib.hid (And.intro hoi (And.intro hBr hall))
      cases hk : Quo.rOk (top x) D
      · rw [hk] at c3
        have HK := Lib.hid hk
        clear ho hoi hBr hall hk hA hB e1 e2 f1 f2 st
        go_upto_region 8 with ((go_at_call 39; (with_reducible refine ((c3 _).out).mono ?_); rintro e w3 ⟨rfl, hb_w3⟩; have hs_w3 := hb_w3.size; (try simp at hs_w3)))
        have hB4 : Below wr.heap.size wr (w3.alloc (.cells #[.int .i64 A, .int .i64 B] 36)) := hb_w3.alloc hs_w3 _
        have er2 := cell_below_keep hB4 er
        obtain ⟨W4, hW4⟩ : ∃ W, W = w3.alloc (.cells #[.int .i64 A, .int .i64 B] 36) := ⟨_, rfl⟩
        rw [← hW4] at hB4 er2 ⊢
        have HB4 := Lib.hid hB4
        clear hB4 hW4
        go_region
        go_wp2_with fail
        refine bodyPost_ret (v := .tuple #[.slice none 0 0, .iface 146 (.pointer (some a))]) (by simp [results, Tryz.results24, go_sem]) rfl ⟨.inr ⟨⟨x, hlt, HK.out⟩, rfl⟩, below_drew (HX.out.2.1.trans (HB4.out.mono hsr))⟩
      · rw [hk] at c3
        have HK := Lib.hid hk
        obtain ⟨y1, hy1⟩ : ∃ y, (qP k x (fun j => (Quo.rT (top j) D, Quo.rL (top j) D)))[x * 2]'(by omega) = y := ⟨_, rfl⟩
        obtain ⟨y2, hy2⟩ : ∃ y, (qP k x (fun j => (Quo.rT (top j) D, Quo.rL (top j) D)))[x * 2 + 1]'(by omega) = y := ⟨_, rfl⟩
        rw [hy1] at e1
        rw [hy2] at e2
        clear ho hoi hBr hall hk hA hB hy1 hy2
        go_upto_region 9 with ((go_at_call 39; (with_reducible refine ((c3 _).out).mono ?_); rintro e w3 ⟨rfl, hb_w3⟩; have hs_w3 := hb_w3.size; (try simp at hs_w3)))
        have hB4 : Below wr.heap.size wr (w3.alloc (.cells #[.int .i64 A, .int .i64 B] 36)) := hb_w3.alloc hs_w3 _
        have q1 : (w3.alloc (.cells #[.int .i64 A, .int .i64 B] 36)).cell? ⟨w3.heap.size, 0, none⟩ = some (.int .i64 A) := by simp [go_sem]
        have q2 : (w3.alloc (.cells #[.int .i64 A, .int .i64 B] 36)).cell? ⟨w3.heap.size, 1, none⟩ = some (.int .i64 B) := by simp [go_sem]
        obtain ⟨W4, hW4⟩ : ∃ W, W = w3.alloc (.cells #[.int .i64 A, .int .i64 B] 36) := ⟨_, rfl⟩
        rw [← hW4] at hB4 q1 q2 ⊢
        have g1 := cell_below_keep hB4 e1
        have g2 := cell_below_keep hB4 e2
        have z1 := frozen_below_keep hB4 e1 f1
        have z2 := frozen_below_keep hB4 e2 f2
        have hgr : ¬ w3.heap.size = g := by omega
        have hgr2 : ¬ g = w3.heap.size := by omega
        have ST := Lib.hid (And.intro (st W4 hB4).out hB4)
        clear hB4 hW4 st e1 e2 f1 f2 hb_w3
        go_wp2_with fail
        go_roundw
        case rel => exact ⟨x + 1, by omega, by go_num, ST.out.1, fun i hi => by
            by_cases hix : i < x
            · exact HX.out.2.2 i hix
            · obtain rfl : i = x := by omega
              exact HK.out, ((HX.out.1.below ST.out.2).setOther (a := ⟨g, x * 2, none⟩) (by show V.heap.size ≠ g; omega) _).setOther (a := ⟨g, x * 2 + 1, none⟩) (by show V.heap.size ≠ g; omega) _, ((HX.out.2.1.trans (ST.out.2.mono hsr)).setCell (p := ⟨g, x * 2, none⟩) hs1 _).setCell (p := ⟨g, x * 2 + 1, none⟩) hs1 _⟩
        case measure => simp [intOf]; omega
    · have e : x = k := by omega
      subst e
      rw [qP_done] at ho
      have HX := Lib.hid (And.intro ho (And.intro hBr hall))
      clear ho hoi hBr hall
      go_wp2_with fail
      refine bodyPost_ret (v := .tuple #[.slice (some ⟨g, 0, none⟩) x x, .nilIface]) (by simp [results, Tryz.results24, go_sem]) rfl ⟨.inl ⟨HX.out.2.2, g, rfl, hs1, HX.out.1⟩, HX.out.2.1⟩
end
end Go.Proofs.YtddmbjobibljaaaGreatDoor
