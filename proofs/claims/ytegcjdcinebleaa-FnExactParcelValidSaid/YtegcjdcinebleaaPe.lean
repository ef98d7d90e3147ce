/-
  What PointOn of the program makes of its three points: three variables that hold their coordinates, in whatever order they are made.
-/
import Derived.Test.YtegcjdcinebleaaPd
import Derived.Test.YtegcjdcinebleaaZa
import Derived.Test.YtegcjdcinebleaaTwo
import Derived.Test.YtegcjdcinebleaaPq
namespace Go.Proofs.Ytegcjdcinebleaa
open Go.RowKit
set_option linter.unusedVariables false

theorem kp {L : Array Bool} {i j : Nat} (h : (L.setIfInBounds i true).getD j true = true) (hne : i ≠ j) : L.getD j true = true := by rwa [getD_set_ne true hne] at h
theorem tf {L : Array Bool} {i : Nat} (h : L.getD i false = true) : L.getD i true = true := by
  by_cases hi : i < L.size
  · simp [hi] at h ⊢; exact h
  · simp [hi] at h
theorem Two.other {T : TypeId} {w : World} {B C i : Nat} {x y : Int} (h : Two T w B x y) (hne : B ≠ C) (v : Value) : Two T (w.setCell ⟨C, i, none⟩ v) B x y := by
  unfold Two at *
  rw [Below.heap_setCell w ⟨C, i, none⟩ v B hne]; exact h
theorem iOn_no (a b c d u v : Int) (w : World) (h : three a b c d u v = false) :
    Calls Try.prog 51 #[.agg #[.int .i64 a, .int .i64 b], .agg #[.int .i64 c, .int .i64 d], .agg #[.int .i64 u, .int .i64 v]] w fun e w' => e = .returned (.bool false) ∧ Below w.heap.size w w' := by
  go_enter Try.func51, Try.ntmps51
  go_wp2_with ((go_at_call 87; (with_reducible refine (valid3 a b c d u v false _ _ ?_ ?_ ?_ ?_ ?_ ?_ ?_ h).mono ?_); (focus ((first | (simp; omega) | omega | (simp [*, go_sem]; done) | (simp; done)); done)); (focus ((first | (simp; omega) | omega | (simp [*, go_sem]; done) | (simp; done)); done)); (focus ((first | (simp; omega) | omega | (simp [*, go_sem]; done) | (simp; done)); done)); (focus ((first | (simp; omega) | omega | (simp [*, go_sem]; done) | (simp; done)); done)); (focus ((first | (simp; omega) | omega | (simp [*, go_sem]; done) | (simp; done)); done)); (focus ((first | (simp; omega) | omega | (simp [*, go_sem]; done) | (simp; done)); done)); (focus ((first | (simp; omega) | omega | (simp [*, go_sem]; done) | (simp; done)); done)); rintro e wv ⟨rfl, hbn⟩; obtain ⟨hcn, hfn⟩ := bcell hbn; (try simp only [World.size_drew, World.cell?_drew, World.frozen?_drew, World.heap_drewN, World.cell?_drewN, World.frozen?_drewN] at hcn hfn); have hsz := hbn.size; (try simp at hsz); (try have hsl := Nat.lt_of_succ_le hsz); (try have hz0 : w.heap.size < wv.heap.size := (by have := hbn.size; (try simp at this); omega)); (try have hz1 : w.heap.size + 1 < wv.heap.size := (by have := hbn.size; (try simp at this); omega)); (try have hz2 : w.heap.size + 1 + 1 < wv.heap.size := (by have := hbn.size; (try simp at this); omega)); (try have hz3 : w.heap.size + 1 + 1 + 1 < wv.heap.size := (by have := hbn.size; (try simp at this); omega))))
  go_ret
  exact ⟨rfl, (by repeat (first | assumption | exact Below.refl _ _ | (refine below_chain ?_ (by assumption) (by first | omega | (simp <;> omega) | simp)) | (refine Below.alloc ?_ (by first | omega | (simp <;> omega) | simp) _) | (apply below_drewN) | (apply below_drew) | (refine Below.setCell ?_ (by first | omega | (simp <;> omega) | simp) _)))⟩

def Three (wx : World) (base : Nat) (s7 s8 s9 : Value) (a b c d u v : Int) : Prop :=
  ∃ A B C : Nat, s7 = .pointer (some ⟨A, 0, none⟩) ∧ s8 = .pointer (some ⟨B, 0, none⟩) ∧ s9 = .pointer (some ⟨C, 0, none⟩) ∧ Two 84 wx A a b ∧ Two 84 wx B c d ∧ Two 84 wx C u v
set_option maxRecDepth 100000 in
set_option maxHeartbeats 2000000 in
theorem iOn_yes (a b c d u v : Int) (s : Bool) (w : World) (h : three a b c d u v = true) (hs : Pt.onB a b c d u v = s) :
    Calls Try.prog 51 #[.agg #[.int .i64 a, .int .i64 b], .agg #[.int .i64 c, .int .i64 d], .agg #[.int .i64 u, .int .i64 v]] w fun e w' => e = .returned (.bool s) ∧ Below w.heap.size w w' := by
  have cv := fun B w hB a0 a1 a2 a3 a4 a5 => Lib.hid (valid3 a b c d u v true B w hB a0 a1 a2 a3 a4 a5 h)
  go_enter Try.func51, Try.ntmps51
  go_wp2_with ((go_at_call 87; (with_reducible refine ((cv _ _ ?_ ?_ ?_ ?_ ?_ ?_ ?_).out).mono ?_); (focus ((first | (simp; omega) | omega | (simp [*, go_sem]; done) | (simp; done)); done)); (focus ((first | (simp; omega) | omega | (simp [*, go_sem]; done) | (simp; done)); done)); (focus ((first | (simp; omega) | omega | (simp [*, go_sem]; done) | (simp; done)); done)); (focus ((first | (simp; omega) | omega | (simp [*, go_sem]; done) | (simp; done)); done)); (focus ((first | (simp; omega) | omega | (simp [*, go_sem]; done) | (simp; done)); done)); (focus ((first | (simp; omega) | omega | (simp [*, go_sem]; done) | (simp; done)); done)); (focus ((first | (simp; omega) | omega | (simp [*, go_sem]; done) | (simp; done)); done)); rintro e wv ⟨rfl, hbn⟩; obtain ⟨hcn, hfn⟩ := bcell hbn; (try simp only [World.size_drew, World.cell?_drew, World.frozen?_drew, World.heap_drewN, World.cell?_drewN, World.frozen?_drewN] at hcn hfn); have hsz := hbn.size; (try simp at hsz); (try have hsl := Nat.lt_of_succ_le hsz); (try have hz0 : w.heap.size < wv.heap.size := (by have := hbn.size; (try simp at this); omega)); (try have hz1 : w.heap.size + 1 < wv.heap.size := (by have := hbn.size; (try simp at this); omega)); (try have hz2 : w.heap.size + 1 + 1 < wv.heap.size := (by have := hbn.size; (try simp at this); omega)); (try have hz3 : w.heap.size + 1 + 1 + 1 < wv.heap.size := (by have := hbn.size; (try simp at this); omega))))
  clear cv
  have hBv : Below w.heap.size w wv := (by repeat (first | assumption | exact Below.refl _ _ | (refine below_chain ?_ (by assumption) (by first | omega | (simp <;> omega) | simp)) | (refine Below.alloc ?_ (by first | omega | (simp <;> omega) | simp) _) | (apply below_drewN) | (apply below_drew) | (refine Below.setCell ?_ (by first | omega | (simp <;> omega) | simp) _)))
  have q0 : wv.cell? ⟨w.heap.size, 0, none⟩ = some (.int .i64 a) := by simp [*, go_sem]
  have q1 : wv.cell? ⟨w.heap.size, 1, none⟩ = some (.int .i64 b) := by simp [*, go_sem]
  have q2 : wv.cell? ⟨w.heap.size + 1, 0, none⟩ = some (.int .i64 c) := by simp [*, go_sem]
  have q3 : wv.cell? ⟨w.heap.size + 1, 1, none⟩ = some (.int .i64 d) := by simp [*, go_sem]
  have q4 : wv.cell? ⟨w.heap.size + 1 + 1, 0, none⟩ = some (.int .i64 u) := by simp [*, go_sem]
  have q5 : wv.cell? ⟨w.heap.size + 1 + 1, 1, none⟩ = some (.int .i64 v) := by simp [*, go_sem]
  have y0 : w.heap.size < wv.heap.size := by assumption
  have y1 : w.heap.size + 1 < wv.heap.size := by assumption
  have y2 : w.heap.size + 1 + 1 < wv.heap.size := by assumption
  go_upto_region 4 with fail
  go_cut [6, 7, 8, 9] (fun s6 s7 s8 s9 wx => s6 = .bool false ∧ Three wx wv.heap.size s7 s8 s9 a b c d u v ∧ Below w.heap.size w wx)
  case first =>
    clear hcn hfn hbn
    refine wp_region_inv (by kernel_rfl) (by kernel_rfl) (fun L fr wx => ∃ (u18 u19 u20 u21 u22 u23 p7 p8 p9 : Value) (b7 b8 b9 : Nat), fr = ⟨#[.agg #[.int .i64 a, .int .i64 b], .agg #[.int .i64 c, .int .i64 d], .agg #[.int .i64 u, .int .i64 v], .pointer (some ⟨w.heap.size, 0, none⟩), .pointer (some ⟨w.heap.size + 1, 0, none⟩), .pointer (some ⟨w.heap.size + 1 + 1, 0, none⟩), .bool false, p7, p8, p9, undef, undef, .agg #[.int .i64 a, .int .i64 b], .agg #[.int .i64 c, .int .i64 d], .agg #[.int .i64 u, .int .i64 v], .slice (some ⟨w.heap.size + 1 + 1 + 1, 0, none⟩) 3 3, .bool true, .bool false, u18, u19, u20, u21, u22, u23, undef, undef, undef, undef, undef, undef, undef, undef, undef, undef, undef, undef, undef, undef, undef, undef, undef, undef, undef, undef, undef, undef, undef, undef], []⟩ ∧ Below wv.heap.size wv wx ∧ (L.getD 0 true = true → u18 = .agg #[.int .i64 a, .int .i64 b]) ∧ (L.getD 1 true = true → u19 = .agg #[.int .i64 a, .int .i64 b]) ∧ (L.getD 2 true = true → u20 = .agg #[.int .i64 c, .int .i64 d]) ∧ (L.getD 3 true = true → u21 = .agg #[.int .i64 c, .int .i64 d]) ∧ (L.getD 4 true = true → u22 = .agg #[.int .i64 u, .int .i64 v]) ∧ (L.getD 5 true = true → u23 = .agg #[.int .i64 u, .int .i64 v]) ∧ (L.getD 6 true = true → p7 = .pointer (some ⟨b7, 0, none⟩) ∧ wv.heap.size ≤ b7 ∧ ∃ x y : Int, Two 84 wx b7 x y ∧ (L.getD 9 true = true → x = a ∧ y = b)) ∧ (L.getD 9 true = true → L.getD 6 true = true) ∧ (L.getD 7 true = true → p8 = .pointer (some ⟨b8, 0, none⟩) ∧ wv.heap.size ≤ b8 ∧ ∃ x y : Int, Two 84 wx b8 x y ∧ (L.getD 10 true = true → x = c ∧ y = d)) ∧ (L.getD 10 true = true → L.getD 7 true = true) ∧ (L.getD 8 true = true → p9 = .pointer (some ⟨b9, 0, none⟩) ∧ wv.heap.size ≤ b9 ∧ ∃ x y : Int, Two 84 wx b9 x y ∧ (L.getD 11 true = true → x = u ∧ y = v)) ∧ (L.getD 11 true = true → L.getD 8 true = true) ∧ (L.getD 6 true = true → L.getD 7 true = true → b7 ≠ b8) ∧ (L.getD 6 true = true → L.getD 8 true = true → b7 ≠ b9) ∧ (L.getD 7 true = true → L.getD 8 true = true → b8 ≠ b9)) ?_ ?_ ?_
    · refine ⟨undef, undef, undef, undef, undef, undef, undef, undef, undef, 0, 0, 0, rfl, below_drew (Below.refl _ _), ?_⟩
      refine ⟨?_, ?_, ?_, ?_, ?_, ?_, ?_, ?_, ?_, ?_, ?_, ?_, ?_, ?_, ?_⟩ <;> (intro h; first | (exact absurd h (by decide)) | (intro h'; exact absurd h (by decide)))
    · intro L a' wx i o hI ho hun hdep
      obtain ⟨u18, u19, u20, u21, u22, u23, p7, p8, p9, b7, b8, b9, rfl, hB, h0, h1, h2, h3, h4, h5, g6, c9, g7, c10, g8, c11, d78, d79, d89⟩ := hI
      obtain ⟨hcx, hfx⟩ := bcell hB
      have hi : i < 12 := (Array.getElem?_eq_some_iff.1 ho).1
      have hi' : i = 0 ∨ i = 1 ∨ i = 2 ∨ i = 3 ∨ i = 4 ∨ i = 5 ∨ i = 6 ∨ i = 7 ∨ i = 8 ∨ i = 9 ∨ i = 10 ∨ i = 11 := by omega
      clear hi
      rcases hi' with rfl | rfl | rfl | rfl | rfl | rfl | rfl | rfl | rfl | rfl | rfl | rfl
      · -- operation 0
        obtain rfl := Option.some.inj ho
        refine wpOp_step rfl (fun K hK => ?_)
        go_simp
        refine hK _ _ ?_
        exact ⟨_, u19, u20, u21, u22, u23, p7, p8, p9, b7, b8, b9, rfl, hB, (fun _ => rfl), (fun h => h1 (kp h (by decide : (0 : Nat) ≠ 1))), (fun h => h2 (kp h (by decide : (0 : Nat) ≠ 2))), (fun h => h3 (kp h (by decide : (0 : Nat) ≠ 3))), (fun h => h4 (kp h (by decide : (0 : Nat) ≠ 4))), (fun h => h5 (kp h (by decide : (0 : Nat) ≠ 5))), (fun h => let ⟨e1, e2, x, y, t, f⟩ := g6 (kp h (by decide : (0 : Nat) ≠ 6)); ⟨e1, e2, x, y, t, fun h' => f (kp h' (by decide : (0 : Nat) ≠ 9))⟩), (fun h => by rw [getD_set_ne true (by decide)]; exact c9 (kp h (by decide : (0 : Nat) ≠ 9))), (fun h => let ⟨e1, e2, x, y, t, f⟩ := g7 (kp h (by decide : (0 : Nat) ≠ 7)); ⟨e1, e2, x, y, t, fun h' => f (kp h' (by decide : (0 : Nat) ≠ 10))⟩), (fun h => by rw [getD_set_ne true (by decide)]; exact c10 (kp h (by decide : (0 : Nat) ≠ 10))), (fun h => let ⟨e1, e2, x, y, t, f⟩ := g8 (kp h (by decide : (0 : Nat) ≠ 8)); ⟨e1, e2, x, y, t, fun h' => f (kp h' (by decide : (0 : Nat) ≠ 11))⟩), (fun h => by rw [getD_set_ne true (by decide)]; exact c11 (kp h (by decide : (0 : Nat) ≠ 11))), (fun h h' => d78 (kp h (by decide : (0 : Nat) ≠ 6)) (kp h' (by decide : (0 : Nat) ≠ 7))), (fun h h' => d79 (kp h (by decide : (0 : Nat) ≠ 6)) (kp h' (by decide : (0 : Nat) ≠ 8))), (fun h h' => d89 (kp h (by decide : (0 : Nat) ≠ 7)) (kp h' (by decide : (0 : Nat) ≠ 8)))⟩
      · -- operation 1
        obtain rfl := Option.some.inj ho
        have D0 := tf (hdep ⟨0, .data⟩ (by simp) rfl)
        obtain rfl := h0 D0
        refine wpOp_step rfl (fun K hK => ?_)
        go_simp
        refine (placeOf_any a b _).mono ?_
        rintro e wn ⟨rfl, hbn⟩
        dsimp only
        refine hK _ _ ?_
        exact ⟨_, _, u20, u21, u22, u23, p7, p8, p9, b7, b8, b9, rfl, below_chain hB hbn hB.size, (fun _ => rfl), (fun _ => rfl), (fun h => h2 (kp h (by decide : (1 : Nat) ≠ 2))), (fun h => h3 (kp h (by decide : (1 : Nat) ≠ 3))), (fun h => h4 (kp h (by decide : (1 : Nat) ≠ 4))), (fun h => h5 (kp h (by decide : (1 : Nat) ≠ 5))), (fun h => let ⟨e1, e2, x, y, t, f⟩ := g6 (kp h (by decide : (1 : Nat) ≠ 6)); ⟨e1, e2, x, y, t.below hbn, fun h' => f (kp h' (by decide : (1 : Nat) ≠ 9))⟩), (fun h => by rw [getD_set_ne true (by decide)]; exact c9 (kp h (by decide : (1 : Nat) ≠ 9))), (fun h => let ⟨e1, e2, x, y, t, f⟩ := g7 (kp h (by decide : (1 : Nat) ≠ 7)); ⟨e1, e2, x, y, t.below hbn, fun h' => f (kp h' (by decide : (1 : Nat) ≠ 10))⟩), (fun h => by rw [getD_set_ne true (by decide)]; exact c10 (kp h (by decide : (1 : Nat) ≠ 10))), (fun h => let ⟨e1, e2, x, y, t, f⟩ := g8 (kp h (by decide : (1 : Nat) ≠ 8)); ⟨e1, e2, x, y, t.below hbn, fun h' => f (kp h' (by decide : (1 : Nat) ≠ 11))⟩), (fun h => by rw [getD_set_ne true (by decide)]; exact c11 (kp h (by decide : (1 : Nat) ≠ 11))), (fun h h' => d78 (kp h (by decide : (1 : Nat) ≠ 6)) (kp h' (by decide : (1 : Nat) ≠ 7))), (fun h h' => d79 (kp h (by decide : (1 : Nat) ≠ 6)) (kp h' (by decide : (1 : Nat) ≠ 8))), (fun h h' => d89 (kp h (by decide : (1 : Nat) ≠ 7)) (kp h' (by decide : (1 : Nat) ≠ 8)))⟩
      · -- operation 2
        obtain rfl := Option.some.inj ho
        refine wpOp_step rfl (fun K hK => ?_)
        go_simp
        refine hK _ _ ?_
        exact ⟨u18, u19, _, u21, u22, u23, p7, p8, p9, b7, b8, b9, rfl, hB, (fun h => h0 (kp h (by decide : (2 : Nat) ≠ 0))), (fun h => h1 (kp h (by decide : (2 : Nat) ≠ 1))), (fun _ => rfl), (fun h => h3 (kp h (by decide : (2 : Nat) ≠ 3))), (fun h => h4 (kp h (by decide : (2 : Nat) ≠ 4))), (fun h => h5 (kp h (by decide : (2 : Nat) ≠ 5))), (fun h => let ⟨e1, e2, x, y, t, f⟩ := g6 (kp h (by decide : (2 : Nat) ≠ 6)); ⟨e1, e2, x, y, t, fun h' => f (kp h' (by decide : (2 : Nat) ≠ 9))⟩), (fun h => by rw [getD_set_ne true (by decide)]; exact c9 (kp h (by decide : (2 : Nat) ≠ 9))), (fun h => let ⟨e1, e2, x, y, t, f⟩ := g7 (kp h (by decide : (2 : Nat) ≠ 7)); ⟨e1, e2, x, y, t, fun h' => f (kp h' (by decide : (2 : Nat) ≠ 10))⟩), (fun h => by rw [getD_set_ne true (by decide)]; exact c10 (kp h (by decide : (2 : Nat) ≠ 10))), (fun h => let ⟨e1, e2, x, y, t, f⟩ := g8 (kp h (by decide : (2 : Nat) ≠ 8)); ⟨e1, e2, x, y, t, fun h' => f (kp h' (by decide : (2 : Nat) ≠ 11))⟩), (fun h => by rw [getD_set_ne true (by decide)]; exact c11 (kp h (by decide : (2 : Nat) ≠ 11))), (fun h h' => d78 (kp h (by decide : (2 : Nat) ≠ 6)) (kp h' (by decide : (2 : Nat) ≠ 7))), (fun h h' => d79 (kp h (by decide : (2 : Nat) ≠ 6)) (kp h' (by decide : (2 : Nat) ≠ 8))), (fun h h' => d89 (kp h (by decide : (2 : Nat) ≠ 7)) (kp h' (by decide : (2 : Nat) ≠ 8)))⟩
      · -- operation 3
        obtain rfl := Option.some.inj ho
        have D2 := tf (hdep ⟨2, .data⟩ (by simp) rfl)
        obtain rfl := h2 D2
        refine wpOp_step rfl (fun K hK => ?_)
        go_simp
        refine (placeOf_any c d _).mono ?_
        rintro e wn ⟨rfl, hbn⟩
        dsimp only
        refine hK _ _ ?_
        exact ⟨u18, u19, _, _, u22, u23, p7, p8, p9, b7, b8, b9, rfl, below_chain hB hbn hB.size, (fun h => h0 (kp h (by decide : (3 : Nat) ≠ 0))), (fun h => h1 (kp h (by decide : (3 : Nat) ≠ 1))), (fun _ => rfl), (fun _ => rfl), (fun h => h4 (kp h (by decide : (3 : Nat) ≠ 4))), (fun h => h5 (kp h (by decide : (3 : Nat) ≠ 5))), (fun h => let ⟨e1, e2, x, y, t, f⟩ := g6 (kp h (by decide : (3 : Nat) ≠ 6)); ⟨e1, e2, x, y, t.below hbn, fun h' => f (kp h' (by decide : (3 : Nat) ≠ 9))⟩), (fun h => by rw [getD_set_ne true (by decide)]; exact c9 (kp h (by decide : (3 : Nat) ≠ 9))), (fun h => let ⟨e1, e2, x, y, t, f⟩ := g7 (kp h (by decide : (3 : Nat) ≠ 7)); ⟨e1, e2, x, y, t.below hbn, fun h' => f (kp h' (by decide : (3 : Nat) ≠ 10))⟩), (fun h => by rw [getD_set_ne true (by decide)]; exact c10 (kp h (by decide : (3 : Nat) ≠ 10))), (fun h => let ⟨e1, e2, x, y, t, f⟩ := g8 (kp h (by decide : (3 : Nat) ≠ 8)); ⟨e1, e2, x, y, t.below hbn, fun h' => f (kp h' (by decide : (3 : Nat) ≠ 11))⟩), (fun h => by rw [getD_set_ne true (by decide)]; exact c11 (kp h (by decide : (3 : Nat) ≠ 11))), (fun h h' => d78 (kp h (by decide : (3 : Nat) ≠ 6)) (kp h' (by decide : (3 : Nat) ≠ 7))), (fun h h' => d79 (kp h (by decide : (3 : Nat) ≠ 6)) (kp h' (by decide : (3 : Nat) ≠ 8))), (fun h h' => d89 (kp h (by decide : (3 : Nat) ≠ 7)) (kp h' (by decide : (3 : Nat) ≠ 8)))⟩
      · -- operation 4
        obtain rfl := Option.some.inj ho
        refine wpOp_step rfl (fun K hK => ?_)
        go_simp
        refine hK _ _ ?_
        exact ⟨u18, u19, u20, u21, _, u23, p7, p8, p9, b7, b8, b9, rfl, hB, (fun h => h0 (kp h (by decide : (4 : Nat) ≠ 0))), (fun h => h1 (kp h (by decide : (4 : Nat) ≠ 1))), (fun h => h2 (kp h (by decide : (4 : Nat) ≠ 2))), (fun h => h3 (kp h (by decide : (4 : Nat) ≠ 3))), (fun _ => rfl), (fun h => h5 (kp h (by decide : (4 : Nat) ≠ 5))), (fun h => let ⟨e1, e2, x, y, t, f⟩ := g6 (kp h (by decide : (4 : Nat) ≠ 6)); ⟨e1, e2, x, y, t, fun h' => f (kp h' (by decide : (4 : Nat) ≠ 9))⟩), (fun h => by rw [getD_set_ne true (by decide)]; exact c9 (kp h (by decide : (4 : Nat) ≠ 9))), (fun h => let ⟨e1, e2, x, y, t, f⟩ := g7 (kp h (by decide : (4 : Nat) ≠ 7)); ⟨e1, e2, x, y, t, fun h' => f (kp h' (by decide : (4 : Nat) ≠ 10))⟩), (fun h => by rw [getD_set_ne true (by decide)]; exact c10 (kp h (by decide : (4 : Nat) ≠ 10))), (fun h => let ⟨e1, e2, x, y, t, f⟩ := g8 (kp h (by decide : (4 : Nat) ≠ 8)); ⟨e1, e2, x, y, t, fun h' => f (kp h' (by decide : (4 : Nat) ≠ 11))⟩), (fun h => by rw [getD_set_ne true (by decide)]; exact c11 (kp h (by decide : (4 : Nat) ≠ 11))), (fun h h' => d78 (kp h (by decide : (4 : Nat) ≠ 6)) (kp h' (by decide : (4 : Nat) ≠ 7))), (fun h h' => d79 (kp h (by decide : (4 : Nat) ≠ 6)) (kp h' (by decide : (4 : Nat) ≠ 8))), (fun h h' => d89 (kp h (by decide : (4 : Nat) ≠ 7)) (kp h' (by decide : (4 : Nat) ≠ 8)))⟩
      · -- operation 5
        obtain rfl := Option.some.inj ho
        have D4 := tf (hdep ⟨4, .data⟩ (by simp) rfl)
        obtain rfl := h4 D4
        refine wpOp_step rfl (fun K hK => ?_)
        go_simp
        refine (placeOf_any u v _).mono ?_
        rintro e wn ⟨rfl, hbn⟩
        dsimp only
        refine hK _ _ ?_
        exact ⟨u18, u19, u20, u21, _, _, p7, p8, p9, b7, b8, b9, rfl, below_chain hB hbn hB.size, (fun h => h0 (kp h (by decide : (5 : Nat) ≠ 0))), (fun h => h1 (kp h (by decide : (5 : Nat) ≠ 1))), (fun h => h2 (kp h (by decide : (5 : Nat) ≠ 2))), (fun h => h3 (kp h (by decide : (5 : Nat) ≠ 3))), (fun _ => rfl), (fun _ => rfl), (fun h => let ⟨e1, e2, x, y, t, f⟩ := g6 (kp h (by decide : (5 : Nat) ≠ 6)); ⟨e1, e2, x, y, t.below hbn, fun h' => f (kp h' (by decide : (5 : Nat) ≠ 9))⟩), (fun h => by rw [getD_set_ne true (by decide)]; exact c9 (kp h (by decide : (5 : Nat) ≠ 9))), (fun h => let ⟨e1, e2, x, y, t, f⟩ := g7 (kp h (by decide : (5 : Nat) ≠ 7)); ⟨e1, e2, x, y, t.below hbn, fun h' => f (kp h' (by decide : (5 : Nat) ≠ 10))⟩), (fun h => by rw [getD_set_ne true (by decide)]; exact c10 (kp h (by decide : (5 : Nat) ≠ 10))), (fun h => let ⟨e1, e2, x, y, t, f⟩ := g8 (kp h (by decide : (5 : Nat) ≠ 8)); ⟨e1, e2, x, y, t.below hbn, fun h' => f (kp h' (by decide : (5 : Nat) ≠ 11))⟩), (fun h => by rw [getD_set_ne true (by decide)]; exact c11 (kp h (by decide : (5 : Nat) ≠ 11))), (fun h h' => d78 (kp h (by decide : (5 : Nat) ≠ 6)) (kp h' (by decide : (5 : Nat) ≠ 7))), (fun h h' => d79 (kp h (by decide : (5 : Nat) ≠ 6)) (kp h' (by decide : (5 : Nat) ≠ 8))), (fun h h' => d89 (kp h (by decide : (5 : Nat) ≠ 7)) (kp h' (by decide : (5 : Nat) ≠ 8)))⟩
      · -- operation 6
        obtain rfl := Option.some.inj ho
        refine wpOp_step rfl (fun K hK => ?_)
        go_simp
        refine hK _ _ ?_
        exact ⟨u18, u19, u20, u21, u22, u23, _, p8, p9, _, b8, b9, rfl, hB.alloc hB.size _, (fun h => h0 (kp h (by decide : (6 : Nat) ≠ 0))), (fun h => h1 (kp h (by decide : (6 : Nat) ≠ 1))), (fun h => h2 (kp h (by decide : (6 : Nat) ≠ 2))), (fun h => h3 (kp h (by decide : (6 : Nat) ≠ 3))), (fun h => h4 (kp h (by decide : (6 : Nat) ≠ 4))), (fun h => h5 (kp h (by decide : (6 : Nat) ≠ 5))), (fun _ => ⟨rfl, hB.size, 0, 0, Two.new _ _ _, fun h => absurd (c9 (kp h (by decide : (6 : Nat) ≠ 9))) (by rw [hun]; decide)⟩), (fun _ => getD_set_self _ _), (fun h => let ⟨e1, e2, x, y, t, f⟩ := g7 (kp h (by decide : (6 : Nat) ≠ 7)); ⟨e1, e2, x, y, t.below ((Below.refl _ _).alloc (Nat.le_refl _) _), fun h' => f (kp h' (by decide : (6 : Nat) ≠ 10))⟩), (fun h => by rw [getD_set_ne true (by decide)]; exact c10 (kp h (by decide : (6 : Nat) ≠ 10))), (fun h => let ⟨e1, e2, x, y, t, f⟩ := g8 (kp h (by decide : (6 : Nat) ≠ 8)); ⟨e1, e2, x, y, t.below ((Below.refl _ _).alloc (Nat.le_refl _) _), fun h' => f (kp h' (by decide : (6 : Nat) ≠ 11))⟩), (fun h => by rw [getD_set_ne true (by decide)]; exact c11 (kp h (by decide : (6 : Nat) ≠ 11))), (fun _ h => by obtain ⟨_, _, x, y, t, _⟩ := g7 (kp h (by decide : (6 : Nat) ≠ 7)); have := t.lt; omega), (fun _ h => by obtain ⟨_, _, x, y, t, _⟩ := g8 (kp h (by decide : (6 : Nat) ≠ 8)); have := t.lt; omega), (fun h h' => d89 (kp h (by decide : (6 : Nat) ≠ 7)) (kp h' (by decide : (6 : Nat) ≠ 8)))⟩
      · -- operation 7
        obtain rfl := Option.some.inj ho
        refine wpOp_step rfl (fun K hK => ?_)
        go_simp
        refine hK _ _ ?_
        exact ⟨u18, u19, u20, u21, u22, u23, p7, _, p9, b7, _, b9, rfl, hB.alloc hB.size _, (fun h => h0 (kp h (by decide : (7 : Nat) ≠ 0))), (fun h => h1 (kp h (by decide : (7 : Nat) ≠ 1))), (fun h => h2 (kp h (by decide : (7 : Nat) ≠ 2))), (fun h => h3 (kp h (by decide : (7 : Nat) ≠ 3))), (fun h => h4 (kp h (by decide : (7 : Nat) ≠ 4))), (fun h => h5 (kp h (by decide : (7 : Nat) ≠ 5))), (fun h => let ⟨e1, e2, x, y, t, f⟩ := g6 (kp h (by decide : (7 : Nat) ≠ 6)); ⟨e1, e2, x, y, t.below ((Below.refl _ _).alloc (Nat.le_refl _) _), fun h' => f (kp h' (by decide : (7 : Nat) ≠ 9))⟩), (fun h => by rw [getD_set_ne true (by decide)]; exact c9 (kp h (by decide : (7 : Nat) ≠ 9))), (fun _ => ⟨rfl, hB.size, 0, 0, Two.new _ _ _, fun h => absurd (c10 (kp h (by decide : (7 : Nat) ≠ 10))) (by rw [hun]; decide)⟩), (fun _ => getD_set_self _ _), (fun h => let ⟨e1, e2, x, y, t, f⟩ := g8 (kp h (by decide : (7 : Nat) ≠ 8)); ⟨e1, e2, x, y, t.below ((Below.refl _ _).alloc (Nat.le_refl _) _), fun h' => f (kp h' (by decide : (7 : Nat) ≠ 11))⟩), (fun h => by rw [getD_set_ne true (by decide)]; exact c11 (kp h (by decide : (7 : Nat) ≠ 11))), (fun h _ => by obtain ⟨_, _, x, y, t, _⟩ := g6 (kp h (by decide : (7 : Nat) ≠ 6)); have := t.lt; omega), (fun h h' => d79 (kp h (by decide : (7 : Nat) ≠ 6)) (kp h' (by decide : (7 : Nat) ≠ 8))), (fun _ h => by obtain ⟨_, _, x, y, t, _⟩ := g8 (kp h (by decide : (7 : Nat) ≠ 8)); have := t.lt; omega)⟩
      · -- operation 8
        obtain rfl := Option.some.inj ho
        refine wpOp_step rfl (fun K hK => ?_)
        go_simp
        refine hK _ _ ?_
        exact ⟨u18, u19, u20, u21, u22, u23, p7, p8, _, b7, b8, _, rfl, hB.alloc hB.size _, (fun h => h0 (kp h (by decide : (8 : Nat) ≠ 0))), (fun h => h1 (kp h (by decide : (8 : Nat) ≠ 1))), (fun h => h2 (kp h (by decide : (8 : Nat) ≠ 2))), (fun h => h3 (kp h (by decide : (8 : Nat) ≠ 3))), (fun h => h4 (kp h (by decide : (8 : Nat) ≠ 4))), (fun h => h5 (kp h (by decide : (8 : Nat) ≠ 5))), (fun h => let ⟨e1, e2, x, y, t, f⟩ := g6 (kp h (by decide : (8 : Nat) ≠ 6)); ⟨e1, e2, x, y, t.below ((Below.refl _ _).alloc (Nat.le_refl _) _), fun h' => f (kp h' (by decide : (8 : Nat) ≠ 9))⟩), (fun h => by rw [getD_set_ne true (by decide)]; exact c9 (kp h (by decide : (8 : Nat) ≠ 9))), (fun h => let ⟨e1, e2, x, y, t, f⟩ := g7 (kp h (by decide : (8 : Nat) ≠ 7)); ⟨e1, e2, x, y, t.below ((Below.refl _ _).alloc (Nat.le_refl _) _), fun h' => f (kp h' (by decide : (8 : Nat) ≠ 10))⟩), (fun h => by rw [getD_set_ne true (by decide)]; exact c10 (kp h (by decide : (8 : Nat) ≠ 10))), (fun _ => ⟨rfl, hB.size, 0, 0, Two.new _ _ _, fun h => absurd (c11 (kp h (by decide : (8 : Nat) ≠ 11))) (by rw [hun]; decide)⟩), (fun _ => getD_set_self _ _), (fun h h' => d78 (kp h (by decide : (8 : Nat) ≠ 6)) (kp h' (by decide : (8 : Nat) ≠ 7))), (fun h _ => by obtain ⟨_, _, x, y, t, _⟩ := g6 (kp h (by decide : (8 : Nat) ≠ 6)); have := t.lt; omega), (fun h _ => by obtain ⟨_, _, x, y, t, _⟩ := g7 (kp h (by decide : (8 : Nat) ≠ 7)); have := t.lt; omega)⟩
      · -- operation 9
        obtain rfl := Option.some.inj ho
        have D6 := tf (hdep ⟨6, .data⟩ (by simp) rfl)
        have D1 := tf (hdep ⟨1, .data⟩ (by simp) rfl)
        obtain ⟨rfl, e2, x, y, t, f⟩ := g6 D6
        obtain rfl := h1 D1
        have t0 := t.c0
        have t1 := t.c1
        have t2 := t.f0
        have t3 := t.f1
        refine wpOp_step rfl (fun K hK => ?_)
        go_simp
        refine hK _ _ ?_
        exact ⟨u18, _, u20, u21, u22, u23, _, p8, p9, b7, b8, b9, rfl, (hB.setCell (p := ⟨b7, 0, none⟩) e2 _).setCell (p := ⟨b7, 1, none⟩) e2 _, (fun h => h0 (kp h (by decide : (9 : Nat) ≠ 0))), (fun _ => rfl), (fun h => h2 (kp h (by decide : (9 : Nat) ≠ 2))), (fun h => h3 (kp h (by decide : (9 : Nat) ≠ 3))), (fun h => h4 (kp h (by decide : (9 : Nat) ≠ 4))), (fun h => h5 (kp h (by decide : (9 : Nat) ≠ 5))), (fun _ => ⟨rfl, e2, _, _, t.set _ _, fun _ => ⟨rfl, rfl⟩⟩), (fun _ => by rw [getD_set_ne true (by decide)]; exact D6), (fun h => let ⟨e1, e2', x', y', t', f'⟩ := g7 (kp h (by decide : (9 : Nat) ≠ 7)); ⟨e1, e2', x', y', (t'.other (Ne.symm (d78 D6 (kp h (by decide : (9 : Nat) ≠ 7)))) _).other (Ne.symm (d78 D6 (kp h (by decide : (9 : Nat) ≠ 7)))) _, fun h' => f' (kp h' (by decide : (9 : Nat) ≠ 10))⟩), (fun h => by rw [getD_set_ne true (by decide)]; exact c10 (kp h (by decide : (9 : Nat) ≠ 10))), (fun h => let ⟨e1, e2', x', y', t', f'⟩ := g8 (kp h (by decide : (9 : Nat) ≠ 8)); ⟨e1, e2', x', y', (t'.other (Ne.symm (d79 D6 (kp h (by decide : (9 : Nat) ≠ 8)))) _).other (Ne.symm (d79 D6 (kp h (by decide : (9 : Nat) ≠ 8)))) _, fun h' => f' (kp h' (by decide : (9 : Nat) ≠ 11))⟩), (fun h => by rw [getD_set_ne true (by decide)]; exact c11 (kp h (by decide : (9 : Nat) ≠ 11))), (fun h h' => d78 (kp h (by decide : (9 : Nat) ≠ 6)) (kp h' (by decide : (9 : Nat) ≠ 7))), (fun h h' => d79 (kp h (by decide : (9 : Nat) ≠ 6)) (kp h' (by decide : (9 : Nat) ≠ 8))), (fun h h' => d89 (kp h (by decide : (9 : Nat) ≠ 7)) (kp h' (by decide : (9 : Nat) ≠ 8)))⟩
      · -- operation 10
        obtain rfl := Option.some.inj ho
        have D7 := tf (hdep ⟨7, .data⟩ (by simp) rfl)
        have D3 := tf (hdep ⟨3, .data⟩ (by simp) rfl)
        obtain ⟨rfl, e2, x, y, t, f⟩ := g7 D7
        obtain rfl := h3 D3
        have t0 := t.c0
        have t1 := t.c1
        have t2 := t.f0
        have t3 := t.f1
        refine wpOp_step rfl (fun K hK => ?_)
        go_simp
        refine hK _ _ ?_
        exact ⟨u18, u19, u20, _, u22, u23, p7, _, p9, b7, b8, b9, rfl, (hB.setCell (p := ⟨b8, 0, none⟩) e2 _).setCell (p := ⟨b8, 1, none⟩) e2 _, (fun h => h0 (kp h (by decide : (10 : Nat) ≠ 0))), (fun h => h1 (kp h (by decide : (10 : Nat) ≠ 1))), (fun h => h2 (kp h (by decide : (10 : Nat) ≠ 2))), (fun _ => rfl), (fun h => h4 (kp h (by decide : (10 : Nat) ≠ 4))), (fun h => h5 (kp h (by decide : (10 : Nat) ≠ 5))), (fun h => let ⟨e1, e2', x', y', t', f'⟩ := g6 (kp h (by decide : (10 : Nat) ≠ 6)); ⟨e1, e2', x', y', (t'.other (d78 (kp h (by decide : (10 : Nat) ≠ 6)) D7) _).other (d78 (kp h (by decide : (10 : Nat) ≠ 6)) D7) _, fun h' => f' (kp h' (by decide : (10 : Nat) ≠ 9))⟩), (fun h => by rw [getD_set_ne true (by decide)]; exact c9 (kp h (by decide : (10 : Nat) ≠ 9))), (fun _ => ⟨rfl, e2, _, _, t.set _ _, fun _ => ⟨rfl, rfl⟩⟩), (fun _ => by rw [getD_set_ne true (by decide)]; exact D7), (fun h => let ⟨e1, e2', x', y', t', f'⟩ := g8 (kp h (by decide : (10 : Nat) ≠ 8)); ⟨e1, e2', x', y', (t'.other (Ne.symm (d89 D7 (kp h (by decide : (10 : Nat) ≠ 8)))) _).other (Ne.symm (d89 D7 (kp h (by decide : (10 : Nat) ≠ 8)))) _, fun h' => f' (kp h' (by decide : (10 : Nat) ≠ 11))⟩), (fun h => by rw [getD_set_ne true (by decide)]; exact c11 (kp h (by decide : (10 : Nat) ≠ 11))), (fun h h' => d78 (kp h (by decide : (10 : Nat) ≠ 6)) (kp h' (by decide : (10 : Nat) ≠ 7))), (fun h h' => d79 (kp h (by decide : (10 : Nat) ≠ 6)) (kp h' (by decide : (10 : Nat) ≠ 8))), (fun h h' => d89 (kp h (by decide : (10 : Nat) ≠ 7)) (kp h' (by decide : (10 : Nat) ≠ 8)))⟩
      · -- operation 11
        obtain rfl := Option.some.inj ho
        have D8 := tf (hdep ⟨8, .data⟩ (by simp) rfl)
        have D5 := tf (hdep ⟨5, .data⟩ (by simp) rfl)
        obtain ⟨rfl, e2, x, y, t, f⟩ := g8 D8
        obtain rfl := h5 D5
        have t0 := t.c0
        have t1 := t.c1
        have t2 := t.f0
        have t3 := t.f1
        refine wpOp_step rfl (fun K hK => ?_)
        go_simp
        refine hK _ _ ?_
        exact ⟨u18, u19, u20, u21, u22, _, p7, p8, _, b7, b8, b9, rfl, (hB.setCell (p := ⟨b9, 0, none⟩) e2 _).setCell (p := ⟨b9, 1, none⟩) e2 _, (fun h => h0 (kp h (by decide : (11 : Nat) ≠ 0))), (fun h => h1 (kp h (by decide : (11 : Nat) ≠ 1))), (fun h => h2 (kp h (by decide : (11 : Nat) ≠ 2))), (fun h => h3 (kp h (by decide : (11 : Nat) ≠ 3))), (fun h => h4 (kp h (by decide : (11 : Nat) ≠ 4))), (fun _ => rfl), (fun h => let ⟨e1, e2', x', y', t', f'⟩ := g6 (kp h (by decide : (11 : Nat) ≠ 6)); ⟨e1, e2', x', y', (t'.other (d79 (kp h (by decide : (11 : Nat) ≠ 6)) D8) _).other (d79 (kp h (by decide : (11 : Nat) ≠ 6)) D8) _, fun h' => f' (kp h' (by decide : (11 : Nat) ≠ 9))⟩), (fun h => by rw [getD_set_ne true (by decide)]; exact c9 (kp h (by decide : (11 : Nat) ≠ 9))), (fun h => let ⟨e1, e2', x', y', t', f'⟩ := g7 (kp h (by decide : (11 : Nat) ≠ 7)); ⟨e1, e2', x', y', (t'.other (d89 (kp h (by decide : (11 : Nat) ≠ 7)) D8) _).other (d89 (kp h (by decide : (11 : Nat) ≠ 7)) D8) _, fun h' => f' (kp h' (by decide : (11 : Nat) ≠ 10))⟩), (fun h => by rw [getD_set_ne true (by decide)]; exact c10 (kp h (by decide : (11 : Nat) ≠ 10))), (fun _ => ⟨rfl, e2, _, _, t.set _ _, fun _ => ⟨rfl, rfl⟩⟩), (fun _ => by rw [getD_set_ne true (by decide)]; exact D8), (fun h h' => d78 (kp h (by decide : (11 : Nat) ≠ 6)) (kp h' (by decide : (11 : Nat) ≠ 7))), (fun h h' => d79 (kp h (by decide : (11 : Nat) ≠ 6)) (kp h' (by decide : (11 : Nat) ≠ 8))), (fun h h' => d89 (kp h (by decide : (11 : Nat) ≠ 7)) (kp h' (by decide : (11 : Nat) ≠ 8)))⟩
    · intro L a' wx hI hall
      obtain ⟨u18, u19, u20, u21, u22, u23, p7, p8, p9, b7, b8, b9, rfl, hB, h0, h1, h2, h3, h4, h5, g6, c9, g7, c10, g8, c11, d78, d79, d89⟩ := hI
      obtain ⟨rfl, e7, x7, y7, t7, f7⟩ := g6 (hall 6 (by decide))
      obtain ⟨rfl, rfl⟩ := f7 (hall 9 (by decide))
      obtain ⟨rfl, e8, x8, y8, t8, f8⟩ := g7 (hall 7 (by decide))
      obtain ⟨rfl, rfl⟩ := f8 (hall 10 (by decide))
      obtain ⟨rfl, e9, x9, y9, t9, f9⟩ := g8 (hall 8 (by decide))
      obtain ⟨rfl, rfl⟩ := f9 (hall 11 (by decide))
      clear h0 h1 h2 h3 h4 h5 g6 g7 g8 c9 c10 c11 d78 d79 d89 hall f7 f8 f9
      dsimp only
      go_wp2_with fail
      go_meet
      exact ⟨rfl, ⟨_, _, _, rfl, rfl, rfl, t7, t8, t9⟩, below_chain hBv hB hBv.size⟩
  case rest =>
    obtain ⟨rfl, ⟨A, B, C, rfl, rfl, rfl, t7, t8, t9⟩, kB⟩ := hcut
    have a0 := t7.c0
    have a1 := t7.c1
    have b0 := t8.c0
    have b1 := t8.c1
    have c0 := t9.c0
    have c1 := t9.c1
    have ae := arr_eql
    have H := Lib.hid hs
    clear hs hcn hfn hbn q0 q1 q2 q3 q4 q5
    by_cases hl : u = a ∧ v = b
    · obtain ⟨rfl, rfl⟩ := hl
      rw [Pt.onB_left] at H
      go_wp2_with fail
      go_ret
      exact ⟨ret_bool H.out, kB⟩
    · by_cases hr : u = c ∧ v = d
      · obtain ⟨rfl, rfl⟩ := hr
        rw [Pt.onB_right] at H
        by_cases hx : u = a
        · subst hx
          have hy : ¬ v = b := fun e => hl ⟨rfl, e⟩
          go_wp2_with fail
          go_ret
          exact ⟨ret_bool H.out, kB⟩
        · go_wp2_with fail
          go_ret
          exact ⟨ret_bool H.out, kB⟩
      · rw [Pt.onB_opp hl hr] at H
        have f1 : (u == a && v == b) = false := by rw [Bool.eq_false_iff]; intro h; simp at h; exact hl h
        have f2 : (u == c && v == d) = false := by rw [Bool.eq_false_iff]; intro h; simp at h; exact hr h
        clear hl hr
        go_upto_region 6 with fail
        clear f1 f2
        obtain ⟨hp1, hp2, hp3⟩ := three_true h
        have cc := fun w => Lib.hid (cross_any (a - u) (b - v) (c - u) (d - v) w (Pt.sv_of hp3 hp1) (Pt.sv_of hp3 hp2))
        have cd := fun w => Lib.hid (dot_any (a - u) (b - v) (c - u) (d - v) w (Pt.sv_of hp3 hp1) (Pt.sv_of hp3 hp2))
        go_upto_region 7 with fail
        go_cut [6, 10, 11] (fun s6 s10 s11 wx => s6 = .bool false ∧ (∃ D E : Nat, s10 = .pointer (some ⟨D, 0, none⟩) ∧ s11 = .pointer (some ⟨E, 0, none⟩) ∧ Two 84 wx D (a - u) (b - v) ∧ Two 84 wx E (c - u) (d - v)) ∧ Below w.heap.size w wx)
        case first =>
          refine wp_region_inv (by kernel_rfl) (by kernel_rfl) (fun L fr wx => ∃ (z32 z33 z34 z35 z36 z37 p10 p11 : Value) (b10 b11 : Nat), fr = ⟨#[.agg #[.int .i64 a, .int .i64 b], .agg #[.int .i64 c, .int .i64 d], .agg #[.int .i64 u, .int .i64 v], .pointer (some ⟨w.heap.size, 0, none⟩), .pointer (some ⟨w.heap.size + 1, 0, none⟩), .pointer (some ⟨w.heap.size + 1 + 1, 0, none⟩), .bool false, .pointer (some ⟨A, 0, none⟩), .pointer (some ⟨B, 0, none⟩), .pointer (some ⟨C, 0, none⟩), p10, p11, u12, u13, u14, u15, u16, u17, u18, u19, u20, u21, u22, u23, .agg #[.int .i64 u, .int .i64 v], .agg #[.int .i64 a, .int .i64 b], .bool false, .bool false, .agg #[.int .i64 u, .int .i64 v], .agg #[.int .i64 c, .int .i64 d], .bool false, .bool false, z32, z33, z34, z35, z36, z37, u38, u39, u40, u41, u42, u43, u44, u45, u46, u47], []⟩ ∧ Below wc.heap.size wc wx ∧ (L.getD 0 true = true → z32 = .agg #[.int .i64 u, .int .i64 v]) ∧ (L.getD 1 true = true → z33 = .agg #[.int .i64 a, .int .i64 b]) ∧ (L.getD 2 true = true → z34 = .agg #[.int .i64 (a - u), .int .i64 (b - v)]) ∧ (L.getD 3 true = true → z35 = .agg #[.int .i64 u, .int .i64 v]) ∧ (L.getD 4 true = true → z36 = .agg #[.int .i64 c, .int .i64 d]) ∧ (L.getD 5 true = true → z37 = .agg #[.int .i64 (c - u), .int .i64 (d - v)]) ∧ (L.getD 6 true = true → p10 = .pointer (some ⟨b10, 0, none⟩) ∧ wc.heap.size ≤ b10 ∧ ∃ x y : Int, Two 84 wx b10 x y ∧ (L.getD 8 true = true → x = a - u ∧ y = b - v)) ∧ (L.getD 8 true = true → L.getD 6 true = true) ∧ (L.getD 7 true = true → p11 = .pointer (some ⟨b11, 0, none⟩) ∧ wc.heap.size ≤ b11 ∧ ∃ x y : Int, Two 84 wx b11 x y ∧ (L.getD 9 true = true → x = c - u ∧ y = d - v)) ∧ (L.getD 9 true = true → L.getD 7 true = true) ∧ (L.getD 6 true = true → L.getD 7 true = true → b10 ≠ b11)) ?_ ?_ ?_
          · refine ⟨_, _, _, _, _, _, _, _, 0, 0, rfl, below_drew (Below.refl _ _), ?_⟩
            refine ⟨?_, ?_, ?_, ?_, ?_, ?_, ?_, ?_, ?_, ?_, ?_⟩ <;> (intro h; first | (exact absurd h (by decide)) | (intro h'; exact absurd h (by decide)))
          · intro L a' wx i o hI ho hun hdep
            obtain ⟨z32, z33, z34, z35, z36, z37, p10, p11, b10, b11, rfl, hB, h0, h1, h2, h3, h4, h5, g6, c8, g7, c9, d10x11⟩ := hI
            obtain ⟨hcx, hfx⟩ := bcell hB
            have t7' := t7.below hB
            have t8' := t8.below hB
            have t9' := t9.below hB
            have a0 := t7'.c0
            have a1 := t7'.c1
            have b0 := t8'.c0
            have b1 := t8'.c1
            have c0 := t9'.c0
            have c1 := t9'.c1
            have hi : i < 10 := (Array.getElem?_eq_some_iff.1 ho).1
            have hi' : i = 0 ∨ i = 1 ∨ i = 2 ∨ i = 3 ∨ i = 4 ∨ i = 5 ∨ i = 6 ∨ i = 7 ∨ i = 8 ∨ i = 9 := by omega
            clear hi
            rcases hi' with rfl | rfl | rfl | rfl | rfl | rfl | rfl | rfl | rfl | rfl
            · obtain rfl := Option.some.inj ho
              refine wpOp_step rfl (fun K hK => ?_)
              go_simp
              refine hK _ _ ?_
              exact ⟨_, z33, z34, z35, z36, z37, p10, p11, b10, b11, rfl, hB, (fun _ => rfl), (fun h => h1 (kp h (by decide : (0 : Nat) ≠ 1))), (fun h => h2 (kp h (by decide : (0 : Nat) ≠ 2))), (fun h => h3 (kp h (by decide : (0 : Nat) ≠ 3))), (fun h => h4 (kp h (by decide : (0 : Nat) ≠ 4))), (fun h => h5 (kp h (by decide : (0 : Nat) ≠ 5))), (fun h => let ⟨e1, e2', x', y', t', f'⟩ := g6 (kp h (by decide : (0 : Nat) ≠ 6)); ⟨e1, e2', x', y', t', fun h' => f' (kp h' (by decide : (0 : Nat) ≠ 8))⟩), (fun h => by rw [getD_set_ne true (by decide)]; exact c8 (kp h (by decide : (0 : Nat) ≠ 8))), (fun h => let ⟨e1, e2', x', y', t', f'⟩ := g7 (kp h (by decide : (0 : Nat) ≠ 7)); ⟨e1, e2', x', y', t', fun h' => f' (kp h' (by decide : (0 : Nat) ≠ 9))⟩), (fun h => by rw [getD_set_ne true (by decide)]; exact c9 (kp h (by decide : (0 : Nat) ≠ 9))), (fun h h' => d10x11 (kp h (by decide : (0 : Nat) ≠ 6)) (kp h' (by decide : (0 : Nat) ≠ 7)))⟩
            · obtain rfl := Option.some.inj ho
              refine wpOp_step rfl (fun K hK => ?_)
              go_simp
              refine hK _ _ ?_
              exact ⟨z32, _, z34, z35, z36, z37, p10, p11, b10, b11, rfl, hB, (fun h => h0 (kp h (by decide : (1 : Nat) ≠ 0))), (fun _ => rfl), (fun h => h2 (kp h (by decide : (1 : Nat) ≠ 2))), (fun h => h3 (kp h (by decide : (1 : Nat) ≠ 3))), (fun h => h4 (kp h (by decide : (1 : Nat) ≠ 4))), (fun h => h5 (kp h (by decide : (1 : Nat) ≠ 5))), (fun h => let ⟨e1, e2', x', y', t', f'⟩ := g6 (kp h (by decide : (1 : Nat) ≠ 6)); ⟨e1, e2', x', y', t', fun h' => f' (kp h' (by decide : (1 : Nat) ≠ 8))⟩), (fun h => by rw [getD_set_ne true (by decide)]; exact c8 (kp h (by decide : (1 : Nat) ≠ 8))), (fun h => let ⟨e1, e2', x', y', t', f'⟩ := g7 (kp h (by decide : (1 : Nat) ≠ 7)); ⟨e1, e2', x', y', t', fun h' => f' (kp h' (by decide : (1 : Nat) ≠ 9))⟩), (fun h => by rw [getD_set_ne true (by decide)]; exact c9 (kp h (by decide : (1 : Nat) ≠ 9))), (fun h h' => d10x11 (kp h (by decide : (1 : Nat) ≠ 6)) (kp h' (by decide : (1 : Nat) ≠ 7)))⟩
            · obtain rfl := Option.some.inj ho
              have D0 := tf (hdep ⟨0, .data⟩ (by simp) rfl)
              have D1 := tf (hdep ⟨1, .data⟩ (by simp) rfl)
              obtain rfl := h0 D0
              obtain rfl := h1 D1
              refine wpOp_step rfl (fun K hK => ?_)
              go_simp
              refine (to_any u v a b _ hp3 hp1).mono ?_
              rintro e wn ⟨rfl, hbn⟩
              dsimp only
              refine hK _ _ ?_
              exact ⟨_, _, _, z35, z36, z37, p10, p11, b10, b11, rfl, below_chain hB hbn hB.size, (fun _ => rfl), (fun _ => rfl), (fun _ => rfl), (fun h => h3 (kp h (by decide : (2 : Nat) ≠ 3))), (fun h => h4 (kp h (by decide : (2 : Nat) ≠ 4))), (fun h => h5 (kp h (by decide : (2 : Nat) ≠ 5))), (fun h => let ⟨e1, e2', x', y', t', f'⟩ := g6 (kp h (by decide : (2 : Nat) ≠ 6)); ⟨e1, e2', x', y', t'.below hbn, fun h' => f' (kp h' (by decide : (2 : Nat) ≠ 8))⟩), (fun h => by rw [getD_set_ne true (by decide)]; exact c8 (kp h (by decide : (2 : Nat) ≠ 8))), (fun h => let ⟨e1, e2', x', y', t', f'⟩ := g7 (kp h (by decide : (2 : Nat) ≠ 7)); ⟨e1, e2', x', y', t'.below hbn, fun h' => f' (kp h' (by decide : (2 : Nat) ≠ 9))⟩), (fun h => by rw [getD_set_ne true (by decide)]; exact c9 (kp h (by decide : (2 : Nat) ≠ 9))), (fun h h' => d10x11 (kp h (by decide : (2 : Nat) ≠ 6)) (kp h' (by decide : (2 : Nat) ≠ 7)))⟩
            · obtain rfl := Option.some.inj ho
              refine wpOp_step rfl (fun K hK => ?_)
              go_simp
              refine hK _ _ ?_
              exact ⟨z32, z33, z34, _, z36, z37, p10, p11, b10, b11, rfl, hB, (fun h => h0 (kp h (by decide : (3 : Nat) ≠ 0))), (fun h => h1 (kp h (by decide : (3 : Nat) ≠ 1))), (fun h => h2 (kp h (by decide : (3 : Nat) ≠ 2))), (fun _ => rfl), (fun h => h4 (kp h (by decide : (3 : Nat) ≠ 4))), (fun h => h5 (kp h (by decide : (3 : Nat) ≠ 5))), (fun h => let ⟨e1, e2', x', y', t', f'⟩ := g6 (kp h (by decide : (3 : Nat) ≠ 6)); ⟨e1, e2', x', y', t', fun h' => f' (kp h' (by decide : (3 : Nat) ≠ 8))⟩), (fun h => by rw [getD_set_ne true (by decide)]; exact c8 (kp h (by decide : (3 : Nat) ≠ 8))), (fun h => let ⟨e1, e2', x', y', t', f'⟩ := g7 (kp h (by decide : (3 : Nat) ≠ 7)); ⟨e1, e2', x', y', t', fun h' => f' (kp h' (by decide : (3 : Nat) ≠ 9))⟩), (fun h => by rw [getD_set_ne true (by decide)]; exact c9 (kp h (by decide : (3 : Nat) ≠ 9))), (fun h h' => d10x11 (kp h (by decide : (3 : Nat) ≠ 6)) (kp h' (by decide : (3 : Nat) ≠ 7)))⟩
            · obtain rfl := Option.some.inj ho
              refine wpOp_step rfl (fun K hK => ?_)
              go_simp
              refine hK _ _ ?_
              exact ⟨z32, z33, z34, z35, _, z37, p10, p11, b10, b11, rfl, hB, (fun h => h0 (kp h (by decide : (4 : Nat) ≠ 0))), (fun h => h1 (kp h (by decide : (4 : Nat) ≠ 1))), (fun h => h2 (kp h (by decide : (4 : Nat) ≠ 2))), (fun h => h3 (kp h (by decide : (4 : Nat) ≠ 3))), (fun _ => rfl), (fun h => h5 (kp h (by decide : (4 : Nat) ≠ 5))), (fun h => let ⟨e1, e2', x', y', t', f'⟩ := g6 (kp h (by decide : (4 : Nat) ≠ 6)); ⟨e1, e2', x', y', t', fun h' => f' (kp h' (by decide : (4 : Nat) ≠ 8))⟩), (fun h => by rw [getD_set_ne true (by decide)]; exact c8 (kp h (by decide : (4 : Nat) ≠ 8))), (fun h => let ⟨e1, e2', x', y', t', f'⟩ := g7 (kp h (by decide : (4 : Nat) ≠ 7)); ⟨e1, e2', x', y', t', fun h' => f' (kp h' (by decide : (4 : Nat) ≠ 9))⟩), (fun h => by rw [getD_set_ne true (by decide)]; exact c9 (kp h (by decide : (4 : Nat) ≠ 9))), (fun h h' => d10x11 (kp h (by decide : (4 : Nat) ≠ 6)) (kp h' (by decide : (4 : Nat) ≠ 7)))⟩
            · obtain rfl := Option.some.inj ho
              have D3 := tf (hdep ⟨3, .data⟩ (by simp) rfl)
              have D4 := tf (hdep ⟨4, .data⟩ (by simp) rfl)
              obtain rfl := h3 D3
              obtain rfl := h4 D4
              refine wpOp_step rfl (fun K hK => ?_)
              go_simp
              refine (to_any u v c d _ hp3 hp2).mono ?_
              rintro e wn ⟨rfl, hbn⟩
              dsimp only
              refine hK _ _ ?_
              exact ⟨z32, z33, z34, _, _, _, p10, p11, b10, b11, rfl, below_chain hB hbn hB.size, (fun h => h0 (kp h (by decide : (5 : Nat) ≠ 0))), (fun h => h1 (kp h (by decide : (5 : Nat) ≠ 1))), (fun h => h2 (kp h (by decide : (5 : Nat) ≠ 2))), (fun _ => rfl), (fun _ => rfl), (fun _ => rfl), (fun h => let ⟨e1, e2', x', y', t', f'⟩ := g6 (kp h (by decide : (5 : Nat) ≠ 6)); ⟨e1, e2', x', y', t'.below hbn, fun h' => f' (kp h' (by decide : (5 : Nat) ≠ 8))⟩), (fun h => by rw [getD_set_ne true (by decide)]; exact c8 (kp h (by decide : (5 : Nat) ≠ 8))), (fun h => let ⟨e1, e2', x', y', t', f'⟩ := g7 (kp h (by decide : (5 : Nat) ≠ 7)); ⟨e1, e2', x', y', t'.below hbn, fun h' => f' (kp h' (by decide : (5 : Nat) ≠ 9))⟩), (fun h => by rw [getD_set_ne true (by decide)]; exact c9 (kp h (by decide : (5 : Nat) ≠ 9))), (fun h h' => d10x11 (kp h (by decide : (5 : Nat) ≠ 6)) (kp h' (by decide : (5 : Nat) ≠ 7)))⟩
            · obtain rfl := Option.some.inj ho
              refine wpOp_step rfl (fun K hK => ?_)
              go_simp
              refine hK _ _ ?_
              exact ⟨z32, z33, z34, z35, z36, z37, _, p11, _, b11, rfl, hB.alloc hB.size _, (fun h => h0 (kp h (by decide : (6 : Nat) ≠ 0))), (fun h => h1 (kp h (by decide : (6 : Nat) ≠ 1))), (fun h => h2 (kp h (by decide : (6 : Nat) ≠ 2))), (fun h => h3 (kp h (by decide : (6 : Nat) ≠ 3))), (fun h => h4 (kp h (by decide : (6 : Nat) ≠ 4))), (fun h => h5 (kp h (by decide : (6 : Nat) ≠ 5))), (fun _ => ⟨rfl, hB.size, 0, 0, Two.new _ _ _, fun h => absurd (c8 (kp h (by decide : (6 : Nat) ≠ 8))) (by rw [hun]; decide)⟩), (fun _ => getD_set_self _ _), (fun h => let ⟨e1, e2', x', y', t', f'⟩ := g7 (kp h (by decide : (6 : Nat) ≠ 7)); ⟨e1, e2', x', y', t'.below ((Below.refl _ _).alloc (Nat.le_refl _) _), fun h' => f' (kp h' (by decide : (6 : Nat) ≠ 9))⟩), (fun h => by rw [getD_set_ne true (by decide)]; exact c9 (kp h (by decide : (6 : Nat) ≠ 9))), (fun _ h => by obtain ⟨_, _, x, y, t, _⟩ := g7 (kp h (by decide : (6 : Nat) ≠ 7)); have := t.lt; omega)⟩
            · obtain rfl := Option.some.inj ho
              refine wpOp_step rfl (fun K hK => ?_)
              go_simp
              refine hK _ _ ?_
              exact ⟨z32, z33, z34, z35, z36, z37, p10, _, b10, _, rfl, hB.alloc hB.size _, (fun h => h0 (kp h (by decide : (7 : Nat) ≠ 0))), (fun h => h1 (kp h (by decide : (7 : Nat) ≠ 1))), (fun h => h2 (kp h (by decide : (7 : Nat) ≠ 2))), (fun h => h3 (kp h (by decide : (7 : Nat) ≠ 3))), (fun h => h4 (kp h (by decide : (7 : Nat) ≠ 4))), (fun h => h5 (kp h (by decide : (7 : Nat) ≠ 5))), (fun h => let ⟨e1, e2', x', y', t', f'⟩ := g6 (kp h (by decide : (7 : Nat) ≠ 6)); ⟨e1, e2', x', y', t'.below ((Below.refl _ _).alloc (Nat.le_refl _) _), fun h' => f' (kp h' (by decide : (7 : Nat) ≠ 8))⟩), (fun h => by rw [getD_set_ne true (by decide)]; exact c8 (kp h (by decide : (7 : Nat) ≠ 8))), (fun _ => ⟨rfl, hB.size, 0, 0, Two.new _ _ _, fun h => absurd (c9 (kp h (by decide : (7 : Nat) ≠ 9))) (by rw [hun]; decide)⟩), (fun _ => getD_set_self _ _), (fun h _ => by obtain ⟨_, _, x, y, t, _⟩ := g6 (kp h (by decide : (7 : Nat) ≠ 6)); have := t.lt; omega)⟩
            · obtain rfl := Option.some.inj ho
              have D6 := tf (hdep ⟨6, .data⟩ (by simp) rfl)
              have D2 := tf (hdep ⟨2, .data⟩ (by simp) rfl)
              obtain ⟨rfl, e2, x, y, t, f⟩ := g6 D6
              obtain rfl := h2 D2
              have t0 := t.c0
              have t1 := t.c1
              have t2 := t.f0
              have t3 := t.f1
              refine wpOp_step rfl (fun K hK => ?_)
              go_simp
              refine hK _ _ ?_
              exact ⟨z32, z33, _, z35, z36, z37, _, p11, b10, b11, rfl, (hB.setCell (p := ⟨b10, 0, none⟩) e2 _).setCell (p := ⟨b10, 1, none⟩) e2 _, (fun h => h0 (kp h (by decide : (8 : Nat) ≠ 0))), (fun h => h1 (kp h (by decide : (8 : Nat) ≠ 1))), (fun _ => rfl), (fun h => h3 (kp h (by decide : (8 : Nat) ≠ 3))), (fun h => h4 (kp h (by decide : (8 : Nat) ≠ 4))), (fun h => h5 (kp h (by decide : (8 : Nat) ≠ 5))), (fun _ => ⟨rfl, e2, _, _, t.set _ _, fun _ => ⟨rfl, rfl⟩⟩), (fun _ => by rw [getD_set_ne true (by decide)]; exact D6), (fun h => let ⟨e1, e2', x', y', t', f'⟩ := g7 (kp h (by decide : (8 : Nat) ≠ 7)); ⟨e1, e2', x', y', (t'.other (Ne.symm (d10x11 D6 (kp h (by decide : (8 : Nat) ≠ 7)))) _).other (Ne.symm (d10x11 D6 (kp h (by decide : (8 : Nat) ≠ 7)))) _, fun h' => f' (kp h' (by decide : (8 : Nat) ≠ 9))⟩), (fun h => by rw [getD_set_ne true (by decide)]; exact c9 (kp h (by decide : (8 : Nat) ≠ 9))), (fun h h' => d10x11 (kp h (by decide : (8 : Nat) ≠ 6)) (kp h' (by decide : (8 : Nat) ≠ 7)))⟩
            · obtain rfl := Option.some.inj ho
              have D7 := tf (hdep ⟨7, .data⟩ (by simp) rfl)
              have D5 := tf (hdep ⟨5, .data⟩ (by simp) rfl)
              obtain ⟨rfl, e2, x, y, t, f⟩ := g7 D7
              obtain rfl := h5 D5
              have t0 := t.c0
              have t1 := t.c1
              have t2 := t.f0
              have t3 := t.f1
              refine wpOp_step rfl (fun K hK => ?_)
              go_simp
              refine hK _ _ ?_
              exact ⟨z32, z33, z34, z35, z36, _, p10, _, b10, b11, rfl, (hB.setCell (p := ⟨b11, 0, none⟩) e2 _).setCell (p := ⟨b11, 1, none⟩) e2 _, (fun h => h0 (kp h (by decide : (9 : Nat) ≠ 0))), (fun h => h1 (kp h (by decide : (9 : Nat) ≠ 1))), (fun h => h2 (kp h (by decide : (9 : Nat) ≠ 2))), (fun h => h3 (kp h (by decide : (9 : Nat) ≠ 3))), (fun h => h4 (kp h (by decide : (9 : Nat) ≠ 4))), (fun _ => rfl), (fun h => let ⟨e1, e2', x', y', t', f'⟩ := g6 (kp h (by decide : (9 : Nat) ≠ 6)); ⟨e1, e2', x', y', (t'.other (d10x11 (kp h (by decide : (9 : Nat) ≠ 6)) D7) _).other (d10x11 (kp h (by decide : (9 : Nat) ≠ 6)) D7) _, fun h' => f' (kp h' (by decide : (9 : Nat) ≠ 8))⟩), (fun h => by rw [getD_set_ne true (by decide)]; exact c8 (kp h (by decide : (9 : Nat) ≠ 8))), (fun _ => ⟨rfl, e2, _, _, t.set _ _, fun _ => ⟨rfl, rfl⟩⟩), (fun _ => by rw [getD_set_ne true (by decide)]; exact D7), (fun h h' => d10x11 (kp h (by decide : (9 : Nat) ≠ 6)) (kp h' (by decide : (9 : Nat) ≠ 7)))⟩
          · intro L a' wx hI hall
            obtain ⟨z32, z33, z34, z35, z36, z37, p10, p11, b10, b11, rfl, hB, h0, h1, h2, h3, h4, h5, g6, c8, g7, c9, d10x11⟩ := hI
            obtain ⟨rfl, e10, x10, y10, r10, f10⟩ := g6 (hall 6 (by decide))
            obtain ⟨rfl, rfl⟩ := f10 (hall 8 (by decide))
            obtain ⟨rfl, e11, x11, y11, r11, f11⟩ := g7 (hall 7 (by decide))
            obtain ⟨rfl, rfl⟩ := f11 (hall 9 (by decide))
            clear h0 h1 h2 h3 h4 h5 g6 c8 f10 g7 c9 f11 d10x11 hall
            dsimp only
            go_wp2_with fail
            go_meet
            exact ⟨rfl, ⟨_, _, rfl, rfl, r10, r11⟩, below_chain kB hB kB.size⟩
        case rest =>
          obtain ⟨rfl, ⟨D, E, rfl, rfl, r1, r2⟩, kB2⟩ := hcut
          have a0 := r1.c0
          have a1 := r1.c1
          have b0 := r2.c0
          have b1 := r2.c1
          have z1 := r1.lt
          have z2 := r2.lt
          have kz := kB2.size
          clear h hp1 hp2 hp3 t7 t8 t9
          generalize Pt.cr (a - u) (b - v) (c - u) (d - v) = X at *
          generalize Pt.dt (a - u) (b - v) (c - u) (d - v) = Y at *
          by_cases hX : X = 0
          · subst hX
            go_wp2_with (first | (go_at_call 95; (with_reducible refine ((cc _).out).mono ?_); rintro e w5 ⟨rfl, hbn⟩; obtain ⟨hcn, hfn⟩ := bcell hbn; (try simp only [World.size_drew, World.cell?_drew, World.frozen?_drew, World.heap_drewN, World.cell?_drewN, World.frozen?_drewN] at hcn hfn); have hsz := hbn.size; (try simp at hsz); (try have hsl := Nat.lt_of_succ_le hsz); (try have hz0 : D < w5.heap.size := (by have := hbn.size; (try simp at this); omega)); (try have hz1 : E < w5.heap.size := (by have := hbn.size; (try simp at this); omega))) | (go_at_call 96; (with_reducible refine ((cd _).out).mono ?_); rintro e w6 ⟨rfl, hbn⟩; obtain ⟨hcn, hfn⟩ := bcell hbn; (try simp only [World.size_drew, World.cell?_drew, World.frozen?_drew, World.heap_drewN, World.cell?_drewN, World.frozen?_drewN] at hcn hfn); have hsz := hbn.size; (try simp at hsz); (try have hsl := Nat.lt_of_succ_le hsz); (try have hz0 : D < w6.heap.size := (by have := hbn.size; (try simp at this); omega)); (try have hz1 : E < w6.heap.size := (by have := hbn.size; (try simp at this); omega)); (try have hz2 : w5.heap.size < w6.heap.size := (by have := hbn.size; (try simp at this); omega))))
            go_ret
            exact ⟨ret_bool (by have := H.out; simpa using this), (by repeat (first | assumption | exact Below.refl _ _ | (refine below_chain ?_ (by assumption) (by first | omega | (simp <;> omega) | simp)) | (refine Below.alloc ?_ (by first | omega | (simp <;> omega) | simp) _) | (apply below_drewN) | (apply below_drew) | (refine Below.setCell ?_ (by first | omega | (simp <;> omega) | simp) _)))⟩
          · have hX' : (X == 0) = false := by simpa using hX
            go_wp2_with (first | (go_at_call 95; (with_reducible refine ((cc _).out).mono ?_); rintro e w5 ⟨rfl, hbn⟩; obtain ⟨hcn, hfn⟩ := bcell hbn; (try simp only [World.size_drew, World.cell?_drew, World.frozen?_drew, World.heap_drewN, World.cell?_drewN, World.frozen?_drewN] at hcn hfn); have hsz := hbn.size; (try simp at hsz); (try have hsl := Nat.lt_of_succ_le hsz); (try have hz0 : D < w5.heap.size := (by have := hbn.size; (try simp at this); omega)); (try have hz1 : E < w5.heap.size := (by have := hbn.size; (try simp at this); omega))) | (go_at_call 96; (with_reducible refine ((cd _).out).mono ?_); rintro e w6 ⟨rfl, hbn⟩; obtain ⟨hcn, hfn⟩ := bcell hbn; (try simp only [World.size_drew, World.cell?_drew, World.frozen?_drew, World.heap_drewN, World.cell?_drewN, World.frozen?_drewN] at hcn hfn); have hsz := hbn.size; (try simp at hsz); (try have hsl := Nat.lt_of_succ_le hsz); (try have hz0 : D < w6.heap.size := (by have := hbn.size; (try simp at this); omega)); (try have hz1 : E < w6.heap.size := (by have := hbn.size; (try simp at this); omega)); (try have hz2 : w5.heap.size < w6.heap.size := (by have := hbn.size; (try simp at this); omega))))
            go_ret
            exact ⟨ret_bool (by have := H.out; simpa [hX] using this), (by repeat (first | assumption | exact Below.refl _ _ | (refine below_chain ?_ (by assumption) (by first | omega | (simp <;> omega) | simp)) | (refine Below.alloc ?_ (by first | omega | (simp <;> omega) | simp) _) | (apply below_drewN) | (apply below_drew) | (refine Below.setCell ?_ (by first | omega | (simp <;> omega) | simp) _)))⟩
end Go.Proofs.Ytegcjdcinebleaa
