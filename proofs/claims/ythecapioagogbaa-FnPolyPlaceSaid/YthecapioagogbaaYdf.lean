/-
  What the draw of the law on areas gives, and the laws' helpers: corners begun elsewhere, corners turned.
-/
import Derived.Test.YthecapioagogbaaYdd
import Derived.Test.YthecapioagogbaaYde
namespace Go.Proofs.Ythecapioagogbaa
open Go.RowKit Poly
set_option linter.unusedVariables false

/-- a drawn list of points, by new memory alone -/
def DPb (w : World) (e : Ending) (w' : World) : Prop :=
  ∃ (L : List P2) (p : Option Addr) (c : Nat), e = .returned (.slice p L.length c) ∧ L.length ≤ c ∧ L.length ≤ 12 ∧ Ints w' p (fl L) ∧ Below w.heap.size w w'

set_option maxHeartbeats 4000000 in
theorem drawPolyArea_is (v : Value) (w : World) (h : Hid (Code' w v)) :
    Calls Try.prog 22 #[v] w (DPb w) := by
  go_enter Try.func22, Try.ntmps22
  go_wp2_with (first | (go_at_call 42; (with_reducible refine (open_any _ _ h).mono ?_); rintro e wo ⟨rfl, hR_wo, hb_wo, hz_wo⟩; have hs_wo := hb_wo.size; clear hz_wo) | (go_at_call 43; (with_reducible refine (poly_any 0 w.heap.size _ hR_wo (by omega)).mono ?_); rintro e wb ⟨L, p, c, rfl, hc, hl, hi, hne, hrd, hgb⟩))
  go_ret
  exact ⟨L, p, c, rfl, hc, hl, hi, below_gb hb_wo hgb (Nat.le_refl _) hs_wo⟩

theorem fl_drop : ∀ (k : Nat) (L : List P2), fl (L.drop k) = (fl L).drop (k * 2)
  | 0, L => by simp
  | k + 1, [] => by simp [fl]
  | k + 1, q :: l => by
    rw [show (k + 1) * 2 = k * 2 + 1 + 1 by omega]
    simp only [fl, List.drop_succ_cons]
    exact fl_drop k l
theorem fl_take : ∀ (k : Nat) (L : List P2), fl (L.take k) = (fl L).take (k * 2)
  | 0, L => by simp [fl]
  | k + 1, [] => by simp [fl]
  | k + 1, q :: l => by
    rw [show (k + 1) * 2 = k * 2 + 1 + 1 by omega]
    simp only [fl, List.take_succ_cons]
    rw [fl_take k l]

theorem pts_cell {w : World} {B o : Nat} {xs : List Int} (h : Ints w (some ⟨B, o, none⟩) xs) {i : Nat} {z : Int} (hi : xs[i]? = some z) : w.cell? ⟨B, o + i, none⟩ = some (.int .i64 z) := by
  rcases h with h | ⟨b, q, e, hb, hc⟩
  · subst h; simp at hi
  · injection e with e
    injection e with e1 e2
    subst e1 e2
    exact hc _ _ hi
set_option maxHeartbeats 8000000 in
theorem begun_is (w : World) (B o n c k : Nat) (L : List P2) (hI : Ints w (some ⟨B, o, none⟩) (fl L)) (hn : Hid (L.length = n)) (hk : k < n) (hc : n ≤ c) (h12 : n ≤ 12) :
    Calls Try.prog 20 #[.slice (some ⟨B, o, none⟩) n c, .int .i64 k] w fun e w' => ∃ g cap : Nat, e = .returned (.slice (some ⟨g, 0, none⟩) n cap) ∧ w.heap.size ≤ g ∧ Own w' g 31 2 n cap (fl (begL L k)) ∧ Below w.heap.size w w' := by
  have HI := Lib.hid hI
  clear hI
  have hkc : k < c := by omega
  have hkn : k ≤ n := by omega
  have hck : ¬ c = k := by omega
  have hkc' : k ≤ c := by omega
  have hc0 : ¬ c = 0 := by omega
  go_enter Try.func20, Try.ntmps20
  go_upto_region 1 with fail
  go_region_law (first
    | (refine step_app0 _ (by rfl) _ _ _ (by rfl) 31 _ 2 16 Try.underlying23 info_point rfl (by decide) (by decide) w.heap.size 0 0 [] (by rfl) (Own.empty w _ 2) ⟨B, o + k * 2, none⟩ (n - k) (c - k) (fl (L.drop k)) (by rfl) (by rw [fl_len, List.length_drop, hn.out]) (fun j z hj => by rw [Go.WideShapes.add_plain]; rw [fl_drop, List.getElem?_drop] at hj; have := pts_cell HI.out hj; rw [Nat.add_assoc]; exact cell_adD _ this) (by omega) ?_; intro g1 d1 w1 hO1 hg1 hl1 hlt1; rw [Nat.zero_add, List.nil_append] at hO1)
    | (refine step_app0 _ (by rfl) _ _ _ (by rfl) 31 _ 2 16 Try.underlying23 info_point rfl (by decide) (by decide) g1 (n - k) d1 _ (by rfl) hO1 ⟨B, o, none⟩ k c (fl (L.take k)) (by rfl) (by rw [fl_len, List.length_take, hn.out]; omega) (fun j z hj => by rw [Go.WideShapes.add_plain]; rw [fl_take, List.getElem?_take] at hj; split at hj; (have h1 := cell_adD (.cells #[] 31) (pts_cell HI.out hj); have hB := World.block_lt_of_cell? w _ (pts_cell HI.out hj); have h2 := hg1.cell_far (a := ⟨B, o + j, none⟩) (by simp; simp at hB; omega) (by simp at hB ⊢; omega); exact h2.trans h1); cases hj) (by omega) ?_; intro g2 d2 w2 hO2 hg2 hl2 hlt2))
  have hs1 := hg1.size
  simp at hs1
  have hg1w : w.heap.size ≤ g1 := by
    rcases hl1 with e | e
    · omega
    · simp at e; omega
  have hg2w : w.heap.size ≤ g2 := by
    rcases hl2 with e | e <;> omega
  have hb1 : Below w.heap.size w (w.alloc (.cells #[] 31)).drew := below_drew ((Below.refl _ _).alloc (Nat.le_refl _) _)
  have hb2 := below_gb (below_gb hb1 hg1 (Nat.le_refl _) (by simp)) hg2 hg1w (by omega)
  have HN : Hid (Own w2 g2 31 2 n d2 (fl (begL L k)) ∧ Below w.heap.size w w2) := Lib.hid ⟨by unfold begL; rw [fl_append]; rw [Nat.sub_add_cancel hkn] at hO2; exact hO2, hb2⟩
  clear hO1 hg1 hl1 hO2 hg2 hl2 hb1 hb2
  go_wp2_with fail
  refine bodyPost_ret (v := .slice (some ⟨g2, 0, none⟩) n d2) (by simp [results, Try.results20, go_sem]) rfl ⟨g2, d2, rfl, hg2w, HN.out.1, HN.out.2⟩

theorem rot_take {L : List P2} {q : Nat} {p : P2} (h : L[q]? = some p) : rotL (L.take (q + 1)) = rotL (L.take q) ++ [rotP p] := by
  unfold rotL
  rw [List.take_add_one, h]
  simp
set_option maxHeartbeats 8000000 in
theorem turned_is (w : World) (B o n c : Nat) (L : List P2) (hI : Ints w (some ⟨B, o, none⟩) (fl L)) (hn : Hid (L.length = n)) (hv : Hid (okP L = true)) (h12 : n ≤ 12) (hBw : B < w.heap.size) :
    Calls Try.prog 21 #[.slice (some ⟨B, o, none⟩) n c] w fun e w' => ∃ g cap : Nat, e = .returned (.slice (some ⟨g, 0, none⟩) n cap) ∧ w.heap.size ≤ g ∧ Own w' g 31 2 n cap (fl (rotL L)) ∧ Below w.heap.size w w' := by
  have HI := Lib.hid hI
  clear hI
  go_enter Try.func21, Try.ntmps21
  go_wp2_with fail
  have HE := Lib.hid (Own.empty w 31 2)
  have HB0 : Hid (Below w.heap.size w (w.alloc (.cells #[] 31))) := Lib.hid ((Below.refl _ _).alloc (Nat.le_refl _) _)
  go_loopw [3, 4] (fun v i wr => ∃ q g cap : Nat, q ≤ n ∧ i = .int .i64 q ∧ v = .slice (some ⟨g, 0, none⟩) q cap ∧ w.heap.size ≤ g ∧ Own wr g 31 2 q cap (fl (rotL (L.take q))) ∧ Below w.heap.size w wr) (fun _ i _ => n - (intOf i).toNat)
  case atStart => exact ⟨0, w.heap.size, 0, Nat.zero_le _, rfl, rfl, Nat.le_refl _, HE.out, HB0.out⟩
  case round =>
    clear HE HB0
    obtain ⟨q, g, cap, hq, rfl, rfl, hg, how, hb⟩ := hrel
    have hlg := how.lt
    have hsz := hb.size
    have HO := Lib.hid (And.intro how hb)
    by_cases hlt : q < n
    · obtain ⟨p, hp⟩ : ∃ p, L[q]? = some p := ⟨_, List.getElem?_eq_getElem (by rw [hn.out]; exact hlt)⟩
      obtain ⟨z0, z1⟩ := fl_at hp
      have hbB := hb.cell (p := ⟨B, o + q * 2, none⟩) hBw
      have y0 := hbB.trans (pts_cell HI.out z0)
      have hbB1 := hb.cell (p := ⟨B, o + (q * 2 + 1), none⟩) hBw
      have y1 := hbB1.trans (pts_cell HI.out z1)
      rw [← Nat.add_assoc] at y1
      have hpv : pvP p = true := by
        have := okP_at hv.out q
        have e := cy_lt (L := L) (i := q) (by rw [hn.out]; exact hlt)
        rw [hp] at e
        injection e with e
        rw [e]
        exact this
      have hpb := pvP_true hpv
      have HP := Lib.hid hp
      have hBr : B < wr.heap.size := by omega
      have hBg : B ≠ g := by omega
      clear how hb z0 z1 hbB hbB1 hp hpv
      go_upto_region 5 with fail
      go_region_held3 (fun W => W.cell? ⟨B, o + q * 2, none⟩ = some (.int .i64 p.1) ∧ W.cell? ⟨B, o + q * 2 + 1, none⟩ = some (.int .i64 p.2)) (first | (go_keep; done) | (rw [hgr.cell_far _ (by simp; omega) (by simp; omega), hgr.cell_far _ (by simp; omega) (by simp; omega)]; exact ⟨cell_adD _ y0, cell_adD _ y1⟩))
        ((refine step_app _ (by rfl) _ _ _ (by rfl) 31 _ 2 16 Try.underlying23 info_point rfl (by decide) (by decide) g q cap _ (by rfl) (HO.out.1.alloc _) ⟨wr.heap.size, 0, none⟩ 1 1 [IntKind.i64.wrap (-p.2), p.1] (by rfl) rfl (two_cellsD _ _ _ _) (by decide) (by omega) ?_; intro g' cap' w' hown hgr hloc hlt1))
      have hwr : IntKind.i64.wrap (-p.2) = 0 - p.2 := by rw [IntKind.wrap_i64]; omega
      have hgl : w.heap.size ≤ g' := by
        rcases hloc with e | e
        · omega
        · simp at e; omega
      rw [hwr] at hown
      have HN : Hid (Own w' g' 31 2 (q + 1) cap' (fl (rotL (L.take (q + 1)))) ∧ Below w.heap.size w w') :=
        Lib.hid ⟨by rw [rot_take HP.out, fl_append]; exact hown, below_gb (below_drew (HO.out.2.alloc hsz _)) hgr hg (by simp; omega)⟩
      clear hown hgr hloc
      go_wp2_with fail
      go_roundw
      case rel => exact ⟨q + 1, g', cap', by omega, by go_num, rfl, hgl, HN.out.1, HN.out.2⟩
      case measure => simp [intOf]; omega
    · have e : q = n := by omega
      subst e
      go_wp2_with fail
      go_ret
      exact ⟨g, cap, rfl, hg, by have := HO.out.1; rw [List.take_of_length_le (Nat.le_of_eq hn.out)] at this; exact this, HO.out.2⟩
end Go.Proofs.Ythecapioagogbaa
