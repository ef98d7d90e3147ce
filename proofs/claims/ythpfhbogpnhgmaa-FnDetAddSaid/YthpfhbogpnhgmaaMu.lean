/-
  The reference model's determinant, along the first row; MatDet.
-/
import Derived.Test.YthpfhbogpnhgmaaMt
import Derived.Deep.RegionHeld3
namespace Go.Proofs.Ythpfhbogpnhgmaa
open Go.RowKit
set_option linter.unusedVariables false

theorem det_small : ∀ {n : Nat} {a : Mx}, n ≤ 4 → SmE n 1000 a → -24000000000000 ≤ det n a ∧ det n a ≤ 24000000000000 := by
  intro n a hn h
  have h1 := det_abs (by omega) n a h
  match n, hn with
  | 0, _ => simp [fct, pw] at h1; omega
  | 1, _ => simp [fct, pw] at h1; omega
  | 2, _ => simp [fct, pw] at h1; omega
  | 3, _ => simp [fct, pw] at h1; omega
  | 4, _ => simp [fct, pw] at h1; omega
/-- a summand of the determinant -/
def dterm (n : Nat) (a : Mx) (j : Nat) : Int := sgj j * a 0 j * det n (mnr a j)
theorem dterm_low {n j : Nat} {a : Mx} (hn : n ≤ 4) (h : SmE (n + 1) 1000 a) (hj : j < n + 1) : -24000000000000000 ≤ dterm n a j ∧ dterm n a j ≤ 24000000000000000 := by
  have h1 := det_small hn (a := mnr a j) (fun i k hi hk => h (i + 1) (skip j k) (by omega) (skip_lt hk hj))
  have h2 := h 0 j (by omega) hj
  have h3 : -1000 ≤ sgj j * a 0 j ∧ sgj j * a 0 j ≤ 1000 := by unfold sgj; split <;> omega
  have := abs_mul (x := 1000) (y := 24000000000000) h3 h1
  unfold dterm
  omega
theorem det_terms (n : Nat) (a : Mx) : det (n + 1) a = smn (n + 1) (dterm n a) := rfl
set_option maxHeartbeats 4000000 in
set_option maxRecDepth 100000 in
theorem sDet : ∀ (n c : Nat) (p : Option Addr) (L : List (List Int)) (w : World), GRead w p L → Sq n L → n ≤ 5 → SmE n 1000 (ent L) →
    Calls Try.prog 46 #[.slice p n c] w fun e w' => e = .returned (.int .i64 (det n (ent L))) ∧ Below w.heap.size w w'
  | 0, c, p, L, w, _, _, _, _ => by
    go_enter Try.func46, Try.ntmps46
    go_wp2_with fail
    go_ret
    exact ⟨rfl, Below.refl _ _⟩
  | n + 1, c, p, L, w, h, hs, h5, hm => by
    have ih := fun c p L w h hs hm => Lib.hid (sDet n c p L w h hs (by omega) hm)
    have H := Lib.hid (And.intro h (And.intro hs hm))
    have hn5 : n ≤ 4 := by omega
    have hn0 : ((n : Int) + 1 == 0) = false := by
      have : ¬ ((n : Int) + 1 = 0) := by omega
      simpa using this
    clear h hs hm
    go_enter Try.func46, Try.ntmps46
    go_wp2_with fail
    go_loopw [3, 4, 5] (fun s g i wr => ∃ j : Nat, j ≤ n + 1 ∧ i = .int .i64 j ∧ s = .int .i64 (smn j (dterm n (ent L))) ∧ g = .int .i64 (sgj j) ∧ Below w.heap.size w wr) (fun _ _ i _ => n + 1 - (intOf i).toNat)
    case atStart => exact ⟨0, Nat.zero_le _, rfl, rfl, rfl, Below.refl _ _⟩
    case round =>
      obtain ⟨j, hj, rfl, rfl, rfl, hbr⟩ := hrel
      have hbs := hbr.size
      have hsb := sm_abs (n := j) (f := dterm n (ent L)) (c := 24000000000000000) (fun i hi => dterm_low hn5 H.out.2.2 (by omega))
      obtain ⟨s, hs⟩ : ∃ s, smn j (dterm n (ent L)) = s := ⟨_, rfl⟩
      obtain ⟨σ, hσ⟩ : ∃ σ, sgj j = σ := ⟨_, rfl⟩
      have hσb : -1 ≤ σ ∧ σ ≤ 1 := by rw [← hσ]; unfold sgj; split <;> omega
      rw [hs] at hsb ⊢
      rw [hσ]
      have hsb2 : -144000000000000000 ≤ s ∧ s ≤ 144000000000000000 := by omega
      obtain ⟨s0, s1⟩ := hsb2
      obtain ⟨σ0, σ1⟩ := hσb
      clear hsb
      by_cases hlt : j < n + 1
      · obtain ⟨B, o, r, q, cq, rfl, hr, hB, e0, hcq, hi⟩ := (H.out.1.below hbr).at (i := 0) (by rw [H.out.2.1.1]; omega)
        have hrl : r.length = n + 1 := H.out.2.1.2 r (List.mem_of_getElem? hr)
        rw [hrl] at e0 hcq
        obtain ⟨A, oA, z, rfl, hz, hA, e1⟩ := hi.at (i := j) (by rw [hrl]; exact hlt)
        have hze : ent L 0 j = z := by unfold ent; rw [rowL_at hr, num_at hz]
        have hzb := H.out.2.2 0 j (by omega) hlt
        rw [hze] at hzb
        obtain ⟨z0, z1⟩ := hzb
        have hlt' : (j : Int) < (n : Int) + 1 := by omega
        rw [Nat.add_zero] at e0
        have hsm : SmE n 1000 (mnr (ent L) j) := fun i k hi hk => H.out.2.2 (i + 1) (skip j k) (by omega) (skip_lt hk hlt)
        obtain ⟨D, hD⟩ : ∃ D, det n (mnr (ent L) j) = D := ⟨_, rfl⟩
        have hDb := det_small hn5 hsm
        rw [hD] at hDb
        have hT : dterm n (ent L) j = σ * z * D := by unfold dterm; rw [hσ, hze, hD]
        have hTb := dterm_low (n := n) (a := ent L) hn5 H.out.2.2 hlt
        rw [hT] at hTb
        have hPb : -1000 ≤ σ * z ∧ σ * z ≤ 1000 := by
          have := abs_mul (x := 1) (y := 1000) ⟨σ0, σ1⟩ ⟨z0, z1⟩; omega
        by_cases hz0 : z = 0
        · subst hz0
          have HN : Hid (smn (j + 1) (dterm n (ent L)) = s ∧ sgj (j + 1) = -σ) := Lib.hid ⟨by simp only [smn]; rw [hs, hT]; simp, by rw [sg_succ, hσ]⟩
          clear hs hσ hr hrl hz hze hsm hD hDb hT hTb hPb hi
          go_wp2_with fail
          go_roundw
          case rel => exact ⟨j + 1, by omega, by go_num, by rw [HN.out.1], by rw [HN.out.2], hbr⟩
          case measure => simp [intOf]; omega
        · have HN : Hid (smn (j + 1) (dterm n (ent L)) = s + σ * z * D ∧ sgj (j + 1) = -σ) := Lib.hid ⟨by simp only [smn]; rw [hs, hT], by rw [sg_succ, hσ]⟩
          have c1 := fun w h => Lib.hid (sWithout n c j (some ⟨B, o, none⟩) L w h H.out.2.1 h5 hlt)
          have c2 := fun c p w h => Lib.hid (ih c p (cutL L j) w h (cut_sq H.out.2.1 hlt) (fun i k hi hk => by rw [ent_cut H.out.2.1 hlt hi]; exact hsm i k hi hk)).out
          have e3 : det n (ent (cutL L j)) = D := by rw [det_cut H.out.2.1 hlt, hD]
          rw [e3] at c2
          have HGr := Lib.hid (H.out.1.below hbr)
          have hz0' : (z == 0) = false := by simpa using hz0
          obtain ⟨D0, D1⟩ := hDb
          obtain ⟨T0, T1⟩ := hTb
          obtain ⟨P0, P1⟩ := hPb
          clear hs hσ hr hrl hz hze hsm hD hT hi e3 ih
          go_wp2_with fail
          go_region_held3 (fun W => W.cell? ⟨B, o, none⟩ = some (.slice (some ⟨A, oA, none⟩) (n + 1) cq) ∧ W.cell? ⟨A, oA + j, none⟩ = some (.int .i64 z)) (first | (go_keep; done) | (go_split_ands; refine ⟨?_, ?_⟩ <;> (repeat (first | with_reducible assumption | (with_reducible refine cell_below_keep (by with_reducible assumption) ?_) | (with_reducible refine cell_drew_keep ?_)))))
            (first
              | (go_at_call 57; (with_reducible refine ((c1 _ ?_).out).mono ?_); (focus (exact HGr.out; done)); rintro e w2 ⟨g2, d2, rfl, hg2, hb_w2⟩; have HG2 := Lib.hid hg2; clear hg2)
              | (go_at_call 46; (with_reducible refine ((c2 _ _ _ ?_).out).mono ?_); (focus (exact HG2.out; done)); rintro e w3 ⟨rfl, hb_w3⟩))
          have q1 : IntKind.i64.wrap (σ * z) = σ * z := by rw [IntKind.wrap_i64]; omega
          have q2 : IntKind.i64.wrap (σ * z * D) = σ * z * D := by rw [IntKind.wrap_i64]; omega
          have q3 : IntKind.i64.wrap (s + σ * z * D) = s + σ * z * D := by rw [IntKind.wrap_i64]; omega
          rw [q1, q2, q3]
          clear q1 q2 q3
          have hBB := Lib.hid ((below_drew hbr).trans ((hb_w2.trans (hb_w3.mono hb_w2.size)).mono hbs))
          obtain ⟨y, hy⟩ : ∃ y, s + σ * z * D = y := ⟨_, rfl⟩
          rw [hy] at HN ⊢
          clear hy T0 T1 P0 P1
          go_wp2_with fail
          go_roundw
          case rel => exact ⟨j + 1, by omega, by go_num, by rw [HN.out.1], by rw [HN.out.2], hBB.out⟩
          case measure => simp [intOf]; omega
      · have e : j = n + 1 := by omega
        subst e
        have HN : Hid (det (n + 1) (ent L) = s) := Lib.hid (by rw [det_terms, hs])
        clear hs hσ
        go_wp2_with fail
        go_ret
        exact ⟨ret_int HN.out.symm, hbr⟩
theorem sMatDet_yes (k c : Nat) (p : Option Addr) (L : List (List Int)) (w : World) (h : GRead w p L) (hk : L.length = k) (hm : matOk L = true) :
    Calls Try.prog 16 #[.slice p k c] w fun e w' => e = .returned (.tuple #[.int .i64 (det k (ent L)), .bool true]) ∧ Below w.heap.size w w' := by
  have hk5 : k ≤ 5 := by have := (matOk_true.1 hm).2.1; omega
  have c1 := fun w h => Lib.hid (sMatValid k c p L true w h hk (by omega) hm)
  have c2 := fun w h => Lib.hid (sDet k c p L w h (by rw [← hk]; exact matOk.sq hm) hk5 (by rw [← hk]; exact matOk.small hm))
  obtain ⟨D, hD⟩ : ∃ D, det k (ent L) = D := ⟨_, rfl⟩
  rw [hD] at c2 ⊢
  have H := Lib.hid h
  clear h hk hm hD
  go_enter Try.func16, Try.ntmps16
  go_wp2_with (first
    | (go_at_call 31; (with_reducible refine ((c1 _ ?_).out).mono ?_); (focus (exact H.out; done)); rintro e w' ⟨rfl, rfl⟩)
    | (go_at_call 46; (with_reducible refine ((c2 _ ?_).out).mono ?_); (focus (exact H.out; done)); rintro e w2 ⟨rfl, hb_w2⟩))
  refine bodyPost_ret (v := .tuple #[.int .i64 D, .bool true]) (by simp [results, Try.results16, go_sem]) rfl ⟨rfl, hb_w2⟩
theorem sMatDet_no (k c : Nat) (p : Option Addr) (L : List (List Int)) (w : World) (h : GRead w p L) (hk : L.length = k) (hl : k ≤ 4000000000000000000) (hm : matOk L = false) :
    Calls Try.prog 16 #[.slice p k c] w fun e w' => e = .returned (.tuple #[.int .i64 0, .bool false]) ∧ Below w.heap.size w w' := by
  have c1 := fun w h => Lib.hid (sMatValid k c p L false w h hk hl hm)
  have H := Lib.hid h
  clear h hk hm
  go_enter Try.func16, Try.ntmps16
  go_wp2_with (go_at_call 31; (with_reducible refine ((c1 _ ?_).out).mono ?_); (focus (exact H.out; done)); rintro e w' ⟨rfl, rfl⟩)
  refine bodyPost_ret (v := .tuple #[.int .i64 0, .bool false]) (by simp [results, Try.results16, go_sem]) rfl ⟨rfl, Below.refl _ _⟩
end Go.Proofs.Ythpfhbogpnhgmaa
