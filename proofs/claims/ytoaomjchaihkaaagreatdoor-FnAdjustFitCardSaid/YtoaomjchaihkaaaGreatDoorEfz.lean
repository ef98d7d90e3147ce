/-
  Determinants by the reference model where the numbers of each column have a bound of their own; how great the parts of adjusted heights can be.
  The reference model's adjusted heights.
-/
import Derived.Test.YtoaomjchaihkaaaGreatDoorZd
import Derived.Test.YtoaomjchaihkaaaGreatDoorZj
import Derived.Test.YtoaomjchaihkaaaGreatDoorEa
import Derived.Test.YtoaomjchaihkaaaGreatDoorEc
import Derived.Test.YtoaomjchaihkaaaGreatDoorQz
import Derived.Test.YtoaomjchaihkaaaGreatDoorZh
namespace Go.Proofs.YtoaomjchaihkaaaGreatDoor
open Go.RowKit
set_option linter.unusedVariables false

def prd : Nat → (Nat → Int) → Int
  | 0, _ => 1
  | n + 1, b => b 0 * prd n (fun k => b (k + 1))
theorem prd_congr : ∀ {n : Nat} {b b' : Nat → Int}, (∀ k, k < n → b k = b' k) → prd n b = prd n b'
  | 0, _, _, _ => rfl
  | n + 1, b, b', h => by simp only [prd]; rw [h 0 (by omega), prd_congr (fun k hk => h (k + 1) (by omega))]
theorem prd_pos : ∀ {n : Nat} {b : Nat → Int}, (∀ k, 1 ≤ b k) → 1 ≤ prd n b
  | 0, _, _ => by simp [prd]
  | n + 1, b, h => by
    simp only [prd]
    have h1 := h 0
    have h2 := prd_pos (n := n) (b := fun k => b (k + 1)) (fun k => h (k + 1))
    have := Int.mul_le_mul h1 h2 (by omega) (by omega)
    omega
theorem prd_skip : ∀ {n j : Nat} {b : Nat → Int}, j < n + 1 → b j * prd n (fun k => b (skip j k)) = prd (n + 1) b
  | n, 0, b, _ => by
    simp only [prd]
    congr 1
  | 0, j + 1, b, h => by omega
  | n + 1, j + 1, b, h => by
    have ih := prd_skip (n := n) (j := j) (b := fun k => b (k + 1)) (by omega)
    show b (j + 1) * (b (skip (j + 1) 0) * prd n (fun k => b (skip (j + 1) (k + 1)))) = b 0 * prd (n + 1) (fun k => b (k + 1))
    have e0 : skip (j + 1) 0 = 0 := by unfold skip; simp
    have e1 : prd n (fun k => b (skip (j + 1) (k + 1))) = prd n (fun k => b (skip j k + 1)) := prd_congr (fun k _ => by
      congr 1; unfold skip; split <;> split <;> omega)
    rw [e0, e1, ← ih, Int.mul_left_comm]
/-- each column has its own bound, and all together one -/
structure CoB (n : Nat) (b : Nat → Int) (a : Mx) : Prop where
  one : ∀ k, 1 ≤ b k
  ent : ∀ i k, i < n → k < n → -b k ≤ a i k ∧ a i k ≤ b k
  all : fct n * prd n b ≤ 4000000000000000000
theorem CoB.congr {n : Nat} {b : Nat → Int} {a a' : Mx} (h : CoB n b a) (he : ∀ i k, i < n → k < n → a' i k = a i k) : CoB n b a' := ⟨h.one, fun i k hi hk => by rw [he i k hi hk]; exact h.ent i k hi hk, h.all⟩
theorem CoB.det0 : ∀ {n : Nat} {b : Nat → Int} {a : Mx}, (∀ k, 1 ≤ b k) → (∀ i k, i < n → k < n → -b k ≤ a i k ∧ a i k ≤ b k) → -(fct n * prd n b) ≤ det n a ∧ det n a ≤ fct n * prd n b
  | 0, b, a, _, _ => by simp [det, fct, prd]
  | n + 1, b, a, h1, h2 => by
    have h : ∀ j, j < n + 1 → -(fct n * prd (n + 1) b) ≤ sgj j * a 0 j * det n (mnr a j) ∧ sgj j * a 0 j * det n (mnr a j) ≤ fct n * prd (n + 1) b := fun j hj => by
      have h4 := h2 0 j (by omega) hj
      have h3 := CoB.det0 (n := n) (b := fun k => b (skip j k)) (a := mnr a j) (fun k => h1 _) (fun i k hi hk => h2 (i + 1) (skip j k) (by omega) (skip_lt hk hj))
      have e : b j * (fct n * prd n (fun k => b (skip j k))) = fct n * prd (n + 1) b := by rw [Int.mul_left_comm, prd_skip hj]
      rw [← e]
      refine abs_mul ?_ h3
      unfold sgj
      split <;> omega
    have h4 := sm_abs h
    simp only [det, fct]
    rw [Int.mul_assoc]
    have e1 : ((n + 1 : Nat) : Int) = (n : Int) + 1 := by omega
    rw [e1] at h4
    exact h4
theorem CoB.det {n : Nat} {b : Nat → Int} {a : Mx} (h : CoB n b a) : -4000000000000000000 ≤ Go.Proofs.YtoaomjchaihkaaaGreatDoor.det n a ∧ Go.Proofs.YtoaomjchaihkaaaGreatDoor.det n a ≤ 4000000000000000000 := by
  have h1 := CoB.det0 h.one h.ent
  have := h.all
  omega
theorem CoB.term0 {n : Nat} {b : Nat → Int} {a : Mx} (h : CoB (n + 1) b a) : 0 ≤ fct n * prd (n + 1) b ∧ ((n + 1 : Nat) : Int) * (fct n * prd (n + 1) b) ≤ 4000000000000000000 ∧ fct n * prd (n + 1) b ≤ 4000000000000000000 := by
  have h1 := h.all
  have h2 : 0 ≤ fct n * prd (n + 1) b := Int.mul_nonneg (fct_pos n) (by have := prd_pos (n := n + 1) h.one; omega)
  simp only [fct] at h1
  rw [Int.mul_assoc] at h1
  have e1 : ((n + 1 : Nat) : Int) = (n : Int) + 1 := by omega
  rw [e1]
  refine ⟨h2, h1, ?_⟩
  have h3 : 0 ≤ (n : Int) * (fct n * prd (n + 1) b) := Int.mul_nonneg (by omega) h2
  rw [Int.add_mul, Int.one_mul] at h1
  omega
theorem CoB.ent0 {n j : Nat} {b : Nat → Int} {a : Mx} (h : CoB (n + 1) b a) (h0 : 0 < n + 1) (hj : j < n + 1) : -4000000000000000000 ≤ a 0 j ∧ a 0 j ≤ 4000000000000000000 := by
  have h1 := h.ent 0 j h0 hj
  have h2 := prd_skip (b := b) hj
  have h3 := prd_pos (n := n) (b := fun k => b (skip j k)) (fun k => h.one _)
  have h4 : b j * 1 ≤ b j * prd n (fun k => b (skip j k)) := Int.mul_le_mul_of_nonneg_left h3 (by have := h.one j; omega)
  have h6 : 1 ≤ fct n := by
    clear h h1 h2 h3 h4 h0 hj
    induction n with
    | zero => simp [fct]
    | succ n ih => simp only [fct]; have := Int.mul_le_mul (a := 1) (b := 1) (c := (n : Int) + 1) (d := fct n) (by omega) ih (by omega) (by omega); omega
  have h7 : 1 * prd (n + 1) b ≤ fct n * prd (n + 1) b := Int.mul_le_mul_of_nonneg_right h6 (by have := prd_pos (n := n + 1) h.one; omega)
  have h8 := h.term0.2.2
  omega
theorem CoB.mnr {n j : Nat} {b : Nat → Int} {a : Mx} (h : CoB (n + 1) b a) (hj : j < n + 1) : CoB n (fun k => b (skip j k)) (Go.Proofs.YtoaomjchaihkaaaGreatDoor.mnr a j) := by
  refine ⟨fun k => h.one _, fun i k hi hk => h.ent (i + 1) (skip j k) (by omega) (skip_lt hk hj), ?_⟩
  have h2 := prd_skip (b := b) hj
  have h5 : 0 ≤ fct n * prd n (fun k => b (skip j k)) := Int.mul_nonneg (fct_pos n) (by have := prd_pos (n := n) (b := fun k => b (skip j k)) (fun k => h.one _); omega)
  have h4 : 1 * (fct n * prd n (fun k => b (skip j k))) ≤ b j * (fct n * prd n (fun k => b (skip j k))) := Int.mul_le_mul_of_nonneg_right (h.one j) h5
  rw [Int.mul_left_comm (b j), h2, Int.one_mul] at h4
  have h8 := h.term0.2.2
  omega
theorem CoB.dterm {n j : Nat} {b : Nat → Int} {a : Mx} (h : CoB (n + 1) b a) (hj : j < n + 1) : -(fct n * prd (n + 1) b) ≤ Go.Proofs.YtoaomjchaihkaaaGreatDoor.dterm n a j ∧ Go.Proofs.YtoaomjchaihkaaaGreatDoor.dterm n a j ≤ fct n * prd (n + 1) b := by
  have h4 := h.ent 0 j (by omega) hj
  have hm := h.mnr hj
  have h3 := CoB.det0 hm.one hm.ent
  have e : b j * (fct n * prd n (fun k => b (skip j k))) = fct n * prd (n + 1) b := by rw [Int.mul_left_comm, prd_skip hj]
  rw [← e]
  unfold Go.Proofs.YtoaomjchaihkaaaGreatDoor.dterm
  refine abs_mul ?_ h3
  unfold sgj
  split <;> omega
theorem CoB.part {n j : Nat} {b : Nat → Int} {a : Mx} (h : CoB (n + 1) b a) (hj : j ≤ n + 1) : -4000000000000000000 ≤ smn j (Go.Proofs.YtoaomjchaihkaaaGreatDoor.dterm n a) ∧ smn j (Go.Proofs.YtoaomjchaihkaaaGreatDoor.dterm n a) ≤ 4000000000000000000 := by
  have h1 := sm_abs (n := j) (f := Go.Proofs.YtoaomjchaihkaaaGreatDoor.dterm n a) (fun i hi => h.dterm (by omega))
  have h2 := h.term0
  have h3 : (j : Int) * (fct n * prd (n + 1) b) ≤ ((n + 1 : Nat) : Int) * (fct n * prd (n + 1) b) := Int.mul_le_mul_of_nonneg_right (by omega) h2.1
  omega
set_option maxHeartbeats 4000000 in
set_option maxRecDepth 100000 in
theorem sDetB : ∀ (n c : Nat) (p : Option Addr) (L : List (List Int)) (b : Nat → Int) (w : World), GRead w p L → Sq n L → n ≤ 5 → CoB n b (ent L) →
    Calls Tryz.prog 80 #[.slice p n c] w fun e w' => e = .returned (.int .i64 (det n (ent L))) ∧ Below w.heap.size w w'
  | 0, c, p, L, b, w, _, _, _, _ => by
    go_enter Tryz.func80, Tryz.ntmps80
    go_wp2_with fail
    go_ret
    exact ⟨rfl, Below.refl _ _⟩
  | n + 1, c, p, L, b, w, h, hs, h5, hm => by
    have ih := fun c p L b w h hs hm => Lib.hid (sDetB n c p L b w h hs (by omega) hm)
    have hM0 := hm.term0
    obtain ⟨M, hM⟩ : ∃ M, fct n * prd (n + 1) b = M := ⟨_, rfl⟩
    rw [hM] at hM0
    have H := Lib.hid (And.intro h (And.intro hs hm))
    have hn5 : n ≤ 4 := by omega
    have hn0 : ((n : Int) + 1 == 0) = false := by
      have : ¬ ((n : Int) + 1 = 0) := by omega
      simpa using this
    clear h hs hm
    go_enter Tryz.func80, Tryz.ntmps80
    go_wp2_with fail
    go_loopw [3, 4, 5] (fun s g i wr => ∃ j : Nat, j ≤ n + 1 ∧ i = .int .i64 j ∧ s = .int .i64 (smn j (dterm n (ent L))) ∧ g = .int .i64 (sgj j) ∧ Below w.heap.size w wr) (fun _ _ i _ => n + 1 - (intOf i).toNat)
    case atStart => exact ⟨0, Nat.zero_le _, rfl, rfl, rfl, Below.refl _ _⟩
    case round =>
      obtain ⟨j, hj, rfl, rfl, rfl, hbr⟩ := hrel
      have hbs := hbr.size
      have hsb := sm_abs (n := j) (f := dterm n (ent L)) (c := M) (fun i hi => by rw [← hM]; exact H.out.2.2.dterm (by omega))
      have hjM : (j : Int) * M ≤ ((n + 1 : Nat) : Int) * M := Int.mul_le_mul_of_nonneg_right (by omega) hM0.1
      obtain ⟨s, hs⟩ : ∃ s, smn j (dterm n (ent L)) = s := ⟨_, rfl⟩
      obtain ⟨σ, hσ⟩ : ∃ σ, sgj j = σ := ⟨_, rfl⟩
      have hσb : -1 ≤ σ ∧ σ ≤ 1 := by rw [← hσ]; unfold sgj; split <;> omega
      rw [hs] at hsb ⊢
      rw [hσ]
      have hsb2 : -4000000000000000000 ≤ s ∧ s ≤ 4000000000000000000 := by omega
      obtain ⟨s0, s1⟩ := hsb2
      obtain ⟨σ0, σ1⟩ := hσb
      clear hsb
      by_cases hlt : j < n + 1
      · obtain ⟨B, o, r, q, cq, rfl, hr, hB, e0, hcq, hi⟩ := (H.out.1.below hbr).at (i := 0) (by rw [H.out.2.1.1]; omega)
        have hrl : r.length = n + 1 := H.out.2.1.2 r (List.mem_of_getElem? hr)
        rw [hrl] at e0 hcq
        obtain ⟨A, oA, z, rfl, hz, hA, e1⟩ := hi.at (i := j) (by rw [hrl]; exact hlt)
        have hze : ent L 0 j = z := by unfold ent; rw [rowL_at hr, num_at hz]
        have hzb := H.out.2.2.ent0 (by omega) hlt
        rw [hze] at hzb
        obtain ⟨z0, z1⟩ := hzb
        have hlt' : (j : Int) < (n : Int) + 1 := by omega
        rw [Nat.add_zero] at e0
        have hsm : CoB n (fun k => b (skip j k)) (mnr (ent L) j) := H.out.2.2.mnr hlt
        obtain ⟨D, hD⟩ : ∃ D, det n (mnr (ent L) j) = D := ⟨_, rfl⟩
        have hDb := hsm.det
        rw [hD] at hDb
        have hT : dterm n (ent L) j = σ * z * D := by unfold dterm; rw [hσ, hze, hD]
        have hTb := H.out.2.2.dterm hlt
        rw [hT, hM] at hTb
        have hTb : -4000000000000000000 ≤ σ * z * D ∧ σ * z * D ≤ 4000000000000000000 := by omega
        have hNb := H.out.2.2.part (j := j + 1) (by omega)
        have hNe : smn (j + 1) (dterm n (ent L)) = s + σ * z * D := by simp only [smn]; rw [hs, hT]
        rw [hNe] at hNb
        obtain ⟨N0, N1⟩ := hNb
        have hPb : -4000000000000000000 ≤ σ * z ∧ σ * z ≤ 4000000000000000000 := by
          have := abs_mul (x := 1) (y := 4000000000000000000) ⟨σ0, σ1⟩ ⟨z0, z1⟩; omega
        by_cases hz0 : z = 0
        · subst hz0
          have HN : Hid (smn (j + 1) (dterm n (ent L)) = s ∧ sgj (j + 1) = -σ) := Lib.hid ⟨by simp only [smn]; rw [hs, hT]; simp, by rw [sg_succ, hσ]⟩
          clear hs hσ hr hrl hz hze hsm hD hDb hT hTb hPb hi hNe N0 N1 hM
          go_wp2_with fail
          go_roundw
          case rel => exact ⟨j + 1, by omega, by go_num, by rw [HN.out.1], by rw [HN.out.2], hbr⟩
          case measure => simp [intOf]; omega
        · have HN : Hid (smn (j + 1) (dterm n (ent L)) = s + σ * z * D ∧ sgj (j + 1) = -σ) := Lib.hid ⟨by simp only [smn]; rw [hs, hT], by rw [sg_succ, hσ]⟩
          have c1 := fun w h => Lib.hid (sWithout n c j (some ⟨B, o, none⟩) L w h H.out.2.1 h5 hlt)
          have c2 := fun c p w h => Lib.hid (ih c p (cutL L j) (fun k => b (skip j k)) w h (cut_sq H.out.2.1 hlt) (hsm.congr (fun i k hi hk => by rw [ent_cut H.out.2.1 hlt hi]))).out
          have e3 : det n (ent (cutL L j)) = D := by rw [det_cut H.out.2.1 hlt, hD]
          rw [e3] at c2
          have HGr := Lib.hid (H.out.1.below hbr)
          have hz0' : (z == 0) = false := by simpa using hz0
          obtain ⟨D0, D1⟩ := hDb
          obtain ⟨T0, T1⟩ := hTb
          obtain ⟨P0, P1⟩ := hPb
          clear hs hσ hr hrl hz hze hsm hD hT hi e3 ih hNe hM hM0 hjM
          go_wp2_with fail
          go_region_held3 (fun W => W.cell? ⟨B, o, none⟩ = some (.slice (some ⟨A, oA, none⟩) (n + 1) cq) ∧ W.cell? ⟨A, oA + j, none⟩ = some (.int .i64 z)) (first | (go_keep; done) | (go_split_ands; refine ⟨?_, ?_⟩ <;> (repeat (first | with_reducible assumption | (with_reducible refine cell_below_keep (by with_reducible assumption) ?_) | (with_reducible refine cell_drew_keep ?_)))))
            (first
              | (go_at_call 113; (with_reducible refine ((c1 _ ?_).out).mono ?_); (focus (exact HGr.out; done)); rintro e w2 ⟨g2, d2, rfl, hg2, hb_w2⟩; have HG2 := Lib.hid hg2; clear hg2)
              | (go_at_call 80; (with_reducible refine ((c2 _ _ _ ?_).out).mono ?_); (focus (exact HG2.out; done)); rintro e w3 ⟨rfl, hb_w3⟩))
          have q1 : IntKind.i64.wrap (σ * z) = σ * z := by rw [IntKind.wrap_i64]; omega
          have q2 : IntKind.i64.wrap (σ * z * D) = σ * z * D := by rw [IntKind.wrap_i64]; omega
          have q3 : IntKind.i64.wrap (s + σ * z * D) = s + σ * z * D := by rw [IntKind.wrap_i64]; omega
          rw [q1, q2, q3]
          clear q1 q2 q3
          have hBB := Lib.hid ((below_drew hbr).trans ((hb_w2.trans (hb_w3.mono hb_w2.size)).mono hbs))
          obtain ⟨y, hy⟩ : ∃ y, s + σ * z * D = y := ⟨_, rfl⟩
          rw [hy] at HN ⊢
          clear hy T0 T1 P0 P1 N0 N1
          go_wp2_with fail
          go_roundw
          case rel => exact ⟨j + 1, by omega, by go_num, by rw [HN.out.1], by rw [HN.out.2], hBB.out⟩
          case measure => simp [intOf]; omega
      · have e : j = n + 1 := by omega
        subst e
        have HN : Hid (det (n + 1) (ent L) = s) := Lib.hid (by rw [det_terms, hs])
        clear hs hσ
        go_wp2_with fail
        go_ret
        exact ⟨ret_int HN.out.symm, hbr⟩
end Go.Proofs.YtoaomjchaihkaaaGreatDoor
namespace Go.Proofs.YtoaomjchaihkaaaGreatDoor
open Go.RowKit
set_option linter.unusedVariables false

theorem info_quo : (Tryz.prog.info? 36).map (fun i => (i.zero, i.size, i.bytes)) = some (some (.agg #[.int .i64 0, .int .i64 0]), 2, 16) := by kernel_rfl
theorem prd_put (n c : Nat) (hn : n ≤ 5) (hc : c < n) : fct n * prd n (fun k => if k = c then 10800000 else 108) ≤ 200000000000000000 := by
  have h1 : n = 0 ∨ n = 1 ∨ n = 2 ∨ n = 3 ∨ n = 4 ∨ n = 5 := by omega
  have h2 : c = 0 ∨ c = 1 ∨ c = 2 ∨ c = 3 ∨ c = 4 := by omega
  rcases h1 with rfl | rfl | rfl | rfl | rfl | rfl <;> rcases h2 with rfl | rfl | rfl | rfl | rfl <;> first | omega | simp [fct, prd]
theorem put_cob {N n c : Nat} {rs : List Rn} (hn : nOk (N : Int) rs = true) (hn5 : n ≤ 5) (hc : c < n) : CoB n (fun k => if k = c then 10800000 else 108) (upc (lap0 rs) c (fun i => srcs rs (i + 1))) := by
  refine ⟨fun k => by split <;> omega, fun i k hi hk => ?_, by have := prd_put n c hn5 hc; omega⟩
  by_cases e : k = c
  · subst e
    rw [upd_at]
    simp only [if_true]
    exact srcs_low (rs := rs) (ok_runs hn) (nOk_true hn).2.2.1 (i + 1)
  · rw [upd_ne e]
    simp only [if_neg e]
    exact lap_low (rs := rs) (fun r hr => ⟨(ok_runs hn r hr).1, (ok_runs hn r hr).2.1, (ok_runs hn r hr).2.2.1⟩) (nOk_true hn).2.2.1 (i + 1) (k + 1)
theorem nT_low {N n c : Nat} {rs : List Rn} (hn : nOk (N : Int) rs = true) (hn5 : n ≤ 5) (hc : c < n) : -200000000000000000 ≤ nT n rs c ∧ nT n rs c ≤ 200000000000000000 := by
  have h := put_cob hn hn5 hc
  have h1 := CoB.det0 h.one h.ent
  have h2 := prd_put n c hn5 hc
  unfold nT
  omega
theorem dT_low {N n : Nat} {rs : List Rn} (hn : nOk (N : Int) rs = true) (hn5 : n ≤ 5) : -2000000000000 ≤ dT n rs ∧ dT n rs ≤ 2000000000000 :=
  lap_det_low hn5 (fun r hr => ⟨(ok_runs hn r hr).1, (ok_runs hn r hr).2.1, (ok_runs hn r hr).2.2.1⟩) (nOk_true hn).2.2.1
theorem hT_low {N n j : Nat} {rs : List Rn} (hn : nOk (N : Int) rs = true) (hn5 : n ≤ 5) (hj : j < n + 1) : -200000000000000000 ≤ hT n rs j ∧ hT n rs j ≤ 200000000000000000 := by
  match j, hj with
  | 0, _ => simp [hT]
  | j + 1, hj => exact nT_low hn hn5 (by omega)
/-- a net that is whole has trees -/
theorem dT_pos {n : Nat} {rs : List Rn} (hw : nWhole ((n + 1 : Nat) : Int) rs = true) (hn : nOk ((n + 1 : Nat) : Int) rs = true) : 0 < dT n rs := by
  unfold dT
  rw [← heavy_det hn]
  have h1 := many_whole.2 hw
  have h2 := heavy_ge hn
  omega
/-- the adjusted heights of the first nodes -/
def hqs (n : Nat) (rs : List Rn) (j : Nat) : List (Int × Int) := (List.range j).map (fun i => (Quo.T (hT n rs i) (dT n rs), Quo.L (hT n rs i) (dT n rs)))
def flq : List (Int × Int) → List Int
  | [] => []
  | x :: xs => x.1 :: x.2 :: flq xs
theorem flq_len : ∀ xs : List (Int × Int), (flq xs).length = xs.length * 2
  | [] => rfl
  | x :: xs => by simp [flq, flq_len xs]; omega
theorem flq_append : ∀ xs ys : List (Int × Int), flq (xs ++ ys) = flq xs ++ flq ys
  | [], _ => rfl
  | x :: xs, ys => by simp [flq, flq_append xs ys]
theorem flq_at : ∀ {xs : List (Int × Int)} {i : Nat} {x : Int × Int}, xs[i]? = some x → (flq xs)[i * 2]? = some x.1 ∧ (flq xs)[i * 2 + 1]? = some x.2
  | [], i, x, h => by simp at h
  | a :: xs, 0, x, h => by simp at h; subst h; simp [flq]
  | a :: xs, i + 1, x, h => by
    have := flq_at (xs := xs) (i := i) (x := x) (by simpa using h)
    simp only [flq, show (i + 1) * 2 = i * 2 + 2 by omega]
    simpa [show i * 2 + 2 = i * 2 + 1 + 1 from rfl, show i * 2 + 2 + 1 = i * 2 + 1 + 1 + 1 from rfl] using this
theorem hqs_len (n : Nat) (rs : List Rn) (j : Nat) : (hqs n rs j).length = j := by simp [hqs]
theorem hqs_at {n j i : Nat} {rs : List Rn} (h : i < j) : (hqs n rs j)[i]? = some (Quo.T (hT n rs i) (dT n rs), Quo.L (hT n rs i) (dT n rs)) := by
  unfold hqs; rw [List.getElem?_map, List.getElem?_range h]; rfl
theorem hqs_succ (n : Nat) (rs : List Rn) (j : Nat) : hqs n rs (j + 1) = hqs n rs j ++ [(Quo.T (hT n rs j) (dT n rs), Quo.L (hT n rs j) (dT n rs))] := by
  unfold hqs; rw [List.range_succ, List.map_append]; rfl
/-- all adjusted heights are valid quotients -/
def okH (n : Nat) (rs : List Rn) : Bool := (List.range (n + 1)).all (fun j => Quo.qO (hT n rs j) (dT n rs))
theorem okH_true {n : Nat} {rs : List Rn} : okH n rs = true ↔ ∀ j, j < n + 1 → Quo.qO (hT n rs j) (dT n rs) = true := by
  unfold okH; simp [List.all_eq_true]
theorem okH_false {n j : Nat} {rs : List Rn} (hj : j < n + 1) (h : Quo.qO (hT n rs j) (dT n rs) = false) : okH n rs = false := by
  rw [Bool.eq_false_iff]; intro h1
  have := okH_true.1 h1 j hj
  rw [h] at this; cases this
theorem two_new (w : World) (a b : Int) (T : TypeId) : ∀ (j : Nat) (z : Int), [a, b][j]? = some z → (w.alloc (.cells #[.int .i64 a, .int .i64 b] T)).cell? ((⟨w.heap.size, 0, none⟩ : Addr).add j) = some (.int .i64 z) := by
  intro j z h
  rw [add_flat]
  match j, h with
  | 0, h => simp at h; subst h; simp [go_sem]
  | 1, h => simp at h; subst h; simp [go_sem]
  | j + 2, h => simp at h
theorem own_tailE {w : World} {g N : Nat} {L zs : List Int} (h : Own w g 3 1 N N L) (e : L.drop 1 = zs) : Ints w (some ⟨g, 1, none⟩) zs := by
  subst e
  refine .inr ⟨g, 1, rfl, h.lt, fun i z hi => ?_⟩
  rw [List.getElem?_drop] at hi
  exact h.cells hi
theorem drop_rgLE (n : Nat) (f : Nat → Int) : (rgL (n + 1) f).drop 1 = rgL n (fun i => f (i + 1)) := by
  refine List.ext_getElem? (fun i => ?_)
  rw [List.getElem?_drop]
  by_cases h : i < n
  · rw [rgL_at _ h, Nat.add_comm 1 i, rgL_at _ (by omega)]
  · rw [List.getElem?_eq_none (by rw [rgL_len]; omega), List.getElem?_eq_none (by rw [rgL_len]; omega)]
theorem det_put {n j : Nat} {rs : List Rn} (hj : j < n) : det n (ent (putL n (mkL n (lap0 rs)) j (rgL n (fun i => srcs rs (i + 1))))) = hT n rs (j + 1) := by
  show _ = nT n rs j
  unfold nT putL
  refine det_congr (fun i k hi hk => ?_)
  rw [ent_mkL hi hk]
  by_cases e : k = j
  · subst e; rw [upd_at, upd_at, num_at (rgL_at _ hi)]
  · rw [upd_ne e, upd_ne e, ent_mkL hi hk]
theorem sPutDet {N n j c : Nat} {p : Option Addr} {rs : List Rn} (w : World) (hn : nOk (N : Int) rs = true) (hn5 : n ≤ 5) (hj : j < n) (h : GRead w p (putL n (mkL n (lap0 rs)) j (rgL n (fun i => srcs rs (i + 1))))) :
    Calls Tryz.prog 80 #[.slice p n c] w fun e w' => e = .returned (.int .i64 (nT n rs j)) ∧ Below w.heap.size w w' := by
  have h1 := sDetB n c p _ _ w h mkL_sq hn5 ((put_cob hn hn5 hj).congr (fun i k hi hk => by
    unfold putL
    rw [ent_mkL hi hk]
    by_cases e : k = j
    · subst e
      rw [upd_at, upd_at, num_at (rgL_at _ hi)]
    · rw [upd_ne e, upd_ne e, ent_mkL hi hk]))
  rw [det_put hj] at h1
  exact h1
theorem hqs_one {n : Nat} {rs : List Rn} (hD : dT n rs ≠ 0) : flq (hqs n rs 1) = [0, 1] := by
  have := Quo.T_zero hD
  show [Quo.T (hT n rs 0) (dT n rs), Quo.L (hT n rs 0) (dT n rs)] = _
  show [Quo.T 0 (dT n rs), Quo.L 0 (dT n rs)] = _
  rw [this.1, this.2]
set_option maxHeartbeats 8000000 in
set_option maxRecDepth 100000 in
theorem sL23 (N n : Nat) (p : Option Addr) (c m : Nat) (rs : List Rn) (w : World) (h : Runs w p rs) (hw : nWhole (N : Int) rs = true) (hn : nOk (N : Int) rs = true) (hm : rs.length = m) (hNn : N = n + 1) :
    Calls Tryz.prog 38 #[.int .i64 N, .slice p m c] w fun e w' => ((okH n rs = true ∧ ∃ g cap, e = .returned (.tuple #[.slice (some ⟨g, 0, none⟩) N cap, .bool true]) ∧ w.heap.size ≤ g ∧ Own w' g 36 2 N cap (flq (hqs n rs N))) ∨ (okH n rs = false ∧ ∃ q, e = .returned (.tuple #[.slice q 0 0, .bool false]))) ∧ Below w.heap.size w w' := by
  have hn5 : n ≤ 5 := by have := (nOk_true hn).2.1; omega
  have hn1 : 1 ≤ n := by have := (nOk_true hn).1; omega
  have hD0 : 0 < dT n rs := dT_pos (by rw [← hNn]; exact hw) (by rw [← hNn]; exact hn)
  have hDb := dT_low hn hn5
  have hNT := fun j (hj : j < n) => nT_low hn hn5 hj
  have hcb := fun j (hj : j < n) => put_cob hn hn5 hj
  have hsq : Sq n (mkL n (lap0 rs)) := mkL_sq
  have hd : Hid ((rgL N (srcs rs)).drop 1 = rgL n (fun i => srcs rs (i + 1))) := Lib.hid (by rw [hNn]; exact drop_rgLE n (srcs rs))
  have hsm := lap0_small n (fun r hr => ⟨(ok_runs hn r hr).1, (ok_runs hn r hr).2.1, (ok_runs hn r hr).2.2.1⟩) (nOk_true hn).2.2.1
  have c1 := fun w h => Lib.hid (sMatrix_yes N n p c m rs w h hn hm hNn)
  have c2 := fun w h => Lib.hid (sSource_yes N p c m rs w h hn hm)
  rw [show N - 1 = n by omega] at c2
  have c3 := fun c p w h => Lib.hid (by have := sDet n c p (mkL n (lap0 rs)) w h hsq hn5 (fun i k hi hk => by rw [ent_mkL hi hk]; exact hsm i k hi hk); rw [det_congr (b := lap0 rs) (fun i k hi hk => ent_mkL hi hk)] at this; exact this)
  have c4 := fun j (hj : j < n) c d p q w h hq => Lib.hid (sPut n c d j p q (mkL n (lap0 rs)) (rgL n (fun i => srcs rs (i + 1))) w h hq hsq (rgL_len _ _) hn5 hj)
  have c5 := fun j (hj : j < n) c p w h => Lib.hid (sPutDet (c := c) (p := p) w hn hn5 hj h)
  have hh1 := hqs_one (n := n) (rs := rs) (by omega)
  obtain ⟨D, hD⟩ : ∃ D, dT n rs = D := ⟨_, rfl⟩
  have c3 := fun c p w h => Lib.hid (show Calls Tryz.prog 80 #[.slice p n c] w fun e w' => e = .returned (.int .i64 D) ∧ Below w.heap.size w w' from by rw [← hD]; exact (c3 c p w h).out)
  rw [hD] at hD0 hDb
  obtain ⟨D1, D2⟩ := hDb
  have hNi : (N : Int) - 1 = (n : Int) := by omega
  have H := Lib.hid (And.intro h (And.intro hNT hD))
  have HH1 := Lib.hid hh1
  have HNn := Lib.hid hNn
  have hN6 : N ≤ 6 := by omega
  clear h hw hn hm hNn hcb hsq hsm hNT hh1 hD
  go_enter Tryz.func38, Tryz.ntmps38
  go_upto_region 5 with (first
    | ((go_at_call 78; (with_reducible refine ((c1 _ ?_).out).mono ?_); (focus ((exact H.out.1); done)); rintro e wa ⟨ga, ca, ba, rfl, oa, hb_wa⟩; have hs_wa := hb_wa.size; (try simp at hs_wa)); have OA := Lib.hid oa; clear oa)
    | ((go_at_call 79; (with_reducible refine ((c2 _ ?_).out).mono ?_); (focus ((exact H.out.1.below hb_wa); done)); rintro e wb ⟨gb, rfl, hgb, ob, hb_wb⟩; have hs_wb := hb_wb.size; (try simp at hs_wb)); have OB := Lib.hid ob; clear ob)
    | (go_at_call 80; (with_reducible refine ((c3 _ _ _ ?_).out).mono ?_); (focus ((exact (OA.out.read.below hb_wb)); done)); rintro e wc ⟨rfl, hb_wc⟩; have hs_wc := hb_wc.size; (try simp at hs_wc)))
  have hBc : Below w.heap.size w wc := (by repeat (first | assumption | exact Below.refl _ _ | (refine below_chain ?_ (by assumption) (by first | omega | (simp <;> omega) | simp)) | (refine Below.alloc ?_ (by first | omega | (simp <;> omega) | simp) _) | (apply below_drewN) | (apply below_drew) | (refine Below.setCell ?_ (by first | omega | (simp <;> omega) | simp) _)))
  have hsc := hBc.size
  have OAc := Lib.hid (OA.out.below (hb_wb.trans (hb_wc.mono hs_wb)))
  have OBc := Lib.hid (OB.out.below hb_wc)
  have HBc := Lib.hid hBc
  have HO1 : Hid (Own (wc.alloc (.cells #[.int .i64 0, .int .i64 1] 36)) wc.heap.size 36 2 1 1 (flq (hqs n rs (0 + 1)))) := Lib.hid (by
    rw [HH1.out]
    exact .of (Deep.blk_alloc_new _ _) (Nat.le_refl _) (by decide) rfl rfl rfl)
  clear OA OB hb_wa hb_wb hb_wc hBc c1 c2 c3
  go_wp2_with fail
  go_loopw [11, 12] (fun v i wr => ∃ (j g cap : Nat), j ≤ n ∧ i = .int .i64 j ∧ v = .slice (some ⟨g, 0, none⟩) (j + 1) cap ∧ wc.heap.size ≤ g ∧ Own wr g 36 2 (j + 1) cap (flq (hqs n rs (j + 1))) ∧ (∀ i, i < j + 1 → Quo.qO (hT n rs i) (dT n rs) = true) ∧ Below wc.heap.size wc wr) (fun _ i _ => n - (intOf i).toNat)
  case atStart => exact ⟨0, _, 1, Nat.zero_le _, rfl, rfl, Nat.le_refl _, HO1.out, fun i hi => by
    have e : i = 0 := by omega
    subst e
    have hD := H.out.2.2
    exact Quo.Val.ok (t := 0) (l := 1) ⟨Quo.qv_whole (by omega) (by omega), by omega, by simp [hT]⟩, (Below.refl _ _).alloc (Nat.le_refl _) _⟩
  case round =>
    clear HO1
    rename World => wr
    obtain ⟨j, g, cap, hj, rfl, rfl, hg, ho, hall, hbr⟩ := hrel
    have hbs := hbr.size
    have hlo := ho.lt
    have HB := Lib.hid hbr
    have HO := Lib.hid (And.intro ho hall)
    by_cases hlt : j < n
    · have hlt' : (j : Int) < (n : Int) := by omega
      have c4j := fun c d p q w h hq => Lib.hid (c4 j hlt c d p q w h hq).out
      have c5j := fun c p w h => Lib.hid (c5 j hlt c p w h).out
      obtain ⟨z, hz⟩ : ∃ z, nT n rs j = z := ⟨_, rfl⟩
      have hzb := H.out.2.1 j hlt
      rw [hz] at hzb
      obtain ⟨z1, z2⟩ := hzb
      have hDe := H.out.2.2
      have hok := Quo.of_is (N := z) (D := D) (by omega) (by omega) (by omega)
      have hT1 : hT n rs (j + 1) = z := hz
      have c5j := fun c p w h => Lib.hid (show Calls Tryz.prog 80 #[.slice p n c] w fun e w' => e = .returned (.int .i64 z) ∧ Below w.heap.size w w' from by rw [← hz]; exact (c5j c p w h).out)
      cases hq : Quo.qO z D
      · have hF : Hid (okH n rs = false) := Lib.hid (okH_false (j := j + 1) (by omega) (by rw [hT1, hDe]; exact hq))
        have c6 := fun w => Lib.hid (by have := sof_any z D w; rw [hok.1, hq] at this; exact this)
        clear ho hall hbr hz hok hT1 hq hDe
        go_wp2_with (first
          | ((go_at_call 82; (with_reducible refine ((c4j _ _ _ _ _ ?_ ?_).out).mono ?_); (focus ((exact OAc.out.read.below HB.out); done)); (focus ((exact own_tailE (OBc.out.below HB.out) hd.out); done)); rintro e wp ⟨gp, dp, rfl, op, hb_wp⟩; have hs_wp := hb_wp.size; (try simp at hs_wp)); have OP := Lib.hid op; clear op)
          | (go_at_call 80; (with_reducible refine ((c5j _ _ _ ?_).out).mono ?_); (focus ((exact OP.out); done)); rintro e wq ⟨rfl, hb_wq⟩; have hs_wq := hb_wq.size; (try simp at hs_wq))
          | (go_at_call 81; (with_reducible refine ((c6 _).out).mono ?_); rintro e wx ⟨rfl, hb_wx⟩; have hs_wx := hb_wx.size; (try simp at hs_wx)))
        have hB := HB.out.trans ((show Below wr.heap.size wr wx from (by repeat (first | assumption | exact Below.refl _ _ | (refine below_chain ?_ (by assumption) (by first | omega | (simp <;> omega) | simp)) | (refine Below.alloc ?_ (by first | omega | (simp <;> omega) | simp) _) | (apply below_drewN) | (apply below_drew) | (refine Below.setCell ?_ (by first | omega | (simp <;> omega) | simp) _)))).mono hbs)
        refine bodyPost_ret (v := .tuple #[.slice (some ⟨wx.heap.size + 1, 0, none⟩) 0 0, .bool false]) (by simp [results, Tryz.results38, go_sem]) rfl ⟨.inr ⟨hF.out, _, rfl⟩, HBc.out.trans (((hB.alloc (by have := hB.size; omega) _).alloc (by have := hB.size; simp; omega) _).mono hsc)⟩
      · have hv := hok.2 hq
        obtain ⟨a, ha⟩ : ∃ a, Quo.T z D = a := ⟨_, rfl⟩
        obtain ⟨b, hb⟩ : ∃ b, Quo.L z D = b := ⟨_, rfl⟩
        rw [ha, hb] at hv
        have c6 := fun w => Lib.hid (by have := sof_any z D w; rw [hok.1, hq, hv.1, hv.2] at this; exact this)
        have hall2 : ∀ i, i < j + 1 + 1 → Quo.qO (hT n rs i) (dT n rs) = true := fun i hi => by
          by_cases e : i < j + 1
          · exact hall i e
          · obtain rfl : i = j + 1 := by omega
            rw [hT1, hDe]; exact hq
        have hfl : flq (hqs n rs (j + 1 + 1)) = flq (hqs n rs (j + 1)) ++ [a, b] := by
          rw [hqs_succ, flq_append, hT1, hDe, ha, hb]; rfl
        have HX := Lib.hid (And.intro hall2 hfl)
        clear ho hall hbr hz hok hT1 hq hDe hall2 hfl hv ha hb
        go_wp2_with (first
          | ((go_at_call 82; (with_reducible refine ((c4j _ _ _ _ _ ?_ ?_).out).mono ?_); (focus ((exact OAc.out.read.below HB.out); done)); (focus ((exact own_tailE (OBc.out.below HB.out) hd.out); done)); rintro e wp ⟨gp, dp, rfl, op, hb_wp⟩; have hs_wp := hb_wp.size; (try simp at hs_wp)); have OP := Lib.hid op; clear op)
          | (go_at_call 80; (with_reducible refine ((c5j _ _ _ ?_).out).mono ?_); (focus ((exact OP.out); done)); rintro e wq ⟨rfl, hb_wq⟩; have hs_wq := hb_wq.size; (try simp at hs_wq))
          | ((go_at_call 81; (with_reducible refine ((c6 _).out).mono ?_); rintro e wx ⟨rfl, hb_wx⟩; have hs_wx := hb_wx.size; (try simp at hs_wx)); have OW := Lib.hid (And.intro (HO.out.1.below (w' := wx) (by repeat (first | assumption | exact Below.refl _ _ | (refine below_chain ?_ (by assumption) (by first | omega | (simp <;> omega) | simp)) | (refine Below.alloc ?_ (by first | omega | (simp <;> omega) | simp) _) | (apply below_drewN) | (apply below_drew) | (refine Below.setCell ?_ (by first | omega | (simp <;> omega) | simp) _)))) (show Below wr.heap.size wr wx from (by repeat (first | assumption | exact Below.refl _ _ | (refine below_chain ?_ (by assumption) (by first | omega | (simp <;> omega) | simp)) | (refine Below.alloc ?_ (by first | omega | (simp <;> omega) | simp) _) | (apply below_drewN) | (apply below_drew) | (refine Below.setCell ?_ (by first | omega | (simp <;> omega) | simp) _))))))
          | (at_builtin; refine wp_append _ rfl _ _ 26 rfl 36 _ 2 16 Tryz.underlying26 info_quo rfl (by decide) (by decide) g (j + 1) cap _ rfl ((OW.out.1.alloc _).alloc _) _ 1 1 [a, b] rfl rfl (by have := two_new (wx.alloc (.cells #[.int .i64 a, .int .i64 b] 36)) a b 36; simpa using this) (by omega) ?_; intro g2 d2 w2 hown2 hg2 hloc2 hsz2; have HN := Lib.hid (And.intro hown2 (And.intro hg2 hloc2)); clear hown2 hg2 hloc2))
        obtain ⟨hown, hg2, hloc⟩ := HN.out
        have hxs := OW.out.2.size
        have hgl : wc.heap.size ≤ g2 := by
          rcases hloc with e | e
          · omega
          · simp at e; omega
        rw [← HX.out.2] at hown
        exact ⟨⟨j + 1, g2, d2, by omega, by go_num, rfl, hgl, hown, HX.out.1, below_gr (((HB.out.trans (OW.out.2.mono hbs)).alloc (by omega) _).alloc (by simp; omega) _) hg2 hg (by simp; omega)⟩, by simp [intOf]; omega⟩
    · have e : n = j := by omega
      subst e
      have hN1 : n + 1 = N := HNn.out.symm
      have hT : Hid (okH n rs = true) := Lib.hid (okH_true.2 (fun i hi => hall i hi))
      rw [hN1] at ho
      have HX := Lib.hid ho
      clear ho hall hbr HO
      have hnn : ¬ (n : Int) < (n : Int) := by omega
      go_wp2_with fail
      refine bodyPost_ret (v := .tuple #[.slice (some ⟨g, 0, none⟩) N cap, .bool true]) (by simp [results, Tryz.results38, go_sem]) rfl ⟨.inl ⟨hT.out, g, cap, rfl, by omega, HX.out⟩, HBc.out.trans (HB.out.mono hsc)⟩
end Go.Proofs.YtoaomjchaihkaaaGreatDoor
