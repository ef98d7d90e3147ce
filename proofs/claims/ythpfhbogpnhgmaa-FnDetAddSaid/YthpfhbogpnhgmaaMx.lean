/-
  The reference model's MatApply.
-/
import Derived.Test.YthpfhbogpnhgmaaMw
namespace Go.Proofs.Ythpfhbogpnhgmaa
open Go.RowKit
set_option linter.unusedVariables false

/-- a matrix, and a list that it can be applied to -/
def aplOk (L : List (List Int)) (xs : List Int) : Prop := matOk L = true ∧ xs.length = L.length ∧ ∀ x ∈ xs, -1000000 ≤ x ∧ x ≤ 1000000
noncomputable def apL (k : Nat) (L : List (List Int)) (xs : List Int) : List Int := (List.range k).map (fun i => smn k (fun j => ent L i j * num xs j))
theorem aterm_low {e : Int} {a : Mx} {k i : Nat} {xs : List Int} (hs : SmE k 1000 a) (hi : i < k) (he : 0 ≤ e) (hx : ∀ x ∈ xs, -e ≤ x ∧ x ≤ e) (hk : xs.length = k) : ∀ j, j < k → -(1000 * e) ≤ a i j * num xs j ∧ a i j * num xs j ≤ 1000 * e := fun j hj =>
  abs_mul (hs i j hi hj) (hx _ (num_mem (by omega)))
set_option maxHeartbeats 4000000 in
set_option maxRecDepth 100000 in
theorem sMatApply_yes (k c d : Nat) (p q : Option Addr) (L : List (List Int)) (xs : List Int) (w : World) (h : GRead w p L) (hq : Ints w q xs) (hk : L.length = k) (hok : aplOk L xs) :
    Calls Try.prog 26 #[.slice p k c, .slice q k d] w fun e w' => ∃ g cap, e = .returned (.tuple #[.slice (some ⟨g, 0, none⟩) k cap, .bool true]) ∧ w.heap.size ≤ g ∧ Own w' g 3 1 k cap (apL k L xs) ∧ Below w.heap.size w w' := by
  obtain ⟨hm, hl, hx⟩ := hok
  have hk5 : k ≤ 5 := by have := (matOk_true.1 hm).2.1; omega
  have hn : xs.length = k := by omega
  have hs : Sq k L := by rw [← hk]; exact matOk.sq hm
  have hsm : SmE k 1000 (ent L) := by rw [← hk]; exact matOk.small hm
  have c1 := fun w h => Lib.hid (sMatValid k c p L true w h hk (by omega) hm)
  have H := Lib.hid (And.intro h (And.intro hq (And.intro hs (And.intro hsm (And.intro hn hx)))))
  clear h hq hk hm hl hx hn hs hsm
  go_enter Try.func26, Try.ntmps26
  go_wp2_with (go_at_call 31; (with_reducible refine ((c1 _ ?_).out).mono ?_); (focus (exact H.out.1.alloc _; done)); rintro e w' ⟨rfl, rfl⟩)
  clear c1
  have HE := Lib.hid (Own.empty w 3 1)
  go_loopw [6, 8] (fun o i wr => ∃ (j g cap : Nat), j ≤ k ∧ i = .int .i64 j ∧ o = .slice (some ⟨g, 0, none⟩) j cap ∧ w.heap.size ≤ g ∧ Own wr g 3 1 j cap ((List.range j).map (fun i => smn k (fun j => ent L i j * num xs j))) ∧ Below w.heap.size w wr) (fun _ i _ => k - (intOf i).toNat)
  case atStart => exact ⟨0, _, _, Nat.zero_le _, rfl, rfl, Nat.le_refl _, HE.out, (by repeat (first | assumption | exact Below.refl _ _ | (refine below_chain ?_ (by assumption) (by first | omega | (simp <;> omega) | simp)) | (refine Below.alloc ?_ (by first | omega | (simp <;> omega) | simp) _) | (apply below_drewN) | (apply below_drew) | (refine Below.setCell ?_ (by first | omega | (simp <;> omega) | simp) _)))⟩
  case round =>
    clear HE
    rename World => wr
    obtain ⟨j, g, cap, hj, rfl, rfl, hgw, hg, hbr⟩ := hrel
    have hbs := hbr.size
    have hlg := hg.lt
    by_cases hlt : j < k
    · have hlt' : (j : Int) < (k : Int) := by omega
      have HG := Lib.hid (And.intro hg hbr)
      have HW := Lib.hid (And.intro (H.out.1.below hbr) (H.out.2.1.below hbr))
      clear hg hbr
      go_wp2_with fail
      go_loopw [9, 10] (fun s i wq => ∃ x : Nat, x ≤ k ∧ i = .int .i64 x ∧ s = .int .i64 (smn x (fun i => ent L j i * num xs i)) ∧ Below wr.heap.size wr wq) (fun _ i _ => k - (intOf i).toNat)
      case atStart => exact ⟨0, Nat.zero_le _, rfl, rfl, Below.refl _ _⟩
      case round =>
        rename World => wq
        obtain ⟨x, hx, rfl, rfl, hbq⟩ := hrel
        have hsq := hbq.size
        have hsb := sm_abs (n := x) (f := fun i => ent L j i * num xs i) (c := 1000000000) (fun i hi => by
          have := aterm_low (e := 1000000) H.out.2.2.2.1 hlt (by omega) H.out.2.2.2.2.2 H.out.2.2.2.2.1 i (by omega); omega)
        obtain ⟨s, hs⟩ : ∃ s, smn x (fun i => ent L j i * num xs i) = s := ⟨_, rfl⟩
        rw [hs] at hsb ⊢
        have hsb2 : -5000000000 ≤ s ∧ s ≤ 5000000000 := by omega
        obtain ⟨s0, s1⟩ := hsb2
        clear hsb
        by_cases hxk : x < k
        · obtain ⟨B1, o1, r1, q1, cq1, rfl, hr1, hB1, e0, hcq1, hi1⟩ := (HW.out.1.below hbq).at (i := j) (by rw [H.out.2.2.1.1]; exact hlt)
          have hrl1 : r1.length = k := H.out.2.2.1.2 r1 (List.mem_of_getElem? hr1)
          rw [hrl1] at e0 hcq1
          obtain ⟨A1, oA1, z1, rfl, hz1, hA1, e1⟩ := hi1.at (i := x) (by rw [hrl1]; exact hxk)
          obtain ⟨A2, oA2, z2, rfl, hz2, hA2, e3⟩ := (HW.out.2.below hbq).at (i := x) (by rw [H.out.2.2.2.2.1]; exact hxk)
          have ha := ent_at hr1 hz1
          have hb := num_at hz2
          have hla := H.out.2.2.2.1 j x hlt hxk
          have hlb := H.out.2.2.2.2.2 z2 (List.mem_of_getElem? hz2)
          rw [ha] at hla
          have hpb := abs_mul hla (x := 1000) (y := 1000000) hlb
          obtain ⟨p0, p1⟩ := hpb
          have c2 := fun w => Lib.hid (nIn z2 (-1000000) 1000000 true w (decide_eq_true hlb))
          have hxk' : (x : Int) < (k : Int) := by omega
          have HN : Hid (smn (x + 1) (fun i => ent L j i * num xs i) = s + z1 * z2) := Lib.hid (by simp only [smn]; rw [hs, ha, hb])
          have HQ := Lib.hid hbq
          clear hs hr1 hrl1 hz1 hi1 hz2 ha hb hla hlb hbq
          go_wp2_with ((go_at_call 51; (with_reducible refine ((c2 _).out).mono ?_); rintro e w' ⟨rfl, rfl⟩))
          (refine wp_region_grows (by kernel_rfl) (by kernel_rfl) ?_; intro W_wg hWc_wg hWs_wg hWe_wg; (repeat (go_big_quiet_step (fail))); with_reducible refine wpQuiet_nil ?_; clear hWe_wg hWs_wg hWc_wg W_wg; intro wg hb_wg; obtain ⟨hc_wg, hf_wg⟩ := bcell hb_wg; (try simp only [World.size_drew, World.cell?_drew, World.frozen?_drew, World.heap_drewN, World.cell?_drewN, World.frozen?_drewN] at hc_wg hf_wg); have hs_wg := hb_wg.size; (try simp at hs_wg))
          go_wp2_with fail
          go_roundw
          case rel => exact ⟨x + 1, by omega, by go_num, by rw [HN.out], HQ.out.trans (hb_wg.mono hsq)⟩
          case measure => simp [intOf]; omega
        · have e : x = k := by omega
          subst e
          have HN : Hid (smn x (fun i => ent L j i * num xs i) = s) := Lib.hid hs
          have HQ := Lib.hid hbq
          clear hs hbq
          have hlq : g < wq.heap.size := by omega
          go_wp2_with (at_builtin; refine wp_append _ rfl _ _ 29 rfl 3 _ 1 8 Try.underlying29 info_int rfl (by decide) (by decide) g j cap _ rfl ((HG.out.1.below HQ.out).alloc _) _ _ _ [s] rfl rfl (one_cellA _ _ _) (by omega) ?_; intro g1 d1 w1 hown hg1 hloc hsz1; have HN1 := Lib.hid (And.intro hown (And.intro hg1 hloc)); clear hown hg1 hloc)
          obtain ⟨hown, hg1, hloc⟩ := HN1.out
          rw [← HN.out, rng_snoc (f := fun i => smn x (fun j => ent L i j * num xs j))] at hown
          exact ⟨⟨j + 1, g1, d1, by omega, by go_num, rfl, by rcases hloc with e | e; (omega); (simp at e; omega), hown, below_gr ((HG.out.2.trans (HQ.out.mono hbs)).alloc (by omega) _) hg1 hgw (by simp; omega)⟩, by simp [intOf]; omega⟩
    · have e : j = k := by omega
      subst e
      have HX := Lib.hid (And.intro hg hbr)
      clear hg hbr
      go_wp2_with fail
      refine bodyPost_ret (v := .tuple #[.slice (some ⟨g, 0, none⟩) j cap, .bool true]) (by simp [results, Try.results26, go_sem]) rfl ⟨g, cap, rfl, hgw, HX.out.1, HX.out.2⟩
set_option maxHeartbeats 4000000 in
set_option maxRecDepth 100000 in
theorem sMatApply_no (k n c d : Nat) (p q : Option Addr) (L : List (List Int)) (xs : List Int) (w : World) (h : GRead w p L) (hq : Ints w q xs) (hk : L.length = k) (hn : xs.length = n) (hl : k ≤ 4000000000000000000) (hl2 : n ≤ 4000000000000000000) (hno : ¬ aplOk L xs) :
    Calls Try.prog 26 #[.slice p k c, .slice q n d] w fun e w' => (∃ g, e = .returned (.tuple #[.slice (some ⟨g, 0, none⟩) 0 0, .bool false])) ∧ Below w.heap.size w w' := by
  obtain ⟨u, hu⟩ : ∃ u, matOk L = u := ⟨_, rfl⟩
  have c1 := fun w h => Lib.hid (sMatValid k c p L u w h hk hl hu)
  cases u
  · have H := Lib.hid h
    clear h hq hk hn hno hu
    go_enter Try.func26, Try.ntmps26
    go_wp2_with (go_at_call 31; (with_reducible refine ((c1 _ ?_).out).mono ?_); (focus (exact H.out.alloc _; done)); rintro e w' ⟨rfl, rfl⟩)
    refine bodyPost_ret (v := .tuple #[.slice (some ⟨w.heap.size, 0, none⟩) 0 0, .bool false]) (by simp [results, Try.results26, go_sem]) rfl ⟨⟨_, rfl⟩, (by repeat (first | assumption | exact Below.refl _ _ | (refine below_chain ?_ (by assumption) (by first | omega | (simp <;> omega) | simp)) | (refine Below.alloc ?_ (by first | omega | (simp <;> omega) | simp) _) | (apply below_drewN) | (apply below_drew) | (refine Below.setCell ?_ (by first | omega | (simp <;> omega) | simp) _)))⟩
  · by_cases hnk : n = k
    · subst hnk
      have hbad : ¬ ∀ x ∈ xs, -1000000 ≤ x ∧ x ≤ 1000000 := fun hc => hno ⟨hu, by omega, hc⟩
      have hk5 : n ≤ 5 := by have := (matOk_true.1 hu).2.1; omega
      have hk1 : 1 ≤ n := by have := (matOk_true.1 hu).1; omega
      have hs : Sq n L := by rw [← hk]; exact matOk.sq hu
      have hsm : SmE n 1000 (ent L) := by rw [← hk]; exact matOk.small hu
      have H := Lib.hid (And.intro h (And.intro hq (And.intro hs (And.intro hsm (And.intro hn hbad)))))
      have hn1' : (0 : Int) < (n : Int) := by omega
      have hn1d : decide (0 < n) = true := decide_eq_true (by omega)
      clear h hq hk hn hno hu hs hsm hbad
      go_enter Try.func26, Try.ntmps26
      go_wp2_with (go_at_call 31; (with_reducible refine ((c1 _ ?_).out).mono ?_); (focus (exact H.out.1.alloc _; done)); rintro e w' ⟨rfl, rfl⟩)
      clear c1
      refine gen_worldM (fun W => Below w.heap.size w W) (by repeat (first | assumption | exact Below.refl _ _ | (refine below_chain ?_ (by assumption) (by first | omega | (simp <;> omega) | simp)) | (refine Below.alloc ?_ (by first | omega | (simp <;> omega) | simp) _) | (apply below_drewN) | (apply below_drew) | (refine Below.setCell ?_ (by first | omega | (simp <;> omega) | simp) _))) (fun w0 h0 => ?_)
      have hbs := h0.size
      go_loopw [8] (fun i wr => i = .int .i64 0 ∧ w0 = wr) (fun _ _ => 0)
      case atStart => exact ⟨rfl, rfl⟩
      case round =>
        obtain ⟨rfl, rfl⟩ := hrel
        have HW := Lib.hid (And.intro (H.out.1.below h0) (And.intro (H.out.2.1.below h0) h0))
        clear h0
        go_wp2_with fail
        go_loopw [9, 10] (fun s i wq => ∃ (x : Nat) (v : Int), x ≤ n ∧ i = .int .i64 x ∧ s = .int .i64 v ∧ (-5000000000 * (x : Int) ≤ v ∧ v ≤ 5000000000 * (x : Int)) ∧ (∀ z ∈ xs.take x, -1000000 ≤ z ∧ z ≤ 1000000) ∧ Below w0.heap.size w0 wq) (fun _ i _ => n - (intOf i).toNat)
        case atStart => exact ⟨0, 0, Nat.zero_le _, rfl, rfl, by omega, by simp, Below.refl _ _⟩
        case round =>
          rename World => wq
          obtain ⟨x, s, hx, rfl, rfl, ⟨s0, s1⟩, hr, hbq⟩ := hrel
          have hsq := hbq.size
          by_cases hxk : x < n
          · obtain ⟨A2, oA2, z2, rfl, hz2, hA2, e3⟩ := (HW.out.2.1.below hbq).at (i := x) (by rw [H.out.2.2.2.2.1]; exact hxk)
            have hxk' : (x : Int) < (n : Int) := by omega
            by_cases hin : -1000000 ≤ z2 ∧ z2 ≤ 1000000
            · obtain ⟨B1, o1, r1, q1, cq1, rfl, hr1, hB1, e0, hcq1, hi1⟩ := (HW.out.1.below hbq).at (i := 0) (by rw [H.out.2.2.1.1]; omega)
              have hrl1 : r1.length = n := H.out.2.2.1.2 r1 (List.mem_of_getElem? hr1)
              rw [hrl1] at e0 hcq1
              obtain ⟨A1, oA1, z1, rfl, hz1, hA1, e1⟩ := hi1.at (i := x) (by rw [hrl1]; exact hxk)
              rw [Nat.add_zero] at e0
              have hla := H.out.2.2.2.1 0 x (by omega) hxk
              rw [ent_at hr1 hz1] at hla
              have hpb := abs_mul hla (x := 1000) (y := 1000000) hin
              obtain ⟨p0, p1⟩ := hpb
              have c2 := fun w => Lib.hid (nIn z2 (-1000000) 1000000 true w (decide_eq_true hin))
              have HN : Hid (∀ z ∈ xs.take (x + 1), -1000000 ≤ z ∧ z ≤ 1000000) := Lib.hid (by
                rw [List.take_add_one, hz2]; intro y hy
                rcases List.mem_append.1 hy with h | h
                · exact hr y h
                · simp at h; subst h; exact hin)
              have HQ := Lib.hid hbq
              clear hr hr1 hrl1 hz1 hi1 hz2 hla hin hbq
              go_wp2_with ((go_at_call 51; (with_reducible refine ((c2 _).out).mono ?_); rintro e w' ⟨rfl, rfl⟩))
              (refine wp_region_grows (by kernel_rfl) (by kernel_rfl) ?_; intro W_wg hWc_wg hWs_wg hWe_wg; (repeat (go_big_quiet_step (fail))); with_reducible refine wpQuiet_nil ?_; clear hWe_wg hWs_wg hWc_wg W_wg; intro wg hb_wg; obtain ⟨hc_wg, hf_wg⟩ := bcell hb_wg; (try simp only [World.size_drew, World.cell?_drew, World.frozen?_drew, World.heap_drewN, World.cell?_drewN, World.frozen?_drewN] at hc_wg hf_wg); have hs_wg := hb_wg.size; (try simp at hs_wg))
              go_wp2_with fail
              go_roundw
              case rel => exact ⟨x + 1, s + z1 * z2, by omega, by go_num, rfl, by omega, HN.out, HQ.out.trans (hb_wg.mono hsq)⟩
              case measure => simp [intOf]; omega
            · have c2 := fun w => Lib.hid (nIn z2 (-1000000) 1000000 false w (decide_eq_false hin))
              have HQ := Lib.hid hbq
              clear hr hz2 hin hbq
              go_wp2_with ((go_at_call 51; (with_reducible refine ((c2 _).out).mono ?_); rintro e w' ⟨rfl, rfl⟩))
              refine bodyPost_ret (v := .tuple #[.slice (some ⟨wq.heap.size, 0, none⟩) 0 0, .bool false]) (by simp [results, Try.results26, go_sem]) rfl ⟨⟨_, rfl⟩, (HW.out.2.2.trans (HQ.out.mono hbs)).alloc (by omega) _⟩
          · have e : x = n := by omega
            subst e
            exact absurd (by rw [List.take_of_length_le (Nat.le_of_eq H.out.2.2.2.2.1)] at hr; exact hr) H.out.2.2.2.2.2
    · have hnk' : ¬ (n : Int) = (k : Int) := by omega
      have H := Lib.hid h
      clear h hq hk hn hno hu
      go_enter Try.func26, Try.ntmps26
      go_wp2_with (go_at_call 31; (with_reducible refine ((c1 _ ?_).out).mono ?_); (focus (exact H.out.alloc _; done)); rintro e w' ⟨rfl, rfl⟩)
      refine bodyPost_ret (v := .tuple #[.slice (some ⟨w.heap.size, 0, none⟩) 0 0, .bool false]) (by simp [results, Try.results26, go_sem]) rfl ⟨⟨_, rfl⟩, (by repeat (first | assumption | exact Below.refl _ _ | (refine below_chain ?_ (by assumption) (by first | omega | (simp <;> omega) | simp)) | (refine Below.alloc ?_ (by first | omega | (simp <;> omega) | simp) _) | (apply below_drewN) | (apply below_drew) | (refine Below.setCell ?_ (by first | omega | (simp <;> omega) | simp) _)))⟩
end Go.Proofs.Ythpfhbogpnhgmaa
