/-
  The reference model's matrix of all nodes and its matrix without a row and a column.
-/
import Derived.Test.YtenllemaccacgaaGreatDoorZj
import Derived.Test.YtenllemaccacgaaGreatDoorZd
namespace Go.Proofs.YtenllemaccacgaaGreatDoor
open Go.RowKit
set_option linter.unusedVariables false

/-- a matrix without a row and a column -/
def cutK (L : List (List Int)) (k : Nat) : List (List Int) := (L.eraseIdx k).map (fun r => r.take k ++ r.drop (k + 1))
theorem cutK_row {k x : Nat} {L : List (List Int)} {r : List Int} (h : L[skip k x]? = some r) : (cutK L k)[x]? = some (r.take k ++ r.drop (k + 1)) := by
  unfold cutK
  rw [List.getElem?_map, List.getElem?_eraseIdx]
  unfold skip at h
  split at h
  · rename_i hx; rw [if_pos hx, h]; rfl
  · rename_i hx; rw [if_neg hx, h]; rfl
theorem cutK_len {n k : Nat} {L : List (List Int)} (h : Sq (n + 1) L) (hk : k < n + 1) : (cutK L k).length = n := by
  unfold cutK
  rw [List.length_map, List.length_eraseIdx, if_pos (by rw [h.1]; exact hk), h.1]; omega
theorem cutK_sq {n k : Nat} {L : List (List Int)} (h : Sq (n + 1) L) (hk : k < n + 1) : Sq n (cutK L k) := by
  refine ⟨cutK_len h hk, fun r hr => ?_⟩
  obtain ⟨r0, h0, rfl⟩ := List.mem_map.1 hr
  have := h.2 r0 (List.eraseIdx_subset h0)
  rw [List.length_append, List.length_take, List.length_drop]; omega
theorem ent_cutK {n i j k : Nat} {L : List (List Int)} (h : Sq (n + 1) L) (hk : k < n + 1) (hi : i < n) : ent (cutK L k) i j = ent L (skip k i) (skip k j) := by
  have hs : skip k i < n + 1 := by unfold skip; split <;> omega
  have h1 : L[skip k i]? = some (rowL L (skip k i)) := at_rowL (by rw [h.1]; exact hs)
  show num (rowL (cutK L k) i) j = num (rowL L (skip k i)) (skip k j)
  rw [rowL_at (cutK_row h1), num_cut (by rw [h.row hs]; exact hk)]
theorem lapF_step {rs : List Rn} {k : Nat} {r : Rn} (hr : rs[k]? = some r) (i j : Nat) : lap (rs.take (k + 1)) i j = lap (rs.take k) i j + r.g * (inc r i * inc r j) := lsm_take hr _
set_option maxHeartbeats 4000000 in
set_option maxRecDepth 100000 in
theorem sCut (n c j : Nat) (p : Option Addr) (L : List (List Int)) (w : World) (h : GRead w p L) (hs : Sq (n + 1) L) (h5 : n + 1 ≤ 6) (hj : j < n + 1) :
    Calls Tryz.prog 72 #[.slice p (n + 1) c, .int .i64 j] w fun e w' => ∃ g d, e = .returned (.slice (some ⟨g, 0, none⟩) n d) ∧ GRead w' (some ⟨g, 0, none⟩) (cutK L j) ∧ Below w.heap.size w w' := by
  have H := Lib.hid (And.intro h hs)
  have hcl : (cutK L j).length = n := cutK_len hs hj
  have HE := Lib.hid (GridO.empty w 3 31 w.heap.size (Nat.le_refl _))
  clear h hs
  go_enter Tryz.func72, Tryz.ntmps72
  go_wp2_with fail
  go_loopw [5, 6] (fun v i wr => ∃ (y x g cap : Nat) (bs : List (Nat × Nat)), y ≤ n + 1 ∧ (y ≤ j ∧ x = y ∨ j < y ∧ y = x + 1) ∧ i = .int .i64 y ∧ v = .slice (some ⟨g, 0, none⟩) x cap ∧ GridO wr 3 31 w.heap.size g cap bs ((cutK L j).take x) ∧ Below w.heap.size w wr) (fun _ i _ => n + 1 - (intOf i).toNat)
  case atStart => exact ⟨0, 0, _, _, _, Nat.zero_le _, .inl ⟨Nat.zero_le _, rfl⟩, rfl, rfl, HE.out, (by repeat (first | assumption | exact Below.refl _ _ | (refine below_chain ?_ (by assumption) (by first | omega | (simp <;> omega) | simp)) | (refine Below.alloc ?_ (by first | omega | (simp <;> omega) | simp) _) | (apply below_drewN) | (apply below_drew) | (refine Below.setCell ?_ (by first | omega | (simp <;> omega) | simp) _)))⟩
  case round =>
    clear HE
    rename World => wr
    obtain ⟨y, x, g, cap, bs, hy, hyx, rfl, rfl, hg, hbr⟩ := hrel
    have hbs := hbr.size
    have hlg := hg.lt
    by_cases hlt : y < n + 1
    · have hlt' : (y : Int) < (n : Int) + 1 := by omega
      by_cases hyj : y = j
      · have hyj' : (y : Int) = (j : Int) := by omega
        have HG := Lib.hid (And.intro hg hbr)
        have hxx : x = y := by omega
        clear hg hbr
        go_wp2_with fail
        exact ⟨⟨y + 1, x, g, cap, bs, by omega, .inr ⟨by omega, by omega⟩, by go_num, rfl, HG.out.1, HG.out.2⟩, by simp [intOf]; omega⟩
      · have hyj' : ¬ (y : Int) = (j : Int) := by omega
        have hsk : skip j x = y := by unfold skip; split <;> omega
        have hxn : x < n := by omega
        have hY := Lib.hid (And.intro hyx hsk)
        clear hyx hsk
        obtain ⟨B, o, r, q1, cq, rfl, hr, hB, e0, hcq, hi⟩ := (H.out.1.below hbr).at (i := y) (by rw [H.out.2.1]; omega)
        have hrl : r.length = n + 1 := H.out.2.2 r (List.mem_of_getElem? hr)
        rw [hrl] at e0 hcq
        obtain ⟨A, oA, rfl, hA, hcell⟩ : ∃ A oA, q1 = some ⟨A, oA, none⟩ ∧ A < wr.heap.size ∧ Ints wr (some ⟨A, oA, none⟩) r := by
          rcases hi with h | ⟨A, oA, rfl, hA, hh⟩
          · rw [h] at hrl; simp at hrl
          · exact ⟨A, oA, rfl, hA, .inr ⟨A, oA, rfl, hA, hh⟩⟩
        have HR := Lib.hid (And.intro hcell (And.intro hr hrl))
        have HG := Lib.hid (And.intro hg hbr)
        have hzb := hg.z
        have HZ := Lib.hid hzb
        clear hi hcell hr hrl hg hbr hzb
        go_upto_region 7 with (at_builtin; refine wp_append _ rfl _ _ 31 rfl 3 _ 1 8 Tryz.underlying31 info_int rfl (by decide) (by decide) _ 0 0 [] rfl (Own.empty _ _ _) _ _ _ (r.take j) rfl (by rw [List.length_take, HR.out.2.2, Nat.mul_one]; omega) (ints_cellsT j (HR.out.1.alloc _)) (by omega) ?_; intro g1 d1 w1 hown hg1 hloc hsz1; have HN := Lib.hid (And.intro hown (And.intro hg1 hloc)); clear hown hg1 hloc; simp only [Nat.zero_add])
        obtain ⟨hown, hg1, hloc⟩ := HN.out
        rw [Nat.zero_add, List.nil_append] at hown
        have hb1 : Below wr.heap.size wr w1 := below_gr ((Below.refl wr.heap.size wr).alloc (Nat.le_refl _) _) hg1 (Nat.le_refl _) (by simp)
        have hg1l : wr.heap.size ≤ g1 := by
          rcases hloc with e | e
          · omega
          · simp at e; omega
        have hz1 := hb1.size
        have hl1 := hown.lt
        have e5 := (hb1.cell (p := ⟨B, o + y, none⟩) hB).trans e0
        have HX := Lib.hid (And.intro hown (And.intro (HG.out.1.below hb1) (And.intro (HG.out.2.trans (hb1.mono hbs)) (HR.out.1.below hb1))))
        have hdl : (r.drop (j + 1)).length = n - j := by rw [List.length_drop, HR.out.2.2]; omega
        have hxl : ((cutK L j).take x).length = x := by rw [List.length_take]; omega
        have hrow : (r.take j ++ r.drop (j + 1)).length = n := by rw [List.length_append, hdl, List.length_take, HR.out.2.2]; omega
        have hjn : j + (n - j) = n := by omega
        clear hown hg1 hloc HN hb1 hsz1 e0
        have hcs : cq = j + 1 ∨ ¬ cq = j + 1 := Classical.em _
        rcases hcs with hcj | hcj
        all_goals (
          go_wp2_with (first
            | (at_builtin; refine wp_append _ rfl _ _ 31 rfl 3 _ 1 8 Tryz.underlying31 info_int rfl (by decide) (by decide) g1 j d1 _ rfl HX.out.1 _ _ _ (r.drop (j + 1)) rfl (by rw [hdl, Nat.mul_one]) (by first | exact ints_cellsD (j + 1) HX.out.2.2.2 | (intro y z hz; have := (List.getElem?_eq_some_iff.1 hz).1; omega)) (by omega) ?_; intro g2 d2 w2 hown2 hg2 hloc2 hsz2; have HN2 := Lib.hid (And.intro hown2 (And.intro hg2 hloc2)); clear hown2 hg2 hloc2; have hT2 := Lib.hid (HX.out.2.1.under (below_gr (Below.refl _ _) HN2.out.2.1 hg1l hz1) hlg HZ.out); simp only [hjn])
            | (at_builtin; refine wp_appendV _ rfl _ _ 96 rfl 31 _ 24 Tryz.underlying96 info_ints rfl (by decide) g x cap (rowVs bs ((cutK L j).take x)) rfl (by have := (hT2.out.alloc (.cells #[.slice (some ⟨g2, 0, none⟩) n d2] 31)).top; rw [hxl] at this; exact this) ⟨w2.heap.size, 0, none⟩ 1 1 [.slice (some ⟨g2, 0, none⟩) n d2] rfl rfl (cell_one_new w2 _ _) (by intro u hu; simp at hu; subst hu; rfl) (by omega) ?_; intro g3 d3 w3 hown3 hg3 hloc3 hsz3; have HN3 := Lib.hid (And.intro hown3 (And.intro hg3 hloc3)); clear hown3 hg3 hloc3))
          obtain ⟨hown3, hg3, hloc3⟩ := HN3.out
          obtain ⟨hown2, hg2, hloc2⟩ := HN2.out
          rw [hjn] at hown2
          have hg2l : wr.heap.size ≤ g2 := by rcases hloc2 with e | e <;> omega
          have hgg := (hT2.out.alloc (.cells #[.slice (some ⟨g2, 0, none⟩) n d2] 31)).push hxl (row := r.take j ++ r.drop (j + 1)) hrow hg3 hloc3 hown3 (hown2.alloc _) ⟨by omega, by omega⟩ (fun i b' c' hb' e => by have := HZ.out i b' c' hb'; omega)
          have htk : (cutK L j).take x ++ [r.take j ++ r.drop (j + 1)] = (cutK L j).take (x + 1) := by rw [List.take_add_one, cutK_row (by rw [hY.out.2]; exact HR.out.2.1)]; rfl
          rw [htk] at hgg
          exact ⟨⟨y + 1, x + 1, g3, d3, _, by omega, by have := hY.out.1; omega, by go_num, rfl, hgg, below_gr ((below_gr HX.out.2.2.1 hg2 (by omega) (by omega)).alloc (by omega) _) hg3 HG.out.1.low (by simp; omega)⟩, by simp [intOf]; omega⟩)
    · have e : y = n + 1 := by omega
      have e2 : n = x := by omega
      have hyn : ¬ (y : Int) < (n : Int) + 1 := by omega
      rw [List.take_of_length_le (by omega)] at hg
      have HX := Lib.hid (And.intro hg.read hbr)
      clear hg hbr
      subst e2
      go_wp2_with fail
      go_ret
      exact ⟨g, ⟨cap, rfl⟩, HX.out.1, HX.out.2⟩
set_option maxHeartbeats 8000000 in
set_option maxRecDepth 100000 in
theorem sFull (N : Nat) (p : Option Addr) (c m : Nat) (rs : List Rn) (w : World) (h : Runs w p rs) (hn : nOk (N : Int) rs = true) (hm : rs.length = m) :
    Calls Tryz.prog 73 #[.int .i64 N, .slice p m c] w fun e w' => ∃ g cap bs, e = .returned (.slice (some ⟨g, 0, none⟩) N cap) ∧ GridO w' 3 31 w.heap.size g cap bs (mkL N (lap rs)) ∧ Below w.heap.size w w' := by
  have hN := nOk_true hn
  have hl12 : m ≤ 12 := by rw [← hm]; exact hN.2.2.1
  have hN6 : N ≤ 6 := by omega
  have hmk := fun w => made_ints w N (by omega)
  have H := Lib.hid (And.intro h (And.intro hn hm))
  have HE := Lib.hid (GridO.empty w 3 31 w.heap.size (Nat.le_refl _))
  have HO := fun (w : World) => Lib.hid (show Own (w.alloc (.cells (madeCells (Array.replicate 1 (.int .i64 0)) (N * 1)) 3)) w.heap.size 3 1 N N (List.replicate N 0) from by
    have ho := Own.made w 3 N 1 (by decide) (by unfold maxLen; omega)
    rw [Nat.mul_one] at ho ⊢; exact ho)
  clear h hn hm hN
  go_enter Tryz.func73, Tryz.ntmps73
  go_wp2_with fail
  go_loopw [5, 6] (fun v i wr => ∃ (j g cap : Nat) (bs : List (Nat × Nat)), j ≤ N ∧ i = .int .i64 (j : Int) ∧ v = .slice (some ⟨g, 0, none⟩) j cap ∧ GridO wr 3 31 w.heap.size g cap bs (List.replicate j (List.replicate N 0)) ∧ Below w.heap.size w wr) (fun _ i _ => N - (intOf i).toNat)
  case atStart => exact ⟨0, _, _, _, Nat.zero_le _, rfl, rfl, HE.out, (by repeat (first | assumption | exact Below.refl _ _ | (refine below_chain ?_ (by assumption) (by first | omega | (simp <;> omega) | simp)) | (refine Below.alloc ?_ (by first | omega | (simp <;> omega) | simp) _) | (apply below_drewN) | (apply below_drew) | (refine Below.setCell ?_ (by first | omega | (simp <;> omega) | simp) _)))⟩
  case round =>
    clear HE
    rename World => wr
    obtain ⟨j, g, cap, bs, hj, rfl, rfl, hg, hbr⟩ := hrel
    have hbs := hbr.size
    have hlg := hg.lt
    by_cases hlt : j < N
    · have hlt' : (j : Int) < (N : Int) := by omega
      have hzb := hg.z
      have HG := Lib.hid (And.intro hg (And.intro hbr hzb))
      have hxl : (List.replicate j (List.replicate N (0 : Int))).length = j := by simp
      have hT : Hid (GridO (wr.alloc (.cells (madeCells (Array.replicate 1 (.int .i64 0)) (N * 1)) 3)) 3 31 w.heap.size g cap bs (List.replicate j (List.replicate N 0))) := Lib.hid (hg.alloc _)
      have hO := Lib.hid (HO wr).out
      clear hg hbr hzb
      go_wp2_with (at_builtin; refine wp_appendV _ rfl _ _ 96 rfl 31 _ 24 Tryz.underlying96 info_ints rfl (by decide) g j cap (rowVs bs (List.replicate j (List.replicate N 0))) rfl (by have := (hT.out.alloc (.cells #[.slice (some ⟨wr.heap.size, 0, none⟩) N N] 31)).top; rw [hxl] at this; simpa using this) _ 1 1 [.slice (some ⟨wr.heap.size, 0, none⟩) N N] rfl rfl (by have := cell_one_new (wr.alloc (.cells (madeCells #[.int .i64 0] N) 3)) (.slice (some ⟨wr.heap.size, 0, none⟩) N N) 31; simpa using this) (by intro u hu; simp at hu; subst hu; rfl) (by omega) ?_; intro g3 d3 w3 hown3 hg3 hloc3 hsz3; have HN3 := Lib.hid (And.intro hown3 (And.intro hg3 hloc3)); clear hown3 hg3 hloc3)
      obtain ⟨hown3, hg3, hloc3⟩ := HN3.out
      have hloc4 : g3 = g ∨ wr.heap.size + 1 < g3 := by
        rcases hloc3 with e | e
        · exact .inl e
        · right; simp at e; omega
      have hgg := (hT.out.alloc (.cells #[.slice (some ⟨wr.heap.size, 0, none⟩) N N] 31)).push hxl (row := List.replicate N 0) (by simp) (by simpa using hg3) (by simpa using hloc3) (by simpa using hown3) (hO.out.alloc _) ⟨by omega, by omega⟩ (fun i b' c' hb' e => by have := HG.out.2.2 i b' c' hb'; omega)
      rw [rep_snoc] at hgg
      exact ⟨⟨j + 1, g3, d3, _, by omega, by go_num, rfl, hgg, below_gr ((HG.out.2.1.alloc hbs _).alloc (by simp; omega) _) hg3 HG.out.1.low (by simp; omega)⟩, by simp [intOf]; omega⟩
    · have e : N = j := by omega
      subst e
      have HG0 : Hid (GridO wr 3 31 w.heap.size g cap bs (mkL N (lap (rs.take 0)))) := Lib.hid (by rw [show mkL N (lap (rs.take 0)) = mkL N (lap0 ([] : List Rn)) from mkL_congr (fun _ _ _ _ => rfl), ← rep_mkL]; exact hg)
      have HB := Lib.hid hbr
      clear hg hbr hmk HO
      go_wp2_with fail
      go_loopw [7] (fun i wq => ∃ k : Nat, k ≤ m ∧ i = .int .i64 k ∧ GridO wq 3 31 w.heap.size g cap bs (mkL N (lap (rs.take k))) ∧ Below w.heap.size w wq) (fun i _ => m - (intOf i).toNat)
      case atStart => exact ⟨0, Nat.zero_le _, rfl, HG0.out, HB.out⟩
      case round =>
        clear HG0 HB
        rename World => wq
        obtain ⟨k, hk, rfl, hg, hb⟩ := hrel
        have hlq := hg.lt
        have hbq := hb.size
        by_cases hlt : k < m
        · have hlt' : (k : Int) < (m : Int) := by omega
          obtain ⟨B, o, r, rfl, hr, hB, e1, e2, e3, e4⟩ := (H.out.1.below hb).at (i := k) (by rw [H.out.2.2]; exact hlt)
          have hro := rOk_true ((nOk_true H.out.2.1).2.2.2 k r hr)
          have hlow0 : ∀ i j, -108 ≤ lap (rs.take k) i j ∧ lap (rs.take k) i j ≤ 108 := fun i j => lap_low (rs := rs.take k) (fun x hx => ⟨(ok_runs H.out.2.1 x (List.mem_of_mem_take hx)).1, (ok_runs H.out.2.1 x (List.mem_of_mem_take hx)).2.1, (ok_runs H.out.2.1 x (List.mem_of_mem_take hx)).2.2.1⟩) (by rw [List.length_take, H.out.2.2]; omega) i j
          obtain ⟨f0, hf0⟩ : ∃ f, lap (rs.take k) = f := ⟨_, rfl⟩
          rw [hf0] at hg hlow0
          obtain ⟨G, hG⟩ : ∃ G, r.g = G := ⟨_, rfl⟩
          have hGb : 1 ≤ G ∧ G ≤ 9 := by rw [← hG]; exact ⟨hro.2.2.2.2.2.2.2.1, hro.2.2.2.2.2.2.2.2⟩
          obtain ⟨G1, G2⟩ := hGb
          rw [hG] at e4
          have hst : ∀ x y, lap (rs.take (k + 1)) x y = f0 x y + G * (inc r x * inc r y) := fun x y => by rw [lapF_step hr, hf0, hG]
          clear hf0 hr e3
          obtain ⟨F, hF⟩ : ∃ F : Nat, r.f = (F : Int) := ⟨r.f.toNat, by omega⟩
          obtain ⟨T, hT⟩ : ∃ T : Nat, r.t = (T : Int) := ⟨r.t.toNat, by omega⟩
          have hFn : F < N := by omega
          have hFn' : (F : Int) < (N : Int) := by omega
          have hTn : T < N := by omega
          have hTn' : (T : Int) < (N : Int) := by omega
          obtain ⟨bF, dF, hbF, eF, cF, fF, lF, nF, zF⟩ := hg.rowC hFn
          have cFF := cF F hFn
          have fFF := fF F
          obtain ⟨a, ha⟩ : ∃ a, f0 F F = a := ⟨_, rfl⟩
          have hab := hlow0 F F
          rw [ha] at cFF hab
          obtain ⟨a1, a2⟩ := hab
          have q1 : IntKind.i64.wrap (a + G) = a + G := by rw [IntKind.wrap_i64]; omega
          have h1 := hg.putF hbF hFn hFn (a + G)
          rw [hF] at e1
          have hFT : ¬ F = T := by intro e; subst e; exact hro.2.2.2.2.1 (by omega)
          have hTF : ¬ T = F := fun e => hFT e.symm
          obtain ⟨bT, dT, hbT, eT, cT, fT, lT, nT, zT⟩ := hg.rowC hTn
          have hbb : ¬ bF = bT := hg.dis F T bF dF bT dT hbF hbT hFT
          have hbb' : ¬ bT = bF := fun e => hbb e.symm
          have hgF : ¬ g = bF := fun e => nF e.symm
          have hgT : ¬ g = bT := fun e => nT e.symm
          have cTT := cT T hTn
          have cFT := cF T hTn
          have cTF := cT F hFn
          have fTT := fT T
          have fFT := fF T
          have fTF := fT F
          obtain ⟨b, hb'⟩ : ∃ b, f0 T T = b := ⟨_, rfl⟩
          obtain ⟨u, hu⟩ : ∃ u, f0 F T = u := ⟨_, rfl⟩
          obtain ⟨v, hv⟩ : ∃ v, f0 T F = v := ⟨_, rfl⟩
          have bb := hlow0 T T
          have bu := hlow0 F T
          have bv := hlow0 T F
          rw [hb'] at cTT bb
          rw [hu] at cFT bu
          rw [hv] at cTF bv
          obtain ⟨b1, b2⟩ := bb
          obtain ⟨u1, u2⟩ := bu
          obtain ⟨v1, v2⟩ := bv
          have q2 : IntKind.i64.wrap (b + G) = b + G := by rw [IntKind.wrap_i64]; omega
          have q3 : IntKind.i64.wrap (u - G) = u - G := by rw [IntKind.wrap_i64]; omega
          have q4 : IntKind.i64.wrap (v - G) = v - G := by rw [IntKind.wrap_i64]; omega
          have h4 := ((h1.putF hbT hTn hTn (b + G)).putF hbF hFn hTn (u - G)).putF hbT hTn hFn (v - G)
          have hinc : ∀ z : Nat, inc r z = (if z = T then 1 else 0) - (if z = F then 1 else 0) := fun z => by
            unfold inc; rw [hF, hT]
            by_cases c : z = F
            · rw [if_neg (by omega), if_pos (by omega), if_neg (by omega), if_pos c]
            · rw [if_neg (show ¬ (F : Int) = (z : Int) by omega), if_neg c]
              by_cases d : z = T
              · rw [if_pos (by omega), if_pos d]
              · rw [if_neg (by omega), if_neg d]
          have hL : mkL N (Go.Proofs.YtenllemaccacgaaGreatDoor.putF (Go.Proofs.YtenllemaccacgaaGreatDoor.putF (Go.Proofs.YtenllemaccacgaaGreatDoor.putF (Go.Proofs.YtenllemaccacgaaGreatDoor.putF f0 F F (a + G)) T T (b + G)) F T (u - G)) T F (v - G)) = mkL N (lap (rs.take (k + 1))) := mkL_congr (fun x y _ _ => by rw [hst, hinc, hinc, ← ha, ← hb', ← hu, ← hv]; exact lap_put2 hFT x y)
          rw [hL] at h4
          have HX := Lib.hid (And.intro h4 ((((hb.setCell (p := ⟨bF, F, none⟩) lF (.int .i64 (a + G))).setCell (p := ⟨bT, T, none⟩) lT (.int .i64 (b + G))).setCell (p := ⟨bF, T, none⟩) lF (.int .i64 (u - G))).setCell (p := ⟨bT, F, none⟩) lT (.int .i64 (v - G))))
          rw [hT] at e2
          clear hg hb h1 h4 hL hst hinc cF fF cT fT hbF hbT hlow0 ha hb' hu hv
          go_upto_region 12 with fail
          go_region
          go_upto_region 13 with fail
          go_region
          go_upto_region 14 with fail
          go_region
          go_upto_region 15 with fail
          go_region
          go_wp2_with fail
          exact ⟨⟨k + 1, by omega, by go_num, HX.out.1.block (fun _ _ _ => rfl), below_drew (below_drew (below_drew (below_drew HX.out.2)))⟩, by simp [intOf]; omega⟩
        · have e : k = m := by omega
          subst e
          rw [List.take_of_length_le (by rw [H.out.2.2]; exact Nat.le_refl _)] at hg
          have HX := Lib.hid (And.intro hg hb)
          clear hg hb
          go_wp2_with fail
          go_ret
          exact ⟨g, cap, bs, rfl, HX.out.1, HX.out.2⟩
end Go.Proofs.YtenllemaccacgaaGreatDoor
