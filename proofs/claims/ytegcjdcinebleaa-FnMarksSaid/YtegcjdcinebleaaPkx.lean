/-
  The reference model: the corners at which a parcel does not go straight on.
-/
import Derived.Test.YtegcjdcinebleaaYsp
import Derived.Test.YtegcjdcinebleaaPkp
import Derived.Test.YtegcjdcinebleaaYra
namespace Go.Proofs.Ytegcjdcinebleaa
open Go.RowKit Poly
set_option linter.unusedVariables false

theorem two_cellsM (V : World) (x y : Int) (T : TypeId) : ∀ (j : Nat) (z : Int), [x, y][j]? = some z → (V.alloc (.cells #[.int .i64 x, .int .i64 y] T)).cell? ((⟨V.heap.size, 0, none⟩ : Addr).add j) = some (.int .i64 z) := by
  intro j z hj
  have hb : (V.alloc (.cells #[.int .i64 x, .int .i64 y] T)).heap[V.heap.size]? = some (.cells #[.int .i64 x, .int .i64 y] T (0, 0)) := Deep.blk_alloc_new _ _
  match j, hj with
  | 0, hj => simp at hj; subst hj; show World.cell? _ ⟨V.heap.size, 0, none⟩ = _; unfold World.cell?; rw [hb]; rfl
  | 1, hj => simp at hj; subst hj; show World.cell? _ ⟨V.heap.size, 1, none⟩ = _; unfold World.cell?; rw [hb]; rfl
  | j + 2, hj => simp at hj
theorem rem_prev {n k : Nat} (hk : k < n) : ((k : Int) + (n : Int) - 1).tmod (n : Int) = (((k + n - 1) % n : Nat) : Int) := by
  rw [Int.tmod_eq_emod_of_nonneg (by omega), show (k : Int) + (n : Int) - 1 = ((k + n - 1 : Nat) : Int) by omega]
  rfl
section
variable {p : Option Addr} {c : Nat} {L : List P2} {w : World}
set_option maxHeartbeats 2000000 in
theorem sParcelMarks_no (h : Ints w p (fl L)) (hl : L.length ≤ 4000000000000000000) (hv : parV L = false) :
    Calls Try.prog 50 #[.slice p L.length c] w fun e w' => ∃ g : Nat, e = .returned (.tuple #[.slice (some ⟨g, 0, none⟩) 0 0, .bool false]) ∧ g < w'.heap.size ∧ Below w.heap.size w w' := by
  have H := Lib.hid h
  have c1 := fun w h => Lib.hid (sParcelValid_is (p := p) (c := c) (L := L) (w := w) h hl hv)
  clear h hv
  go_enter Try.func50, Try.ntmps50
  go_wp2_with ((go_at_call 35; (with_reducible refine ((c1 _ ?_).out).mono ?_); (focus ((exact H.out.below (by repeat (first | assumption | exact Below.refl _ _ | (refine below_chain ?_ (by assumption) (by first | omega | (simp <;> omega) | simp)) | (refine Below.alloc ?_ (by first | omega | (simp <;> omega) | simp) _) | (apply below_drewN) | (apply below_drew) | (refine Below.setCell ?_ (by first | omega | (simp <;> omega) | simp) _)))); done)); rintro e wa ⟨rfl, hb_wa⟩; have hs_wa := hb_wa.size; (try simp at hs_wa)))
  refine bodyPost_ret (v := .tuple #[.slice (some ⟨w.heap.size, 0, none⟩) 0 0, .bool false]) (by simp [results, Try.results50, go_sem]) rfl ⟨_, rfl, by omega, (by repeat (first | assumption | exact Below.refl _ _ | (refine below_chain ?_ (by assumption) (by first | omega | (simp <;> omega) | simp)) | (refine Below.alloc ?_ (by first | omega | (simp <;> omega) | simp) _) | (apply below_drewN) | (apply below_drew) | (refine Below.setCell ?_ (by first | omega | (simp <;> omega) | simp) _)))⟩
set_option maxHeartbeats 4000000 in
theorem sParcelMarks_yes (h : Ints w p (fl L)) (hv : parV L = true) :
    Calls Try.prog 50 #[.slice p L.length c] w fun e w' => ∃ g cap : Nat, e = .returned (.tuple #[.slice (some ⟨g, 0, none⟩) (marksL L).length cap, .bool true]) ∧ w.heap.size ≤ g ∧ Own w' g 31 2 (marksL L).length cap (fl (marksL L)) ∧ Below w.heap.size w w' := by
  have hok := parV_ok hv
  obtain ⟨l3, l12⟩ := okP_len hok
  have H := Lib.hid (And.intro h hok)
  have c1 := fun w h => Lib.hid (sParcelValid_is (p := p) (c := c) (L := L) (w := w) h (by omega) hv)
  clear h hv hok
  go_enter Try.func50, Try.ntmps50
  go_wp2_with ((go_at_call 35; (with_reducible refine ((c1 _ ?_).out).mono ?_); (focus ((exact H.out.1.below (by repeat (first | assumption | exact Below.refl _ _ | (refine below_chain ?_ (by assumption) (by first | omega | (simp <;> omega) | simp)) | (refine Below.alloc ?_ (by first | omega | (simp <;> omega) | simp) _) | (apply below_drewN) | (apply below_drew) | (refine Below.setCell ?_ (by first | omega | (simp <;> omega) | simp) _)))); done)); rintro e wa ⟨rfl, hb_wa⟩; have hs_wa := hb_wa.size; (try simp at hs_wa)))
  have HO := Lib.hid (((Own.empty w 31 2).below hb_wa))
  have HA := Lib.hid (show Below w.heap.size w wa from (by repeat (first | assumption | exact Below.refl _ _ | (refine below_chain ?_ (by assumption) (by first | omega | (simp <;> omega) | simp)) | (refine Below.alloc ?_ (by first | omega | (simp <;> omega) | simp) _) | (apply below_drewN) | (apply below_drew) | (refine Below.setCell ?_ (by first | omega | (simp <;> omega) | simp) _))))
  have hsa : w.heap.size + 1 ≤ wa.heap.size := by simpa using hs_wa
  clear c1 hb_wa hs_wa
  go_loopw [4, 6] (fun s i wr => ∃ k g cap m : Nat, k ≤ L.length ∧ i = .int .i64 k ∧ s = .slice (some ⟨g, 0, none⟩) m cap ∧ w.heap.size ≤ g ∧ Own wr g 31 2 m cap (fl (marksTo L k)) ∧ Hid (m = (marksTo L k).length) ∧ Below w.heap.size w wr) (fun _ i _ => L.length - (intOf i).toNat)
  case atStart => exact ⟨0, w.heap.size, 0, 0, Nat.zero_le _, rfl, rfl, Nat.le_refl _, HO.out, Lib.hid rfl, HA.out⟩
  case round =>
    clear HO HA
    obtain ⟨k, g, cap, m, hk, rfl, rfl, hg, ho, hm, hb⟩ := hrel
    rename World => wr
    have hbs := hb.size
    have hml : m ≤ k := by rw [hm.out]; exact marksTo_le L k
    by_cases hlt : k < L.length
    · have hlt' : (k : Int) < (L.length : Int) := by omega
      obtain ⟨B, o, m1, rfl, hB, ⟨x0, x1⟩, hml1, hrem1, ⟨y0, y1⟩, hm1⟩ := (H.out.1.below hb).two hlt
      obtain ⟨m0, hm0⟩ : ∃ m0, (k + L.length - 1) % L.length = m0 := ⟨_, rfl⟩
      have hml0 : m0 < L.length := by rw [← hm0]; exact Nat.mod_lt _ (by omega)
      have hrem0 := rem_prev hlt
      rw [hm0] at hrem0
      obtain ⟨B', o', e', hB', z0, z1⟩ := (H.out.1.below hb).pt hml0
      simp at e'
      obtain ⟨rfl, rfl⟩ := e'
      have hcz : cy L m0 = cy L (k + L.length - 1) := by rw [← hm0, cy_mod]
      rw [hcz] at z0 z1
      have hv := okP_at H.out.2
      obtain ⟨s, hs⟩ : ∃ s, sd (cy L (k + L.length - 1)) (cy L k) (cy L (k + 1)) = s := ⟨_, rfl⟩
      have c2 := fun w => Lib.hid (sSideP (hv (k + L.length - 1)) (hv k) (hv (k + 1)) w)
      simp only [hs] at c2
      have hmk : marksTo L (k + 1) = marksTo L k ++ (if s = 0 then [] else [cy L k]) := by
        rw [marksTo_succ]
        unfold markB
        rw [hs]
        by_cases e : s = 0 <;> simp [e]
      have hml1' : (m1 : Int) < (L.length : Int) := by omega
      have hml0' : (m0 : Int) < (L.length : Int) := by omega
      have hn1 : -1000000 ≤ (k : Int) + (L.length : Int) - 1 := by omega
      have HK := Lib.hid (And.intro ho (And.intro hm (And.intro hb hmk)))
      clear hv hs hmk ho hm hb hm0 hm1 hcz hB'
      generalize (cy L (k + L.length - 1)).1 = a1 at *
      generalize (cy L (k + L.length - 1)).2 = a2 at *
      generalize (cy L (k + 1)).1 = b1 at *
      generalize (cy L (k + 1)).2 = b2 at *
      go_upto_region 8 with fail
      (refine wp_region_grows (by kernel_rfl) (by kernel_rfl) ?_; intro W_wg hWc_wg hWs_wg hWe_wg; (repeat (go_big_quiet_step ((go_at_call 80; with_reducible exact Ext.call ((c2 _).out))))); with_reducible refine wpQuiet_nil ?_; clear hWe_wg hWs_wg hWc_wg W_wg; intro wg hb_wg; obtain ⟨hc_wg, hf_wg⟩ := bcell hb_wg; (try simp only [World.size_drew, World.cell?_drew, World.frozen?_drew, World.heap_drewN, World.cell?_drewN, World.frozen?_drewN] at hc_wg hf_wg); have hs_wg := hb_wg.size; (try simp at hs_wg))
      have hoW : Own wg g 31 2 m cap (fl (marksTo L k)) := HK.out.1.below hb_wg
      have hbW : Below w.heap.size w wg := HK.out.2.2.1.trans (hb_wg.mono hbs)
      have hgW := hoW.lt
      have x0' := (hc_wg B (o + k * 2) hB).trans x0
      have x1' := (hc_wg B (o + k * 2 + 1) hB).trans x1
      have hBW : B < wg.heap.size := by omega
      have HL := Lib.hid (And.intro hoW hbW)
      clear hoW hbW hc_wg hf_wg hb_wg x0 x1 y0 y1 z0 z1 c2
      by_cases hz : s = 0
      · go_wp2_with fail
        go_roundw
        case rel =>
          have hmk := HK.out.2.2.2
          rw [if_pos hz, List.append_nil] at hmk
          exact ⟨k + 1, g, cap, m, by omega, by go_num, rfl, hg, by rw [hmk]; exact HL.out.1, by rw [hmk]; exact HK.out.2.1, HL.out.2⟩
        case measure => simp [intOf]; omega
      · have hO : Own (wg.alloc (.cells #[.int .i64 (cy L k).1, .int .i64 (cy L k).2] 31)) g 31 2 m cap (fl (marksTo L k)) := HL.out.1.alloc _
        have HO := Lib.hid hO
        clear hO
        go_wp2_with (at_builtin; refine wp_append _ rfl _ _ 23 rfl 31 _ 2 16 Try.underlying23 info_point rfl (by decide) (by decide) g m cap _ rfl HO.out _ 1 1 [(cy L k).1, (cy L k).2] rfl rfl (two_cellsM wg _ _ _) (by omega) ?_; intro g' cap' w' hown hgr hloc hlt; have HN := Lib.hid (And.intro hown (And.intro hgr (And.intro hloc hlt))); clear hown hgr hloc hlt)
        go_roundw
        case rel =>
          have hmk := HK.out.2.2.2
          rw [if_neg hz] at hmk
          have hloc := HN.out.2.2.1
          have hgr := HN.out.2.1
          have hsw := HL.out.2.size
          have hbA := HL.out.2.alloc hsw (.cells #[.int .i64 (cy L k).1, .int .i64 (cy L k).2] 31)
          refine ⟨k + 1, g', cap', m + 1, by omega, by go_num, rfl, ?_, ?_, ?_, ?_⟩
          · rcases hloc with h | h <;> (rw [h]; first | omega | (simp; omega))
          · rw [hmk, fl_append]
            exact HN.out.1
          · rw [hmk, List.length_append, ← HK.out.2.1.out]; exact Lib.hid rfl
          · exact below_gr hbA hgr hg (by simp; omega)
        case measure => simp [intOf]; omega
    · have e : k = L.length := by omega
      subst e
      have hlt' : ¬ (L.length : Int) < (L.length : Int) := by omega
      have HK := Lib.hid (And.intro ho (And.intro hm hb))
      clear ho hm hb
      go_wp2_with fail
      refine bodyPost_ret (v := .tuple #[.slice (some ⟨g, 0, none⟩) m cap, .bool true]) (by simp [results, Try.results50, go_sem]) rfl ?_
      obtain ⟨h1, h2, h3⟩ := HK.out
      rw [h2.out] at h1 ⊢
      exact ⟨g, cap, rfl, hg, h1, h3⟩
end
end Go.Proofs.Ytegcjdcinebleaa
