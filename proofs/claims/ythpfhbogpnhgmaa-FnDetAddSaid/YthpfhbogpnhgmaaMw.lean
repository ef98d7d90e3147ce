/-
  The reference model's MatTimes.
-/
import Derived.Test.YthpfhbogpnhgmaaMv
namespace Go.Proofs.Ythpfhbogpnhgmaa
open Go.RowKit
set_option linter.unusedVariables false

/-- what two matrices that are valid give -/
def TimesAt (w : World) (k : Nat) (v : Bool) (f : Mx) (e : Ending) (w' : World) : Prop :=
  (v = true → ∃ g cap bs, e = .returned (.tuple #[.slice (some ⟨g, 0, none⟩) k cap, .bool true]) ∧ GridO w' 3 29 w.heap.size g cap bs (mkL k f)) ∧
  (v = false → ∃ g, e = .returned (.tuple #[.slice (some ⟨g, 0, none⟩) 0 0, .bool false])) ∧ Below w.heap.size w w'
theorem ent_at {L : List (List Int)} {i j : Nat} {r : List Int} {z : Int} (hr : L[i]? = some r) (hz : r[j]? = some z) : ent L i j = z := by unfold ent; rw [rowL_at hr, num_at hz]
set_option maxHeartbeats 8000000 in
set_option maxRecDepth 100000 in
theorem sMatTimes_ok (k c d : Nat) (p q : Option Addr) (A B : List (List Int)) (v : Bool) (w : World) (h : GRead w p A) (hq : GRead w q B) (hk : A.length = k) (hk2 : B.length = k) (ha : matOk A = true) (hb : matOk B = true) (hv : matOk (mkL k (mul k (ent A) (ent B))) = v) :
    Calls Try.prog 21 #[.slice p k c, .slice q k d] w (TimesAt w k v (mul k (ent A) (ent B))) := by
  have hk5 : k ≤ 5 := by have := (matOk_true.1 ha).2.1; omega
  have hk1 : 1 ≤ k := by have := (matOk_true.1 ha).1; omega
  have c1 := fun w h => Lib.hid (sMatValid k c p A true w h hk (by omega) ha)
  have c2 := fun w h => Lib.hid (sMatValid k d q B true w h hk2 (by omega) hb)
  have c3 := fun g cap w h => Lib.hid (sMatValid k cap (some ⟨g, 0, none⟩) (mkL k (mul k (ent A) (ent B))) v w h mkL_len (by omega) hv)
  have sa : SmE k 1000 (ent A) := by rw [← hk]; exact matOk.small ha
  have sb : SmE k 1000 (ent B) := by rw [← hk2]; exact matOk.small hb
  have qa : Sq k A := by rw [← hk]; exact matOk.sq ha
  have qb : Sq k B := by rw [← hk2]; exact matOk.sq hb
  have H := Lib.hid (And.intro h (And.intro hq (And.intro qa (And.intro qb (And.intro sa sb)))))
  have HE := Lib.hid (GridO.empty w 3 29 w.heap.size (Nat.le_refl _))
  obtain ⟨F, hF⟩ : ∃ F, mul k (ent A) (ent B) = F := ⟨_, rfl⟩
  rw [hF] at c3 ⊢
  have HF : Hid (∀ i j, F i j = smn k (fun x => ent A i x * ent B x j)) := Lib.hid (fun i j => by rw [← hF]; rfl)
  clear h hq hk hk2 ha hb hv sa sb qa qb hF
  go_enter Try.func21, Try.ntmps21
  go_wp2_with (first
    | (go_at_call 31; (with_reducible refine ((c1 _ ?_).out).mono ?_); (focus (exact H.out.1.alloc _; done)); rintro e w' ⟨rfl, rfl⟩)
    | (go_at_call 31; (with_reducible refine ((c2 _ ?_).out).mono ?_); (focus (exact H.out.2.1.alloc _; done)); rintro e w' ⟨rfl, rfl⟩))
  clear c1 c2
  go_loopw [6, 7] (fun o i wr => ∃ (j g cap : Nat) (bs : List (Nat × Nat)), j ≤ k ∧ i = .int .i64 j ∧ o = .slice (some ⟨g, 0, none⟩) j cap ∧ GridO wr 3 29 w.heap.size g cap bs ((mkL k F).take j) ∧ Below w.heap.size w wr) (fun _ i _ => k - (intOf i).toNat)
  case atStart => exact ⟨0, _, _, _, Nat.zero_le _, rfl, rfl, HE.out, (by repeat (first | assumption | exact Below.refl _ _ | (refine below_chain ?_ (by assumption) (by first | omega | (simp <;> omega) | simp)) | (refine Below.alloc ?_ (by first | omega | (simp <;> omega) | simp) _) | (apply below_drewN) | (apply below_drew) | (refine Below.setCell ?_ (by first | omega | (simp <;> omega) | simp) _)))⟩
  case round =>
    clear HE
    rename World => wr
    obtain ⟨j, g, cap, bs, hj, rfl, rfl, hg, hbr⟩ := hrel
    have hbs := hbr.size
    have hlg := hg.lt
    by_cases hlt : j < k
    · have hlt' : (j : Int) < (k : Int) := by omega
      have HG := Lib.hid (And.intro hg hbr)
      have hzb := hg.z
      have HZ := Lib.hid hzb
      have HW := Lib.hid (And.intro (H.out.1.below hbr) (H.out.2.1.below hbr))
      clear hg hbr hzb
      go_wp2_with fail
      have HE := Lib.hid (Own.empty wr 3 1)
      go_loopw [8, 9] (fun o i wz => ∃ (y gr cr : Nat), y ≤ k ∧ i = .int .i64 y ∧ o = .slice (some ⟨gr, 0, none⟩) y cr ∧ wr.heap.size ≤ gr ∧ Own wz gr 3 1 y cr ((List.range y).map (fun i => F j i)) ∧ Below wr.heap.size wr wz) (fun _ i _ => k - (intOf i).toNat)
      case atStart => exact ⟨0, _, _, Nat.zero_le _, rfl, rfl, Nat.le_refl _, HE.out, (by repeat (first | assumption | exact Below.refl _ _ | (refine below_chain ?_ (by assumption) (by first | omega | (simp <;> omega) | simp)) | (refine Below.alloc ?_ (by first | omega | (simp <;> omega) | simp) _) | (apply below_drewN) | (apply below_drew) | (refine Below.setCell ?_ (by first | omega | (simp <;> omega) | simp) _)))⟩
      case round =>
        clear HE
        rename World => wz
        obtain ⟨y, gr, cr, hy, rfl, rfl, hgr, ho, hbz⟩ := hrel
        have hsz := hbz.size
        have hlo := ho.lt
        have HX := Lib.hid (And.intro ho hbz)
        by_cases hyk : y < k
        · have hyk' : (y : Int) < (k : Int) := by omega
          clear ho hbz
          go_wp2_with fail
          go_loopw [10, 11] (fun s i wq => ∃ x : Nat, x ≤ k ∧ i = .int .i64 x ∧ s = .int .i64 (smn x (fun i => ent A j i * ent B i y)) ∧ Below wz.heap.size wz wq) (fun _ i _ => k - (intOf i).toNat)
          case atStart => exact ⟨0, Nat.zero_le _, rfl, rfl, Below.refl _ _⟩
          case round =>
            rename World => wq
            obtain ⟨x, hx, rfl, rfl, hbq⟩ := hrel
            have hsq := hbq.size
            have hsb := sm_abs (n := x) (f := fun i => ent A j i * ent B i y) (c := 1000000) (fun i hi => by
              have := abs_mul (H.out.2.2.2.2.1 j i hlt (by omega)) (H.out.2.2.2.2.2 i y (by omega) hyk); omega)
            obtain ⟨s, hs⟩ : ∃ s, smn x (fun i => ent A j i * ent B i y) = s := ⟨_, rfl⟩
            rw [hs] at hsb ⊢
            have hsb2 : -5000000 ≤ s ∧ s ≤ 5000000 := by omega
            obtain ⟨s0, s1⟩ := hsb2
            clear hsb
            by_cases hxk : x < k
            · have hbzq := HX.out.2.trans (hbq.mono hsz)
              obtain ⟨B1, o1, r1, q1, cq1, rfl, hr1, hB1, e0, hcq1, hi1⟩ := (HW.out.1.below hbzq).at (i := j) (by rw [H.out.2.2.1.1]; exact hlt)
              have hrl1 : r1.length = k := H.out.2.2.1.2 r1 (List.mem_of_getElem? hr1)
              rw [hrl1] at e0 hcq1
              obtain ⟨A1, oA1, z1, rfl, hz1, hA1, e1⟩ := hi1.at (i := x) (by rw [hrl1]; exact hxk)
              obtain ⟨B2, o2, r2, q2, cq2, rfl, hr2, hB2, e2, hcq2, hi2⟩ := (HW.out.2.below hbzq).at (i := x) (by rw [H.out.2.2.2.1.1]; exact hxk)
              have hrl2 : r2.length = k := H.out.2.2.2.1.2 r2 (List.mem_of_getElem? hr2)
              rw [hrl2] at e2 hcq2
              obtain ⟨A2, oA2, z2, rfl, hz2, hA2, e3⟩ := hi2.at (i := y) (by rw [hrl2]; exact hyk)
              have ha := ent_at hr1 hz1
              have hb := ent_at hr2 hz2
              have hla := H.out.2.2.2.2.1 j x hlt hxk
              have hlb := H.out.2.2.2.2.2 x y hxk hyk
              rw [ha] at hla
              rw [hb] at hlb
              have hpb := abs_mul hla hlb
              obtain ⟨p0, p1⟩ := hpb
              have hxk' : (x : Int) < (k : Int) := by omega
              have HN : Hid (smn (x + 1) (fun i => ent A j i * ent B i y) = s + z1 * z2) := Lib.hid (by simp only [smn]; rw [hs, ha, hb])
              have HQ := Lib.hid hbq
              clear hs hr1 hrl1 hz1 hi1 hr2 hrl2 hz2 hi2 ha hb hla hlb hbq hbzq
              go_wp2_with fail
              (refine wp_region_grows (by kernel_rfl) (by kernel_rfl) ?_; intro W_wg hWc_wg hWs_wg hWe_wg; (repeat (go_big_quiet_step (fail))); with_reducible refine wpQuiet_nil ?_; clear hWe_wg hWs_wg hWc_wg W_wg; intro wg hb_wg; obtain ⟨hc_wg, hf_wg⟩ := bcell hb_wg; (try simp only [World.size_drew, World.cell?_drew, World.frozen?_drew, World.heap_drewN, World.cell?_drewN, World.frozen?_drewN] at hc_wg hf_wg); have hs_wg := hb_wg.size; (try simp at hs_wg))
              go_wp2_with fail
              go_roundw
              case rel => exact ⟨x + 1, by omega, by go_num, by rw [HN.out], HQ.out.trans (hb_wg.mono hsq)⟩
              case measure => simp [intOf]; omega
            · have e : x = k := by omega
              subst e
              have HN : Hid (F j y = s) := Lib.hid (by rw [HF.out, hs])
              have HQ := Lib.hid hbq
              clear hs hbq
              have hlq : gr < wq.heap.size := by omega
              go_wp2_with (at_builtin; refine wp_append _ rfl _ _ 29 rfl 3 _ 1 8 Try.underlying29 info_int rfl (by decide) (by decide) gr y cr _ rfl ((HX.out.1.below HQ.out).alloc _) _ _ _ [s] rfl rfl (one_cellA _ _ _) (by omega) ?_; intro g1 d1 w1 hown hg1 hloc hsz1; have HN1 := Lib.hid (And.intro hown (And.intro hg1 hloc)); clear hown hg1 hloc)
              obtain ⟨hown, hg1, hloc⟩ := HN1.out
              rw [← HN.out, rng_snoc (f := fun i => F j i)] at hown
              exact ⟨⟨y + 1, g1, d1, by omega, by go_num, rfl, by rcases hloc with e | e; (omega); (simp at e; omega), hown, below_gr ((HX.out.2.trans (HQ.out.mono hsz)).alloc (by omega) _) hg1 hgr (by simp; omega)⟩, by simp [intOf]; omega⟩
        · have e : y = k := by omega
          subst e
          have hxl : ((mkL y F).take j).length = j := by rw [List.length_take, mkL_len]; omega
          clear ho hbz
          have hT : Hid (GridO wz 3 29 w.heap.size g cap bs ((mkL y F).take j)) := Lib.hid (HG.out.1.below HX.out.2)
          go_wp2_with (at_builtin; refine wp_appendV _ rfl _ _ 23 rfl 29 _ 24 Try.underlying23 info_ints rfl (by decide) g j cap (rowVs bs ((mkL y F).take j)) rfl (by have := (hT.out.alloc (.cells #[.slice (some ⟨gr, 0, none⟩) y cr] 29)).top; rw [hxl] at this; exact this) ⟨wz.heap.size, 0, none⟩ 1 1 [.slice (some ⟨gr, 0, none⟩) y cr] rfl rfl (cell_one_new wz _ _) (by intro u hu; simp at hu; subst hu; rfl) (by omega) ?_; intro g3 d3 w3 hown3 hg3 hloc3 hsz3; have HN3 := Lib.hid (And.intro hown3 (And.intro hg3 hloc3)); clear hown3 hg3 hloc3)
          obtain ⟨hown3, hg3, hloc3⟩ := HN3.out
          have hgg := (hT.out.alloc (.cells #[.slice (some ⟨gr, 0, none⟩) y cr] 29)).push hxl (row := (List.range y).map (fun i => F j i)) (by simp) hg3 hloc3 hown3 (HX.out.1.alloc _) ⟨by omega, by omega⟩ (fun i b' c' hb' e => by have := HZ.out i b' c' hb'; omega)
          have htk : (mkL y F).take j ++ [(List.range y).map (fun i => F j i)] = (mkL y F).take (j + 1) := mkL_step hlt
          rw [htk] at hgg
          exact ⟨⟨j + 1, g3, d3, _, by omega, by go_num, rfl, hgg, below_gr ((HG.out.2.trans (HX.out.2.mono hbs)).alloc (by omega) _) hg3 HG.out.1.low (by simp; omega)⟩, by simp [intOf]; omega⟩
    · have e : j = k := by omega
      subst e
      rw [List.take_of_length_le (by rw [mkL_len]; omega)] at hg
      have HX := Lib.hid (And.intro hg hbr)
      clear hg hbr
      cases v
      · go_wp2_with (go_at_call 31; (with_reducible refine ((c3 _ _ _ ?_).out).mono ?_); (focus (exact HX.out.1.read; done)); rintro e w' ⟨rfl, rfl⟩)
        refine bodyPost_ret (v := .tuple #[.slice (some ⟨wr.heap.size, 0, none⟩) 0 0, .bool false]) (by simp [results, Try.results21, go_sem]) rfl ⟨(fun h => by cases h), fun _ => ⟨_, rfl⟩, HX.out.2.alloc hbs _⟩
      · go_wp2_with (go_at_call 31; (with_reducible refine ((c3 _ _ _ ?_).out).mono ?_); (focus (exact HX.out.1.read; done)); rintro e w' ⟨rfl, rfl⟩)
        refine bodyPost_ret (v := .tuple #[.slice (some ⟨g, 0, none⟩) j cap, .bool true]) (by simp [results, Try.results21, go_sem]) rfl ⟨fun _ => ⟨g, cap, bs, rfl, HX.out.1⟩, (fun h => by cases h), HX.out.2⟩
set_option maxHeartbeats 1000000 in
theorem sMatTimes_no (k n c d : Nat) (p q : Option Addr) (A B : List (List Int)) (w : World) (h : GRead w p A) (hq : GRead w q B) (hk : A.length = k) (hn : B.length = n) (hl : k ≤ 4000000000000000000) (hl2 : n ≤ 4000000000000000000) (hno : ¬ (matOk A = true ∧ matOk B = true ∧ k = n)) :
    Calls Try.prog 21 #[.slice p k c, .slice q n d] w fun e w' => (∃ g, e = .returned (.tuple #[.slice (some ⟨g, 0, none⟩) 0 0, .bool false])) ∧ Below w.heap.size w w' := by
  obtain ⟨u, hu⟩ : ∃ u, matOk A = u := ⟨_, rfl⟩
  obtain ⟨v, hv⟩ : ∃ v, matOk B = v := ⟨_, rfl⟩
  have c1 := fun w h => Lib.hid (sMatValid k c p A u w h hk hl hu)
  have c2 := fun w h => Lib.hid (sMatValid n d q B v w h hn hl2 hv)
  have H := Lib.hid (And.intro h hq)
  have hne : u = true → v = true → ¬ (k : Int) = (n : Int) := fun h1 h2 h3 => hno ⟨by rw [hu, h1], by rw [hv, h2], by omega⟩
  clear h hq hk hn hno hu hv
  cases u
  · clear hne
    go_enter Try.func21, Try.ntmps21
    go_wp2_with (go_at_call 31; (with_reducible refine ((c1 _ ?_).out).mono ?_); (focus (exact H.out.1.alloc _; done)); rintro e w' ⟨rfl, rfl⟩)
    refine bodyPost_ret (v := .tuple #[.slice (some ⟨w.heap.size, 0, none⟩) 0 0, .bool false]) (by simp [results, Try.results21, go_sem]) rfl ⟨⟨_, rfl⟩, (by repeat (first | assumption | exact Below.refl _ _ | (refine below_chain ?_ (by assumption) (by first | omega | (simp <;> omega) | simp)) | (refine Below.alloc ?_ (by first | omega | (simp <;> omega) | simp) _) | (apply below_drewN) | (apply below_drew) | (refine Below.setCell ?_ (by first | omega | (simp <;> omega) | simp) _)))⟩
  · cases v
    · clear hne
      go_enter Try.func21, Try.ntmps21
      go_wp2_with (first
        | (go_at_call 31; (with_reducible refine ((c1 _ ?_).out).mono ?_); (focus (exact H.out.1.alloc _; done)); rintro e w' ⟨rfl, rfl⟩)
        | (go_at_call 31; (with_reducible refine ((c2 _ ?_).out).mono ?_); (focus (exact H.out.2.alloc _; done)); rintro e w' ⟨rfl, rfl⟩))
      refine bodyPost_ret (v := .tuple #[.slice (some ⟨w.heap.size, 0, none⟩) 0 0, .bool false]) (by simp [results, Try.results21, go_sem]) rfl ⟨⟨_, rfl⟩, (by repeat (first | assumption | exact Below.refl _ _ | (refine below_chain ?_ (by assumption) (by first | omega | (simp <;> omega) | simp)) | (refine Below.alloc ?_ (by first | omega | (simp <;> omega) | simp) _) | (apply below_drewN) | (apply below_drew) | (refine Below.setCell ?_ (by first | omega | (simp <;> omega) | simp) _)))⟩
    · have hne' := hne rfl rfl
      clear hne
      go_enter Try.func21, Try.ntmps21
      go_wp2_with (first
        | (go_at_call 31; (with_reducible refine ((c1 _ ?_).out).mono ?_); (focus (exact H.out.1.alloc _; done)); rintro e w' ⟨rfl, rfl⟩)
        | (go_at_call 31; (with_reducible refine ((c2 _ ?_).out).mono ?_); (focus (exact H.out.2.alloc _; done)); rintro e w' ⟨rfl, rfl⟩))
      refine bodyPost_ret (v := .tuple #[.slice (some ⟨w.heap.size, 0, none⟩) 0 0, .bool false]) (by simp [results, Try.results21, go_sem]) rfl ⟨⟨_, rfl⟩, (by repeat (first | assumption | exact Below.refl _ _ | (refine below_chain ?_ (by assumption) (by first | omega | (simp <;> omega) | simp)) | (refine Below.alloc ?_ (by first | omega | (simp <;> omega) | simp) _) | (apply below_drewN) | (apply below_drew) | (refine Below.setCell ?_ (by first | omega | (simp <;> omega) | simp) _)))⟩
end Go.Proofs.Ythpfhbogpnhgmaa
