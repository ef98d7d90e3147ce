/-
  What the draw of the laws on heights gives: a net of at most eight runs and a height for each node, by new memory alone.
-/
import Derived.Test.YtfkpjphafdknaaaDNd
import Derived.Test.YtfkpjphafdknaaaDNc
import Derived.Test.YtfkpjphafdknaaaTrb
namespace Go.Proofs.Ytfkpjphafdknaaa
open Go.RowKit
set_option linter.unusedVariables false

theorem three_at (m : Int) (h0 : 0 ≤ m) (h1 : m < 3) (a b c : Int) : ∃ z : Int, (#[Value.int .i64 a, Value.int .i64 b, Value.int .i64 c] : Array Value)[m.toNat]? = some (.int .i64 z) := by
  have : m = 0 ∨ m = 1 ∨ m = 2 := by omega
  rcases this with rfl | rfl | rfl
  · exact ⟨a, rfl⟩
  · exact ⟨b, rfl⟩
  · exact ⟨c, rfl⟩
/-- what the draw gives -/
def FitsOf (w : World) (N m : Nat) (rs : List Rn) (hs : List Int) (p q : Option Addr) (w' : World) : Prop := (rs.length = m ∧ hs.length = N ∧ (2 ≤ N ∧ N ≤ 6) ∧ m ≤ 8) ∧ Runs w' p rs ∧ Ints w' q hs ∧ Below w.heap.size w w'

set_option maxHeartbeats 8000000 in
set_option maxRecDepth 100000 in
theorem drawFits_is (v : Value) (w : World) (h : Hid (Code' w v)) :
    Calls Try.prog 29 #[v] w fun e w' => ∃ (N m : Nat) (rs : List Rn) (hs : List Int) (p q : Nat), (∃ c d, m ≤ c ∧ e = .returned (.tuple #[.int .i64 N, .slice (some ⟨p, 0, none⟩) m c, .slice (some ⟨q, 0, none⟩) N d])) ∧ FitsOf w N m rs hs (some ⟨p, 0, none⟩) (some ⟨q, 0, none⟩) w' := by
  go_enter Try.func29, Try.ntmps29
  go_wp2_with (go_at_call 43; (with_reducible refine (open_any _ _ h).mono ?_); rintro e wo ⟨rfl, hR_wo, hb_wo, hz_wo⟩; have hs_wo := hb_wo.size; clear hz_wo)
  obtain ⟨R, hRe⟩ : ∃ R, R = w.heap.size := ⟨_, rfl⟩
  rw [← hRe] at hR_wo ⊢
  have hwR : w.heap.size ≤ R := by omega
  clear hRe h
  have hRlt := rdr_lt hR_wo
  go_upto_region 3 with (go_at_call 57; (with_reducible refine (true_is R _ hR_wo).mono ?_); rintro e wn ⟨N, rs, g, cap, m, rfl, hm, ⟨hN2, hN6⟩, hm8, hri, hR_wn⟩; have hs_wn := hri.2.2.size; have hlg := hri.2.1.lt; have hgw := hri.1; have hnc : m ≤ cap := (by obtain ⟨_, _, h, _⟩ := hri.2.1.body; omega); have HI := Lib.hid (And.intro hri (And.intro hR_wn hm)); clear hri hm)
  have hgR : g ≠ R := by omega
  obtain ⟨b, hb⟩ : ∃ b, nWhole N rs = b := ⟨_, rfl⟩
  have c1 := fun w p c h => Lib.hid (sWhole_at (p := p) (c := c) w HI.out.2.2 h (by omega) hb)
  have HB := Lib.hid hb
  clear hb
  cases b
  · go_upto_region 4 with ((go_at_call 40; (with_reducible refine ((c1 _ _ _ ?_).out).mono ?_); (focus ((exact HI.out.1.2.1.runs); done)); rintro e wv ⟨rfl, hb_wv⟩; have hs_wv := hb_wv.size; (try simp at hs_wv)))
    have hmx := fun (w : World) (ts : Array TypeId) (t : TypeId) => run_max Try.prog ts t 0 (N : Int) (N : Int) w (by omega)
    have hmk := fun w => made_ints w N (by omega)
    have HO := Lib.hid (Own.made wv 3 N 1 (by decide) (by unfold maxLen; omega))
    have hrv := Lib.hid (HI.out.1.below hb_wv)
    clear c1 hb_wv
    have hIn : Hid (Ints (wv.alloc (.cells (madeCells #[.int .i64 0] N) 3)) (some ⟨wv.heap.size, 0, none⟩) (List.replicate N 0)) := Lib.hid (by have := HO.out.ints; simpa using this)
    have hRu : Hid (Runs (wv.alloc (.cells (madeCells #[.int .i64 0] N) 3)) (some ⟨g, 0, none⟩) rs) := Lib.hid (hrv.out.2.1.runs.alloc _)
    have hBl : Hid (Below w.heap.size w (wv.alloc (.cells (madeCells #[.int .i64 0] N) 3))) := Lib.hid (by
      have hb1 : Below w.heap.size w wv := below_gb hb_wo hrv.out.2.2 hwR hb_wo.size
      exact hb1.alloc hb1.size _)
    clear HO hrv
    go_region_with fail
    all_goals go_wp2_with fail
    all_goals (refine bodyPost_ret (v := .tuple #[.int .i64 N, .slice (some ⟨g, 0, none⟩) m cap, .slice (some ⟨wv.heap.size, 0, none⟩) N N]) (by simp [results, Try.results29, go_sem]) rfl ⟨N, m, rs, List.replicate N 0, g, wv.heap.size, ⟨cap, N, hnc, rfl⟩, ⟨HI.out.2.2, by simp, ⟨hN2, hN6⟩, hm8⟩, ?_, ?_, ?_⟩)
    all_goals first | exact hRu.out | exact hIn.out | exact hBl.out | exact below_drew hBl.out | exact ⟨hBl.out.os, hBl.out.tape, hBl.out.output, hBl.out.size, hBl.out.block⟩
  · go_upto_region 5 with ((go_at_call 40; (with_reducible refine ((c1 _ _ _ ?_).out).mono ?_); (focus ((exact HI.out.1.2.1.runs); done)); rintro e wv ⟨rfl, hb_wv⟩; have hs_wv := hb_wv.size; (try simp at hs_wv)))
    have HV := Lib.hid (And.intro (HI.out.1.below hb_wv) (And.intro (rdr_chain HI.out.2.1 hb_wv) HI.out.2.2))
    have hsv := HV.out.1.2.2.size
    have hlv := HV.out.1.2.1.lt
    clear c1 HI hR_wn hb_wv hs_wv
    have c2 := Lib.hid (sFirst N m (some ⟨g, 0, none⟩) cap rs wv HV.out.1.2.1.runs HV.out.2.2 HB.out)
    go_upto_region 6 with (go_at_call 58; (with_reducible refine (c2.out).mono ?_); rintro e wt ⟨T, gt, ct, kt, rfl, hF, hTk, hgt, ot, hb_wt⟩; have hs_wt := hb_wt.size; have HT := Lib.hid (And.intro hF (And.intro hTk ot)); clear hF hTk ot)
    have c3 := Lib.hid (sTreeHeights N m kt (some ⟨g, 0, none⟩) (some ⟨gt, 0, none⟩) cap ct rs T wt (HV.out.1.2.1.runs.below hb_wt) HT.out.2.2.ints HV.out.2.2 HT.out.2.1 HT.out.1 HB.out)
    go_upto_region 7 with (go_at_call 59; (with_reducible refine (c3.out).mono ?_); rintro e wh ⟨L, gh, rfl, hgh, oh, hb_wh⟩; have hs_wh := hb_wh.size; have HH := Lib.hid oh; clear oh)
    have HX := Lib.hid (And.intro ((HV.out.1.below hb_wt).below hb_wh) (rdr_chain (rdr_chain HV.out.2.1 hb_wt) hb_wh))
    have HM := Lib.hid HV.out.2.2
    have hlh := HH.out.lt
    have hrh := HX.out.2
    have hghg : gh ≠ g := by omega
    have hghR : gh ≠ R := by omega
    have hgwh : wo.heap.size ≤ gh := by omega
    have hRh : R < wh.heap.size := by omega
    clear c2 c3 HV HT hb_wt hb_wh
    go_upto_region 9 with ((go_at_call 45; (with_reducible refine (pick_any (90) R (20) _ ?_ (by omega) (by omega) (by omega)).mono ?_); (focus ((repeat (first | with_reducible assumption | (with_reducible refine rdr_drewN ?_ _) | (with_reducible refine rdr_drew ?_) | (with_reducible refine rdr_alloc ?_ _) | (with_reducible refine rdr_setCell ?_ (by first | omega | (simp <;> omega) | simp) _) | (with_reducible refine rdr_chain ?_ (by with_reducible assumption)))); done)); rintro e wp ⟨m_wp, hm0_wp, hm1_wp, rfl, hR_wp, hg_wp, hq_wp⟩; have hs_wp := Nat.le_of_eq hq_wp; have ht_wp := Nat.le_of_eq hq_wp.symm; (try simp at hs_wp); (try simp at ht_wp); clear hq_wp))
    have HQ := Lib.hid (And.intro (HX.out.1.moved hg_wp hgR) (And.intro hR_wp (HH.out.grown hg_wp hghR)))
    clear HX HH hrh hg_wp hR_wp
    go_loopw [13] (fun i wr => ∃ (k : Nat) (L : List Int), k ≤ N ∧ i = .int .i64 k ∧ RunsIn wo wr R g cap rs ∧ Rdr 91 wr R ∧ Own wr gh 3 1 N N L) (fun i _ => N - (intOf i).toNat)
    case atStart => exact ⟨0, L, Nat.zero_le _, rfl, HQ.out.1, HQ.out.2.1, HQ.out.2.2⟩
    case round =>
      clear HQ
      obtain ⟨k, L, hk, rfl, hri, hrd, how⟩ := hrel
      have hlo := how.lt
      have hLl := how.len
      have hbs := hri.2.2.size
      have HO := Lib.hid (And.intro hri (And.intro hrd how))
      by_cases hlt : k < N
      · have y1 := how.cells (htAt_get (L := L) (x := (k : Int)) (by omega) (by omega))
        rw [Int.toNat_natCast] at y1
        have f1 := how.frozen k
        generalize htAt L (k : Int) = z at y1
        clear how hri hrd
        go_wp2_with fail
        go_roundw
        case rel => exact ⟨k + 1, L.set k _, by omega, by go_num, ⟨hgw, HO.out.1.2.1.setOther (by simpa using hghg.symm) _, gb_new HO.out.1.2.2 hgwh _⟩, rdr_setCell (a := ⟨gh, k, none⟩) HO.out.2.1 (by omega : R < gh) _, HO.out.2.2.set k _ (by omega)⟩
        case measure => simp [intOf]; omega
      · have e : k = N := by omega
        subst e
        have hRr : R < wo.heap.size := hRlt
        clear how
        go_wp2_with (first | (go_at_call 45; (with_reducible refine (pick_any (91) R (8) _ ?_ (by omega) (by omega) (by omega)).mono ?_); (focus ((repeat (first | with_reducible assumption | (with_reducible refine rdr_drewN ?_ _) | (with_reducible refine rdr_drew ?_) | (with_reducible refine rdr_alloc ?_ _) | (with_reducible refine rdr_setCell ?_ (by first | omega | (simp <;> omega) | simp) _) | (with_reducible refine rdr_chain ?_ (by with_reducible assumption)))); done)); rintro e wq ⟨m_wq, hm0_wq, hm1_wq, rfl, hR_wq, hg_wq, hq_wq⟩; have hs_wq := Nat.le_of_eq hq_wq; have ht_wq := Nat.le_of_eq hq_wq.symm; (try simp at hs_wq); (try simp at ht_wq); clear hq_wq) | ((go_at_call 45; (with_reducible refine (pick_any (91 + 1) R ((k : Int)) _ ?_ (by omega) (by omega) (by omega)).mono ?_); (focus ((repeat (first | with_reducible assumption | (with_reducible refine rdr_drewN ?_ _) | (with_reducible refine rdr_drew ?_) | (with_reducible refine rdr_alloc ?_ _) | (with_reducible refine rdr_setCell ?_ (by first | omega | (simp <;> omega) | simp) _) | (with_reducible refine rdr_chain ?_ (by with_reducible assumption)))); done)); rintro e wi ⟨m_wi, hm0_wi, hm1_wi, rfl, hR_wi, hg_wi, hq_wi⟩; have hs_wi := Nat.le_of_eq hq_wi; have ht_wi := Nat.le_of_eq hq_wi.symm; (try simp at hs_wi); (try simp at ht_wi); clear hq_wi); have hli : R < wi.heap.size := (by omega)) | ((go_at_call 45; (with_reducible refine (pick_any (91 + 1 + 1) R (3) _ ?_ (by omega) (by omega) (by omega)).mono ?_); (focus ((repeat (first | with_reducible assumption | (with_reducible refine rdr_drewN ?_ _) | (with_reducible refine rdr_drew ?_) | (with_reducible refine rdr_alloc ?_ _) | (with_reducible refine rdr_setCell ?_ (by first | omega | (simp <;> omega) | simp) _) | (with_reducible refine rdr_chain ?_ (by with_reducible assumption)))); done)); rintro e wj ⟨m_wj, hm0_wj, hm1_wj, rfl, hR_wj, hg_wj, hq_wj⟩; have hs_wj := Nat.le_of_eq hq_wj; have ht_wj := Nat.le_of_eq hq_wj.symm; (try simp at hs_wj); (try simp at ht_wj); clear hq_wj); obtain ⟨zq, hzq⟩ := three_at m_wj hm0_wj hm1_wj 1000000 1000001 3; have ez : wj.cell? ⟨wi.heap.size, m_wj.toNat, none⟩ = some (.int .i64 zq) := (by rw [(gcell hg_wj).1 _ _ (by simp) (by omega)]; simp [hzq]); have oq := ((((HO.out.2.2.grown hg_wq hghR).grown hg_wi hghR).alloc (.cells #[.int .i64 1000000, .int .i64 1000001, .int .i64 3] 3)).grown hg_wj hghR); have fq := oq.frozen m_wi.toNat; have hlq := oq.lt; obtain ⟨zi, hzi⟩ : ∃ zi, L[m_wi.toNat]? = some zi := (⟨_, List.getElem?_eq_getElem (by omega)⟩); have ei := oq.cells hzi; have OQ := Lib.hid oq; clear oq hzi))
        · have hr5 := (((HO.out.1.moved hg_wq hgR).moved hg_wi hgR).alloc (.cells #[.int .i64 1000000, .int .i64 1000001, .int .i64 3] 3)).moved hg_wj hgR
          refine bodyPost_ret (v := .tuple #[.int .i64 k, .slice (some ⟨g, 0, none⟩) m cap, .slice (some ⟨gh, 0, none⟩) k k]) (by simp [results, Try.results29, go_sem]) rfl ⟨k, m, rs, L.set m_wi.toNat zq, g, gh, ⟨cap, k, hnc, rfl⟩, ⟨HM.out, by simp; omega, ⟨hN2, hN6⟩, hm8⟩, ?_, ?_, ?_⟩
          · exact (hr5.2.1.setOther (by simpa using hghg.symm) _).runs
          · exact (OQ.out.set m_wi.toNat zq (by omega)).ints
          · exact below_gb hb_wo (gb_new hr5.2.2 hgwh _) hwR hb_wo.size
        · have hr5 := HO.out.1.moved hg_wq hgR
          refine bodyPost_ret (v := .tuple #[.int .i64 k, .slice (some ⟨g, 0, none⟩) m cap, .slice (some ⟨gh, 0, none⟩) k k]) (by simp [results, Try.results29, go_sem]) rfl ⟨k, m, rs, L, g, gh, ⟨cap, k, hnc, rfl⟩, ⟨HM.out, by omega, ⟨hN2, hN6⟩, hm8⟩, ?_, ?_, ?_⟩
          · exact hr5.2.1.runs
          · exact (HO.out.2.2.grown hg_wq hghR).ints
          · exact below_gb hb_wo hr5.2.2 hwR hb_wo.size
end Go.Proofs.Ytfkpjphafdknaaa
