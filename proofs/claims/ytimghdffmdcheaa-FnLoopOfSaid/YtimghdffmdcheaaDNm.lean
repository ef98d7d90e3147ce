/-
  What the draws of the laws on loops give.
-/
import Derived.Test.YtimghdffmdcheaaDNl
import Derived.Test.YtimghdffmdcheaaDNc
namespace Go.Proofs.Ytimghdffmdcheaa
open Go.RowKit
set_option linter.unusedVariables false

/-- what a draw of a net and of numbers gives -/
def LoopOfD (w : World) (N m k : Nat) (rs : List Rn) (T : List Int) (p q d : Nat) (w' : World) : Prop := (rs.length = m ∧ T.length = k ∧ (2 ≤ N ∧ N ≤ 6) ∧ m ≤ 8 ∧ k ≤ 12 ∧ k ≤ d) ∧ Runs w' (some ⟨p, 0, none⟩) rs ∧ Ints w' (some ⟨q, 0, none⟩) T ∧ Below w.heap.size w w'
set_option maxHeartbeats 2000000 in
theorem drawLoop_is (v : Value) (w : World) (h : Hid (Code' w v)) :
    Calls Try.prog 15 #[v] w fun e w' => ∃ (N m k : Nat) (rs : List Rn) (T : List Int) (p q d : Nat), (∃ c, e = .returned (.tuple #[.int .i64 N, .slice (some ⟨p, 0, none⟩) m c, .slice (some ⟨q, 0, none⟩) k d])) ∧ LoopOfD w N m k rs T p q d w' := by
  go_enter Try.func15, Try.ntmps15
  go_wp2_with (first | (go_at_call 50; (with_reducible refine (open_any _ _ h).mono ?_); rintro e wo ⟨rfl, hR_wo, hb_wo, hz_wo⟩; have hs_wo := hb_wo.size; clear hz_wo) | (go_at_call 49; (with_reducible refine (loop_is _ _ hR_wo).mono ?_); rintro e wn ⟨N, m, k, rs, T, p, q, d, ⟨c, rfl⟩, hn⟩; have HX := Lib.hid hn; clear hn))
  obtain ⟨h1, h2, h3, h4⟩ := HX.out
  exact bodyPost_ret (v := .tuple #[.int .i64 N, .slice (some ⟨p, 0, none⟩) m c, .slice (some ⟨q, 0, none⟩) k d]) (by simp [results, Try.results15, go_sem]) rfl ⟨N, m, k, rs, T, p, q, d, ⟨c, rfl⟩, h1, h2, h3, below_gb hb_wo h4 (Nat.le_refl _) hb_wo.size⟩
set_option maxHeartbeats 2000000 in
theorem drawLoopBack_is (v : Value) (w : World) (h : Hid (Code' w v)) :
    Calls Try.prog 21 #[v] w fun e w' => ∃ (N m k : Nat) (rs : List Rn) (T : List Int) (p q d : Nat), (∃ c, e = .returned (.tuple #[.int .i64 N, .slice (some ⟨p, 0, none⟩) m c, .slice (some ⟨q, 0, none⟩) k d])) ∧ LoopOfD w N m k rs T p q d w' := by
  go_enter Try.func21, Try.ntmps21
  go_wp2_with (first | (go_at_call 50; (with_reducible refine (open_any _ _ h).mono ?_); rintro e wo ⟨rfl, hR_wo, hb_wo, hz_wo⟩; have hs_wo := hb_wo.size; clear hz_wo) | (go_at_call 49; (with_reducible refine (loop_is _ _ hR_wo).mono ?_); rintro e wn ⟨N, m, k, rs, T, p, q, d, ⟨c, rfl⟩, hn⟩; have HX := Lib.hid hn; clear hn))
  obtain ⟨h1, h2, h3, h4⟩ := HX.out
  exact bodyPost_ret (v := .tuple #[.int .i64 N, .slice (some ⟨p, 0, none⟩) m c, .slice (some ⟨q, 0, none⟩) k d]) (by simp [results, Try.results21, go_sem]) rfl ⟨N, m, k, rs, T, p, q, d, ⟨c, rfl⟩, h1, h2, h3, below_gb hb_wo h4 (Nat.le_refl _) hb_wo.size⟩

set_option maxHeartbeats 4000000 in
theorem drawLoopOf_is (v : Value) (w : World) (h : Hid (Code' w v)) :
    Calls Try.prog 25 #[v] w fun e w' => ∃ (N m : Nat) (rs : List Rn) (p : Nat) (k : Int), (∃ c, e = .returned (.tuple #[.int .i64 N, .slice (some ⟨p, 0, none⟩) m c, .int .i64 k])) ∧ rs.length = m ∧ NetOf w N rs (some ⟨p, 0, none⟩) w' ∧ -1 ≤ k ∧ k ≤ 8 := by
  have net_at : ∀ R wz, Rdr 0 wz R → Calls Try.prog 58 #[.pointer (some ⟨R, 0, none⟩), .int .i64 6] wz fun e w' => ∃ (N : Nat) (rs : List Rn) (g cap m : Nat), e = .returned (.tuple #[.int .i64 N, .slice (some ⟨g, 0, none⟩) m cap]) ∧ rs.length = m ∧ (2 ≤ N ∧ N ≤ 6) ∧ m ≤ 8 ∧ RunsIn wz w' R g cap rs ∧ Rdr 60 w' R :=
    fun R w h => (net_is R w h).mono fun e w' ⟨N, rs, g, cap, he, hN, hl, hr, hR⟩ => ⟨N, rs, g, cap, rs.length, he, rfl, hN, hl, hr, hR⟩
  go_enter Try.func25, Try.ntmps25
  go_wp2_with (go_at_call 50; (with_reducible refine (open_any _ _ h).mono ?_); rintro e wo ⟨rfl, hR_wo, hb_wo, hz_wo⟩; have hs_wo := hb_wo.size; clear hz_wo)
  obtain ⟨R, hRe⟩ : ∃ R, R = w.heap.size := ⟨_, rfl⟩
  rw [← hRe] at hR_wo ⊢
  have hwR : w.heap.size ≤ R := by omega
  clear hRe h
  have hRlt := rdr_lt hR_wo
  go_wp2_with (go_at_call 58; (with_reducible refine (net_at R _ hR_wo).mono ?_); rintro e wn ⟨N, rs, g, cap, m, rfl, hm, ⟨hN2, hN6⟩, hm8, hri, hR_wn⟩; have hs_wn := hri.2.2.size; have hlg := hri.2.1.lt; have hgw := hri.1; have HI := Lib.hid (And.intro hri (And.intro hR_wn hm)); clear hri hm)
  have hgR : g ≠ R := by omega
  have HM := Lib.hid (And.intro HI.out.2.2 (And.intro hN2 hN6))
  clear net_at hN2 hN6 hR_wo
  go_loopw [8] (fun i wr => ∃ (t : Nat) (v : Int), v + 1 = t ∧ t ≤ m ∧ i = .int .i64 v ∧ RunsIn wo wr R g cap rs ∧ Rdr (60 + (m - t)) wr R) (fun i _ => (intOf i + 1).toNat)
  case atStart => exact ⟨m, (m : Int) - 1, by omega, Nat.le_refl _, by go_num, HI.out.1, rdr_mono HI.out.2.1 (by omega)⟩
  case round =>
    clear HI hlg hs_wn hR_wn
    obtain ⟨t, v, hv, ht, rfl, hri, hrd⟩ := hrel
    have hbs := hri.2.2.size
    have hlg2 := hri.2.1.lt
    have HO := Lib.hid hri
    clear hri
    cases t with
    | zero =>
      obtain rfl : v = -1 := by omega
      go_wp2_with (go_at_call 60; (with_reducible refine (index_is (60 + (m - 0)) R m _ hrd (by omega) (by omega)).mono ?_); rintro e wq ⟨⟨k, rfl, hk1, hk2⟩, hR_wq, hg_wq⟩)
      have h5 := HO.out.moved hg_wq hgR
      exact bodyPost_ret (v := .tuple #[.int .i64 N, .slice (some ⟨g, 0, none⟩) m cap, .int .i64 k]) (by simp [results, Try.results25, go_sem]) rfl ⟨N, m, rs, g, k, ⟨cap, rfl⟩, HM.out.1, ⟨HM.out.2, by rw [HM.out.1]; exact hm8, h5.2.1.runs, below_gb hb_wo h5.2.2 hwR hb_wo.size⟩, hk1, by omega⟩
    | succ t =>
      obtain rfl : v = (t : Int) := by omega
      have htm : (t : Int) < (m : Int) := by omega
      have c1 := fun w h => Lib.hid (sLoopOf_any N m t (some ⟨g, 0, none⟩) cap rs w h HM.out.1 (by omega))
      clear hv
      go_upto_region 7 with ((go_at_call 27; (with_reducible refine ((c1 _ ?_).out).mono ?_); (focus ((exact HO.out.2.1.runs); done)); rintro e wx ⟨⟨v, ok, rfl, hv⟩, hb_wx⟩; have hs_wx := hb_wx.size; (try simp at hs_wx)); clear hv)
      have HX := Lib.hid (And.intro (HO.out.below hb_wx) (rdr_chain hrd hb_wx))
      have hrd2 := HX.out.2
      have hlx := HX.out.1.2.1.lt
      clear HO hrd hb_wx c1 hlg2
      cases ok
      · go_wp2_with fail
        go_roundw
        case rel => exact ⟨t, (t : Int) - 1, by omega, by omega, by go_num, HX.out.1, rdr_mono HX.out.2 (by omega)⟩
        case measure => simp [intOf]; try omega
      · go_wp2_with ((go_at_call 59; (with_reducible refine (pick_any (60 + (m - (t + 1))) R (4) _ ?_ (by omega) (by omega) (by omega)).mono ?_); (focus ((repeat (first | with_reducible assumption | (with_reducible refine rdr_drewN ?_ _) | (with_reducible refine rdr_drew ?_) | (with_reducible refine rdr_alloc ?_ _) | (with_reducible refine rdr_setCell ?_ (by first | omega | (simp <;> omega) | simp) _) | (with_reducible refine rdr_chain ?_ (by with_reducible assumption)))); done)); rintro e wq ⟨m_wq, hm0_wq, hm1_wq, rfl, hR_wq, hg_wq, hq_wq⟩; have hs_wq := Nat.le_of_eq hq_wq; have ht_wq := Nat.le_of_eq hq_wq.symm; (try simp at hs_wq); (try simp at ht_wq); clear hq_wq))
        · have h5 := HX.out.1.moved hg_wq hgR
          exact bodyPost_ret (v := .tuple #[.int .i64 N, .slice (some ⟨g, 0, none⟩) m cap, .int .i64 t]) (by simp [results, Try.results25, go_sem]) rfl ⟨N, m, rs, g, t, ⟨cap, rfl⟩, HM.out.1, ⟨HM.out.2, by rw [HM.out.1]; exact hm8, h5.2.1.runs, below_gb hb_wo h5.2.2 hwR hb_wo.size⟩, by omega, by omega⟩
        · go_roundw
          case rel => exact ⟨t, (t : Int) - 1, by omega, by omega, by go_num, HX.out.1.moved hg_wq hgR, rdr_mono hR_wq (by omega)⟩
          case measure => simp [intOf]; try omega
end Go.Proofs.Ytimghdffmdcheaa
