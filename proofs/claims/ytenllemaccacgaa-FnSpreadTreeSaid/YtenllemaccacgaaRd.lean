/-
  What the draws for the laws on spreads give: a net of at most eight runs, with two nodes or an index.
-/
import Derived.Test.YtenllemaccacgaaZp
namespace Go.Proofs.Ytenllemaccacgaa
open Go.RowKit
set_option linter.unusedVariables false

set_option maxHeartbeats 2000000 in
theorem drawSpread_is (v : Value) (w : World) (h : Hid (Code' w v)) :
    Calls Try.prog 19 #[v] w fun e w' => ∃ (N m : Nat) (rs : List Rn) (p : Nat) (i j : Int), (∃ c, m ≤ c ∧ e = .returned (.tuple #[.int .i64 N, .slice (some ⟨p, 0, none⟩) m c, .int .i64 i, .int .i64 j])) ∧ rs.length = m ∧ NetOf w N rs (some ⟨p, 0, none⟩) w' ∧ (-1 ≤ i ∧ i ≤ 6) ∧ (-1 ≤ j ∧ j ≤ 6) := by
  go_enter Try.func19, Try.ntmps19
  go_wp2_with (go_at_call 61; (with_reducible refine (open_any _ _ h).mono ?_); rintro e wo ⟨rfl, hR_wo, hb_wo, hz_wo⟩; have hs_wo := hb_wo.size; clear hz_wo)
  obtain ⟨R, hRe⟩ : ∃ R, R = w.heap.size := ⟨_, rfl⟩
  rw [← hRe] at hR_wo ⊢
  have hwR : w.heap.size ≤ R := by omega
  clear hRe h
  have hRlt := rdr_lt hR_wo
  go_wp2_with (first
    | (go_at_call 62; (with_reducible refine (net5_is R _ hR_wo).mono ?_); rintro e wn ⟨N, rs, g, cap, rfl, ⟨hN2, hN6⟩, hl8, hri, hR_wn⟩; have hs_wn := hri.2.2.size; have hlg := hri.2.1.lt; have hgw := hri.1; have hnc : rs.length ≤ cap := (by obtain ⟨_, _, h, _⟩ := hri.2.1.body; exact h); have HI := Lib.hid (And.intro hri hR_wn); clear hri)
    | (go_at_call 63; (with_reducible refine (index_is 62 R N _ HJ.out.1 (by omega) (by omega)).mono ?_); rintro e wz ⟨⟨kz, rfl, hz1, hz2⟩, hR_wz, hg_wz⟩)
    | (go_at_call 63; (with_reducible refine (index_is 60 R N _ HI.out.2 (by omega) (by omega)).mono ?_); rintro e wq ⟨⟨kq, rfl, hk1, hk2⟩, hR_wq, hg_wq⟩; have HJ := Lib.hid (And.intro hR_wq hg_wq); have hs_wq := hg_wq.size; clear hR_wq hg_wq))
  have hgR : g ≠ R := by omega
  have hx := (HI.out.1.moved HJ.out.2 hgR).moved hg_wz hgR
  refine bodyPost_ret (v := .tuple #[.int .i64 N, .slice (some ⟨g, 0, none⟩) rs.length cap, .int .i64 kq, .int .i64 kz]) (by simp [results, Try.results19, go_sem]) rfl ⟨N, rs.length, rs, g, kq, kz, ⟨cap, hnc, rfl⟩, rfl, ⟨⟨hN2, hN6⟩, hl8, hx.2.1.runs, below_gb hb_wo hx.2.2 hwR hb_wo.size⟩, ⟨hk1, by omega⟩, hz1, by omega⟩
theorem drawSprRun_is (v : Value) (w : World) (h : Hid (Code' w v)) :
    Calls Try.prog 32 #[v] w fun e w' => ∃ (N m : Nat) (rs : List Rn) (p : Nat) (k : Int), (∃ c, m ≤ c ∧ e = .returned (.tuple #[.int .i64 N, .slice (some ⟨p, 0, none⟩) m c, .int .i64 k])) ∧ rs.length = m ∧ NetOf w N rs (some ⟨p, 0, none⟩) w' ∧ -1 ≤ k ∧ k ≤ 8 := by
  go_enter Try.func32, Try.ntmps32
  go_wp2_with (go_at_call 61; (with_reducible refine (open_any _ _ h).mono ?_); rintro e wo ⟨rfl, hR_wo, hb_wo, hz_wo⟩; have hs_wo := hb_wo.size; clear hz_wo)
  obtain ⟨R, hRe⟩ : ∃ R, R = w.heap.size := ⟨_, rfl⟩
  rw [← hRe] at hR_wo ⊢
  have hwR : w.heap.size ≤ R := by omega
  clear hRe h
  have hRlt := rdr_lt hR_wo
  go_wp2_with (first | (go_at_call 62; (with_reducible refine (net5_is R _ hR_wo).mono ?_); rintro e wn ⟨N, rs, g, cap, rfl, ⟨hN2, hN6⟩, hl8, hri, hR_wn⟩; have hs_wn := hri.2.2.size; have hlg := hri.2.1.lt; have hgw := hri.1; have hnc : rs.length ≤ cap := (by obtain ⟨_, _, h, _⟩ := hri.2.1.body; exact h); have HI := Lib.hid (And.intro hri hR_wn); clear hri) | (go_at_call 63; (with_reducible refine (index_is 60 R rs.length _ HI.out.2 (by omega) (by omega)).mono ?_); rintro e wq ⟨⟨k, rfl, hk1, hk2⟩, hR_wq, hg_wq⟩))
  have hgR : g ≠ R := by omega
  have hx := HI.out.1.moved hg_wq hgR
  refine bodyPost_ret (v := .tuple #[.int .i64 N, .slice (some ⟨g, 0, none⟩) rs.length cap, .int .i64 k]) (by simp [results, Try.results32, go_sem]) rfl ⟨N, rs.length, rs, g, k, ⟨cap, hnc, rfl⟩, rfl, ⟨⟨hN2, hN6⟩, hl8, hx.2.1.runs, below_gb hb_wo hx.2.2 hwR hb_wo.size⟩, hk1, by omega⟩
theorem drawSprFree_is (v : Value) (w : World) (h : Hid (Code' w v)) :
    Calls Try.prog 26 #[v] w fun e w' => ∃ (N m : Nat) (rs : List Rn) (p : Nat) (k : Int), (∃ c, m ≤ c ∧ e = .returned (.tuple #[.int .i64 N, .slice (some ⟨p, 0, none⟩) m c, .int .i64 k])) ∧ rs.length = m ∧ NetOf w N rs (some ⟨p, 0, none⟩) w' ∧ -1 ≤ k ∧ k ≤ 8 := by
  go_enter Try.func26, Try.ntmps26
  go_wp2_with (go_at_call 32; (with_reducible refine (drawSprRun_is _ _ h).mono ?_); rintro e w' ⟨N, m, rs, p, k, ⟨c, hc, rfl⟩, hn⟩)
  refine bodyPost_ret (v := .tuple #[.int .i64 N, .slice (some ⟨p, 0, none⟩) m c, .int .i64 k]) (by simp [results, Try.results26, go_sem]) rfl ⟨N, m, rs, p, k, ⟨c, hc, rfl⟩, hn⟩
set_option maxHeartbeats 2000000 in
theorem drawWorst_is (v : Value) (w : World) (h : Hid (Code' w v)) :
    Calls Try.prog 37 #[v] w fun e w' => ∃ (N m : Nat) (rs : List Rn) (p : Nat), (∃ c, m ≤ c ∧ e = .returned (.tuple #[.int .i64 N, .slice (some ⟨p, 0, none⟩) m c])) ∧ rs.length = m ∧ NetOf w N rs (some ⟨p, 0, none⟩) w' := by
  go_enter Try.func37, Try.ntmps37
  go_wp2_with (first | (go_at_call 61; (with_reducible refine (open_any _ _ h).mono ?_); rintro e wo ⟨rfl, hR_wo, hb_wo, hz_wo⟩; have hs_wo := hb_wo.size; clear hz_wo) | (go_at_call 62; (with_reducible refine (net5_is _ _ hR_wo).mono ?_); rintro e wn ⟨N, rs, g, cap, rfl, ⟨hN2, hN6⟩, hl8, hri, hR_wn⟩; have hnc : rs.length ≤ cap := (by obtain ⟨_, _, h, _⟩ := hri.2.1.body; exact h)))
  refine bodyPost_ret (v := .tuple #[.int .i64 N, .slice (some ⟨g, 0, none⟩) rs.length cap]) (by simp [results, Try.results37, go_sem]) rfl ⟨N, rs.length, rs, g, ⟨cap, hnc, rfl⟩, rfl, ⟨hN2, hN6⟩, hl8, hri.2.1.runs, below_gb hb_wo hri.2.2 (Nat.le_refl _) hb_wo.size⟩
end Go.Proofs.Ytenllemaccacgaa
