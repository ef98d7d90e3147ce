/-
  What the draws of the laws on first trees, on heights of trees, on how many trees there are and on their weights give.
-/
import Derived.Test.YtgbnnepbnahecaaDNh
namespace Go.Proofs.Ytgbnnepbnahecaa
open Go.RowKit
set_option linter.unusedVariables false

theorem drawTreeHeights_is (v : Value) (w : World) (h : Hid (Code' w v)) :
    Calls Try.prog 29 #[v] w fun e w' => ∃ (N m k : Nat) (rs : List Rn) (T : List Int) (p q : Nat), (∃ c d, e = .returned (.tuple #[.int .i64 N, .slice (some ⟨p, 0, none⟩) m c, .slice (some ⟨q, 0, none⟩) k d])) ∧ TreeOf w N m k rs T p q w' := by
  go_enter Try.func29, Try.ntmps29
  go_wp2_with (go_at_call 14; (with_reducible refine (drawTree_is _ _ h).mono ?_); rintro e w' ⟨N, m, k, rs, T, p, q, ⟨c, d, rfl⟩, hn⟩)
  refine bodyPost_ret (v := .tuple #[.int .i64 N, .slice (some ⟨p, 0, none⟩) m c, .slice (some ⟨q, 0, none⟩) k d]) (by simp [results, Try.results29, go_sem]) rfl ⟨N, m, k, rs, T, p, q, ⟨c, d, rfl⟩, hn⟩

set_option maxHeartbeats 2000000 in
theorem drawTreeFirst_is (v : Value) (w : World) (h : Hid (Code' w v)) :
    Calls Try.prog 19 #[v] w fun e w' => ∃ (N m : Nat) (rs : List Rn) (p : Nat), (∃ c, m ≤ c ∧ e = .returned (.tuple #[.int .i64 N, .slice (some ⟨p, 0, none⟩) m c])) ∧ rs.length = m ∧ NetOf w N rs (some ⟨p, 0, none⟩) w' := by
  go_enter Try.func19, Try.ntmps19
  go_wp2_with (first | (go_at_call 43; (with_reducible refine (open_any _ _ h).mono ?_); rintro e wo ⟨rfl, hR_wo, hb_wo, hz_wo⟩; have hs_wo := hb_wo.size; clear hz_wo) | (go_at_call 44; (with_reducible refine (net_is _ _ hR_wo).mono ?_); rintro e wn ⟨N, rs, g, cap, rfl, ⟨hN2, hN6⟩, hl8, hri, hR_wn⟩; have hnc : rs.length ≤ cap := (by obtain ⟨_, _, h, _⟩ := hri.2.1.body; exact h)))
  refine bodyPost_ret (v := .tuple #[.int .i64 N, .slice (some ⟨g, 0, none⟩) rs.length cap]) (by simp [results, Try.results19, go_sem]) rfl ⟨N, rs.length, rs, g, ⟨cap, hnc, rfl⟩, rfl, ⟨hN2, hN6⟩, hl8, hri.2.1.runs, below_gb hb_wo hri.2.2 (Nat.le_refl _) hb_wo.size⟩

set_option maxHeartbeats 2000000 in
theorem drawTreeMany_is (v : Value) (w : World) (h : Hid (Code' w v)) :
    Calls Try.prog 23 #[v] w fun e w' => ∃ (N m : Nat) (rs : List Rn) (p : Nat), (∃ c, m ≤ c ∧ e = .returned (.tuple #[.int .i64 N, .slice (some ⟨p, 0, none⟩) m c])) ∧ rs.length = m ∧ NetOf w N rs (some ⟨p, 0, none⟩) w' := by
  go_enter Try.func23, Try.ntmps23
  go_wp2_with (first | (go_at_call 43; (with_reducible refine (open_any _ _ h).mono ?_); rintro e wo ⟨rfl, hR_wo, hb_wo, hz_wo⟩; have hs_wo := hb_wo.size; clear hz_wo) | (go_at_call 44; (with_reducible refine (net5_is _ _ hR_wo).mono ?_); rintro e wn ⟨N, rs, g, cap, rfl, ⟨hN2, hN6⟩, hl8, hri, hR_wn⟩; have hnc : rs.length ≤ cap := (by obtain ⟨_, _, h, _⟩ := hri.2.1.body; exact h)))
  refine bodyPost_ret (v := .tuple #[.int .i64 N, .slice (some ⟨g, 0, none⟩) rs.length cap]) (by simp [results, Try.results23, go_sem]) rfl ⟨N, rs.length, rs, g, ⟨cap, hnc, rfl⟩, rfl, ⟨hN2, hN6⟩, hl8, hri.2.1.runs, below_gb hb_wo hri.2.2 (Nat.le_refl _) hb_wo.size⟩

set_option maxHeartbeats 2000000 in
theorem drawTreeWeight_is (v : Value) (w : World) (h : Hid (Code' w v)) :
    Calls Try.prog 26 #[v] w fun e w' => ∃ (N m : Nat) (rs : List Rn) (p : Nat), (∃ c, m ≤ c ∧ e = .returned (.tuple #[.int .i64 N, .slice (some ⟨p, 0, none⟩) m c])) ∧ rs.length = m ∧ NetOf w N rs (some ⟨p, 0, none⟩) w' := by
  go_enter Try.func26, Try.ntmps26
  go_wp2_with (first | (go_at_call 43; (with_reducible refine (open_any _ _ h).mono ?_); rintro e wo ⟨rfl, hR_wo, hb_wo, hz_wo⟩; have hs_wo := hb_wo.size; clear hz_wo) | (go_at_call 44; (with_reducible refine (net5_is _ _ hR_wo).mono ?_); rintro e wn ⟨N, rs, g, cap, rfl, ⟨hN2, hN6⟩, hl8, hri, hR_wn⟩; have hnc : rs.length ≤ cap := (by obtain ⟨_, _, h, _⟩ := hri.2.1.body; exact h)))
  refine bodyPost_ret (v := .tuple #[.int .i64 N, .slice (some ⟨g, 0, none⟩) rs.length cap]) (by simp [results, Try.results26, go_sem]) rfl ⟨N, rs.length, rs, g, ⟨cap, hnc, rfl⟩, rfl, ⟨hN2, hN6⟩, hl8, hri.2.1.runs, below_gb hb_wo hri.2.2 (Nat.le_refl _) hb_wo.size⟩
end Go.Proofs.Ytgbnnepbnahecaa
