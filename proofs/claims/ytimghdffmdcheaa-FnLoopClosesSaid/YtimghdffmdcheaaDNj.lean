/-
  What the draws of the laws on errors of loops give: a net of at most eight runs whose rises are small where the net is valid, by new memory alone.
-/
import Derived.Test.YtimghdffmdcheaaDNd
namespace Go.Proofs.Ytimghdffmdcheaa
open Go.RowKit
set_option linter.unusedVariables false

def TrueOf (w : World) (N m : Nat) (rs : List Rn) (p : Nat) (w' : World) : Prop := (rs.length = m ∧ (2 ≤ N ∧ N ≤ 6) ∧ m ≤ 8 ∧ (nOk N rs = true → Near49 rs)) ∧ Runs w' (some ⟨p, 0, none⟩) rs ∧ Below w.heap.size w w'
set_option maxHeartbeats 2000000 in
theorem drawErrors_is (v : Value) (w : World) (h : Hid (Code' w v)) :
    Calls Try.prog 30 #[v] w fun e w' => ∃ (N m : Nat) (rs : List Rn) (p : Nat), (∃ c, m ≤ c ∧ e = .returned (.tuple #[.int .i64 N, .slice (some ⟨p, 0, none⟩) m c])) ∧ TrueOf w N m rs p w' := by
  go_enter Try.func30, Try.ntmps30
  go_wp2_with (first | (go_at_call 50; (with_reducible refine (open_any _ _ h).mono ?_); rintro e wo ⟨rfl, hR_wo, hb_wo, hz_wo⟩; have hs_wo := hb_wo.size; clear hz_wo) | (go_at_call 71; (with_reducible refine (true_is _ _ hR_wo).mono ?_); rintro e wn ⟨N, rs, g, cap, m, rfl, hm, ⟨hN2, hN6⟩, hm8, hri, hR_wn, hns⟩; have hnc : m ≤ cap := (by obtain ⟨_, _, h, _⟩ := hri.2.1.body; omega); have HX := Lib.hid (And.intro hm (And.intro hri hns)); clear hri hm hns))
  exact bodyPost_ret (v := .tuple #[.int .i64 N, .slice (some ⟨g, 0, none⟩) m cap]) (by simp [results, Try.results30, go_sem]) rfl ⟨N, m, rs, g, ⟨cap, hnc, rfl⟩, ⟨HX.out.1, ⟨hN2, hN6⟩, hm8, HX.out.2.2⟩, HX.out.2.1.2.1.runs, below_gb hb_wo HX.out.2.1.2.2 (Nat.le_refl _) hb_wo.size⟩
set_option maxHeartbeats 2000000 in
theorem drawCloses_is (v : Value) (w : World) (h : Hid (Code' w v)) :
    Calls Try.prog 36 #[v] w fun e w' => ∃ (N m : Nat) (rs : List Rn) (p : Nat), (∃ c, m ≤ c ∧ e = .returned (.tuple #[.int .i64 N, .slice (some ⟨p, 0, none⟩) m c])) ∧ TrueOf w N m rs p w' := by
  go_enter Try.func36, Try.ntmps36
  go_wp2_with (first | (go_at_call 50; (with_reducible refine (open_any _ _ h).mono ?_); rintro e wo ⟨rfl, hR_wo, hb_wo, hz_wo⟩; have hs_wo := hb_wo.size; clear hz_wo) | (go_at_call 71; (with_reducible refine (true_is _ _ hR_wo).mono ?_); rintro e wn ⟨N, rs, g, cap, m, rfl, hm, ⟨hN2, hN6⟩, hm8, hri, hR_wn, hns⟩; have hnc : m ≤ cap := (by obtain ⟨_, _, h, _⟩ := hri.2.1.body; omega); have HX := Lib.hid (And.intro hm (And.intro hri hns)); clear hri hm hns))
  exact bodyPost_ret (v := .tuple #[.int .i64 N, .slice (some ⟨g, 0, none⟩) m cap]) (by simp [results, Try.results36, go_sem]) rfl ⟨N, m, rs, g, ⟨cap, hnc, rfl⟩, ⟨HX.out.1, ⟨hN2, hN6⟩, hm8, HX.out.2.2⟩, HX.out.2.1.2.1.runs, below_gb hb_wo HX.out.2.1.2.2 (Nat.le_refl _) hb_wo.size⟩
end Go.Proofs.Ytimghdffmdcheaa
