/-
  What the draws of an index beside a net, and of heights, give for the laws on adjusted heights.
-/
import Derived.Test.YtoaomjchaihkaaaGreatDoorDNq
namespace Go.Proofs.YtoaomjchaihkaaaGreatDoor
open Go.RowKit
set_option linter.unusedVariables false

set_option maxHeartbeats 2000000 in
theorem l92_is (R : Nat) (w : World) (h : Rdr 0 w R) :
    Calls Tryz.prog 47 #[.pointer (some ⟨R, 0, none⟩)] w fun e w' => ∃ (N : Nat) (rs : List Rn) (g cap m : Nat) (k : Int), e = .returned (.tuple #[.int .i64 N, .slice (some ⟨g, 0, none⟩) m cap, .int .i64 k]) ∧ rs.length = m ∧ (2 ≤ N ∧ N ≤ 6) ∧ m ≤ 8 ∧ RunsIn w w' R g cap rs ∧ (nOk N rs = true → Near49 rs) ∧ -1 ≤ k ∧ k ≤ 8 := by
  have hRl := rdr_lt h
  have HH := Lib.hid h
  clear h
  go_enter Tryz.func47, Tryz.ntmps47
  go_wp2_with (first
    | (go_at_call 29; (with_reducible refine (true5_is R _ HH.out).mono ?_); rintro e wn ⟨N, rs, g, cap, m, rfl, hm, ⟨hN2, hN6⟩, hm8, hri, hR_wn, hns⟩; have hs_wn := hri.2.2.size; have hgw := hri.1; have HI := Lib.hid (And.intro hri (And.intro hR_wn (And.intro hm hns))); clear hri hm hns)
    | (go_at_call 90; (with_reducible refine (index_is 90 R m _ HI.out.2.1 (by omega) (by omega)).mono ?_); rintro e wq ⟨⟨k, rfl, hk1, hk2⟩, hR_wq, hg_wq⟩))
  have hgR : g ≠ R := by omega
  have hx := HI.out.1.moved hg_wq hgR
  refine bodyPost_ret (v := .tuple #[.int .i64 N, .slice (some ⟨g, 0, none⟩) m cap, .int .i64 k]) (by simp [results, Tryz.results47, go_sem]) rfl ⟨N, rs, g, cap, m, k, rfl, HI.out.2.2.1, ⟨hN2, hN6⟩, hm8, hx, HI.out.2.2.2, hk1, by omega⟩
set_option maxHeartbeats 2000000 in
theorem drawAdjRun_is (v : Value) (w : World) (h : Hid (Code' w v)) :
    Calls Tryz.prog 17 #[v] w fun e w' => ∃ (N m : Nat) (rs : List Rn) (p : Nat) (k : Int), (∃ c, m ≤ c ∧ e = .returned (.tuple #[.int .i64 N, .slice (some ⟨p, 0, none⟩) m c, .int .i64 k])) ∧ TrueA w N m rs p w' ∧ -1 ≤ k ∧ k ≤ 8 := by
  go_enter Tryz.func17, Tryz.ntmps17
  go_wp2_with (first | (go_at_call 30; (with_reducible refine (open_any _ _ h).mono ?_); rintro e wo ⟨rfl, hR_wo, hb_wo, hz_wo⟩; have hs_wo := hb_wo.size; clear hz_wo) | (go_at_call 47; (with_reducible refine (l92_is _ _ hR_wo).mono ?_); rintro e wn ⟨N, rs, g, cap, m, k, rfl, hm, ⟨hN2, hN6⟩, hm8, hri, hns, hk1, hk2⟩; have hnc : m ≤ cap := (by obtain ⟨_, _, h, _⟩ := hri.2.1.body; omega); have HX := Lib.hid (And.intro hm (And.intro hri hns)); clear hri hm hns))
  exact bodyPost_ret (v := .tuple #[.int .i64 N, .slice (some ⟨g, 0, none⟩) m cap, .int .i64 k]) (by simp [results, Tryz.results17, go_sem]) rfl ⟨N, m, rs, g, k, ⟨cap, hnc, rfl⟩, ⟨⟨HX.out.1, ⟨hN2, hN6⟩, hm8, HX.out.2.2⟩, HX.out.2.1.2.1.runs, below_gb hb_wo HX.out.2.1.2.2 (Nat.le_refl _) hb_wo.size⟩, hk1, hk2⟩
end Go.Proofs.YtoaomjchaihkaaaGreatDoor
