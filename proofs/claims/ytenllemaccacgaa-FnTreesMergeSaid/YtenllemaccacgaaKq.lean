/-
  Heights that fit runs fit the merged net without the height of the greater node. No function of the program is named.
-/
import Derived.Test.YtenllemaccacgaaZi
import Derived.Test.YtenllemaccacgaaNz
namespace Go.Proofs.Ytenllemaccacgaa
set_option linter.unusedVariables false

theorem low_at6 {hs : List Int} (hl : Low hs) (x : Int) : 0 ≤ htAt hs x ∧ htAt hs x < 50 := by
  unfold htAt
  cases h : hs[x.toNat]? with
  | none => simp
  | some z => exact hl _ _ h
theorem fit_ok6 {N : Int} {rs : List Rn} {hs : List Int} (hn : nOk N rs = true) (hl : Low hs) : nOk N (rs.map (fitOne hs)) = true := by
  obtain ⟨h1, h2, h3, h4⟩ := nOk_true hn
  refine nOk_of h1 h2 (by simpa using h3) (fun i r hi => ?_)
  rw [List.getElem?_map] at hi
  obtain ⟨x, hx, rfl⟩ := Option.map_eq_some_iff.1 hi
  obtain ⟨a1, a2, a3, a4, a5, a6, a7, a8, a9⟩ := rOk_true (h4 i x hx)
  have b1 := low_at6 hl x.t
  have b2 := low_at6 hl x.f
  exact rOk_of a1 a2 a3 a4 a5 (by simp [fitOne]; omega) (by simp [fitOne]; omega) a8 a9
theorem ht_erase {hs : List Int} {lo hi : Nat} {t : Int} (h1 : lo < hi) (h2 : hi < hs.length) (ht : 0 ≤ t) (he : htAt hs hi = htAt hs lo) : htAt (hs.eraseIdx hi) (num2 lo hi t) = htAt hs t := by
  obtain ⟨T, rfl⟩ : ∃ T : Nat, t = (T : Int) := ⟨t.toNat, by omega⟩
  unfold num2
  by_cases e : (T : Int) = (hi : Int)
  · rw [if_pos e, e, he]
    unfold htAt
    rw [Int.toNat_natCast, List.getElem?_eraseIdx, if_pos h1]
  · rw [if_neg e]
    by_cases e2 : (hi : Int) < (T : Int)
    · rw [if_pos e2]
      unfold htAt
      rw [show ((T : Int) - 1).toNat = T - 1 by omega, List.getElem?_eraseIdx, if_neg (by omega), show T - 1 + 1 = T by omega, Int.toNat_natCast]
    · rw [if_neg e2]
      unfold htAt
      rw [Int.toNat_natCast, List.getElem?_eraseIdx, if_pos (by omega)]
theorem fits_merge {M : Nat} {rs : List Rn} {k : Nat} {r : Rn} {lo hi : Nat} {hs : List Int} (hn : nOk ((M + 1 : Nat) : Int) rs = true) (hM : 2 ≤ M) (hr : rs[k]? = some r) (hlh : lo < hi) (he : Ends2 r (lo : Int) (hi : Int)) (hl : hs.length = M + 1) (hlow : Low hs) (heq : htAt hs hi = htAt hs lo) :
    nFits (M : Int) (mrg lo hi (rs.map (fitOne hs))) (hs.eraseIdx hi) = true := by
  have hn' := fit_ok6 hn hlow
  have hr' : (rs.map (fitOne hs))[k]? = some (fitOne hs r) := by rw [List.getElem?_map, hr]; rfl
  have he' : Ends2 (fitOne hs r) (lo : Int) (hi : Int) := he
  have hlh' : (lo : Int) < (hi : Int) := by omega
  obtain ⟨-, e2⟩ := ends_in hn hr hlh' he
  have hhl : hi < hs.length := by omega
  refine nFits_of (mrg_ok hn' hM hr' hlh' he') (htOk_of ?_ ?_) ?_
  · rw [List.length_eraseIdx, if_pos hhl, hl]; omega
  · intro i z _ hz
    rw [List.getElem?_eraseIdx] at hz
    have : 0 ≤ z ∧ z < 50 := by
      split at hz
      · exact hlow _ _ hz
      · exact hlow _ _ hz
    unfold hOk
    exact decide_eq_true (by omega)
  · intro i y _ hy
    obtain ⟨hy1, _⟩ := List.mem_filter.1 (List.mem_of_getElem? hy)
    obtain ⟨x, hx, rfl⟩ := List.mem_map.1 hy1
    obtain ⟨x0, hx0, rfl⟩ := List.mem_map.1 hx
    have hin := nOk_ends hn x0 hx0
    unfold fitR
    refine decide_eq_true ?_
    show htAt (hs.eraseIdx hi) (num2 lo hi x0.t) - htAt (hs.eraseIdx hi) (num2 lo hi x0.f) = htAt hs x0.t - htAt hs x0.f
    rw [ht_erase hlh hhl (by omega) heq, ht_erase hlh hhl (by omega) heq]
theorem Low.set {L : List Int} (h : Low L) {i : Nat} {z : Int} (h0 : 0 ≤ z) (h1 : z < 50) : Low (L.set i z) := fun j y hy => by
  rw [List.getElem?_set] at hy
  split at hy
  · split at hy
    · cases hy; exact ⟨h0, h1⟩
    · cases hy
  · exact h j y hy
theorem ht_set_self {L : List Int} {i : Nat} (z : Int) (h : i < L.length) : htAt (L.set i z) (i : Int) = z := by
  unfold htAt; rw [Int.toNat_natCast, List.getElem?_set, if_pos rfl, if_pos h]; rfl
theorem ht_set_ne {L : List Int} {i j : Nat} (z : Int) (h : i ≠ j) : htAt (L.set i z) (j : Int) = htAt L (j : Int) := by
  unfold htAt; rw [Int.toNat_natCast, List.getElem?_set, if_neg h]
end Go.Proofs.Ytenllemaccacgaa
