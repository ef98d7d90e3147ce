import Derived.Test.YtddmbjobibljaaaGreatDoorQa
import Derived.Below
import Derived.Deep.RegionWith
import Derived.Deep.Draws
namespace Go.Proofs.YtddmbjobibljaaaGreatDoor
open Go.RowKit

theorem ivalid_out (t l : Int) (w : World) (h : l < 1 ∨ 1000000000 < l ∨ t < -1000000000 ∨ 1000000000 < t) :
    Calls Tryz.prog 78 #[.agg #[.int .i64 t, .int .i64 l]] w fun e w' => e = .returned (.bool (Quo.qv t l)) ∧ Below w.heap.size w w' := by
  rw [Quo.qv_out h]
  by_cases h1 : l < 1
  · clear h
    go_enter Tryz.func78, Tryz.ntmps78
    go_wp2
    go_ret
    exact ⟨rfl, (Below.refl _ _).alloc (Nat.le_refl _) _⟩
  · by_cases h2 : 1000000000 < l
    · clear h
      go_enter Tryz.func78, Tryz.ntmps78
      go_wp2
      go_ret
      exact ⟨rfl, (Below.refl _ _).alloc (Nat.le_refl _) _⟩
    · have h3 : t < -1000000000 ∨ 1000000000 < t := by omega
      clear h
      go_enter Tryz.func78, Tryz.ntmps78
      go_wp2_with (go_at_call 76; (with_reducible refine (within_no _ _ _ h3 (by decide) (by decide)).mono ?_); rintro e w' ⟨rfl, rfl⟩)
      go_ret
      exact ⟨rfl, (Below.refl _ _).alloc (Nat.le_refl _) _⟩

theorem ivalid_in (t l : Int) (w : World) (h1 : 1 ≤ l) (h2 : l ≤ 1000000000) (h3 : -1000000000 ≤ t) (h4 : t ≤ 1000000000) :
    Calls Tryz.prog 78 #[.agg #[.int .i64 t, .int .i64 l]] w fun e w' => e = .returned (.bool (Quo.qv t l)) ∧ Below w.heap.size w w' := by
  rw [Quo.qv_in h1 h2 h3 h4]
  go_enter Tryz.func78, Tryz.ntmps78
  go_wp2_with (first | (go_at_call 76; (with_reducible refine (within_yes _ _ _ h3 h4 (by decide) (by decide)).mono ?_); rintro e w' ⟨rfl, rfl⟩) | (go_at_call 77; (with_reducible refine (divisor_any _ _ _ (by omega) (by omega) (by omega) (by omega)).mono ?_); rintro e w' ⟨rfl, k, rfl⟩))
  go_ret
  exact ⟨rfl, below_drewN ((Below.refl _ _).alloc (Nat.le_refl _) _) _⟩

theorem ivalid_any (t l : Int) (w : World) :
    Calls Tryz.prog 78 #[.agg #[.int .i64 t, .int .i64 l]] w fun e w' => e = .returned (.bool (Quo.qv t l)) ∧ Below w.heap.size w w' := by
  by_cases h : l < 1 ∨ 1000000000 < l ∨ t < -1000000000 ∨ 1000000000 < t
  · exact ivalid_out t l w h
  · exact ivalid_in t l w (by omega) (by omega) (by omega) (by omega)

theorem svalid_out (t l : Int) (w : World) (h : l < 1 ∨ 1000000000 < l ∨ t < -1000000000 ∨ 1000000000 < t) :
    Calls Tryz.prog 95 #[.agg #[.int .i64 t, .int .i64 l]] w fun e w' => e = .returned (.bool (Quo.qv t l)) ∧ Below w.heap.size w w' := by
  rw [Quo.qv_out h]
  by_cases h1 : l < 1 ∨ 1000000000 < l
  · clear h
    go_enter Tryz.func95, Tryz.ntmps95
    go_wp2_with (go_at_call 43; (with_reducible refine (in_no _ _ _ _ h1).mono ?_); rintro e w' ⟨rfl, rfl⟩)
    go_ret
    exact ⟨rfl, (Below.refl _ _).alloc (Nat.le_refl _) _⟩
  · have h2 : 1 ≤ l := by omega
    have h2' : l ≤ 1000000000 := by omega
    have h3 : t < -1000000000 ∨ 1000000000 < t := by omega
    clear h h1
    go_enter Tryz.func95, Tryz.ntmps95
    go_wp2_with (first | (go_at_call 43; (with_reducible refine (in_no t _ _ _ h3).mono ?_); rintro e w' ⟨rfl, rfl⟩) | (go_at_call 43; (with_reducible refine (in_yes l _ _ _ h2 h2').mono ?_); rintro e w' ⟨rfl, rfl⟩))
    go_ret
    exact ⟨rfl, (Below.refl _ _).alloc (Nat.le_refl _) _⟩

theorem svalid_in (t l : Int) (w : World) (h1 : 1 ≤ l) (h2 : l ≤ 1000000000) (h3 : -1000000000 ≤ t) (h4 : t ≤ 1000000000) :
    Calls Tryz.prog 95 #[.agg #[.int .i64 t, .int .i64 l]] w fun e w' => e = .returned (.bool (Quo.qv t l)) ∧ Below w.heap.size w w' := by
  rw [Quo.qv_in h1 h2 h3 h4, ← Quo.gcd_abs t l]
  go_enter Tryz.func95, Tryz.ntmps95
  go_wp2_with (first | (go_at_call 43; (with_reducible refine (in_yes t _ _ _ h3 h4).mono ?_); rintro e w' ⟨rfl, rfl⟩) | (go_at_call 43; (with_reducible refine (in_yes l _ _ _ h1 h2).mono ?_); rintro e w' ⟨rfl, rfl⟩))
  go_quiet (first | (go_at_call 94; exact Calls.quiet_of_same ((size_any _ _ (by omega) (by omega)).mono fun _ _ ⟨he, hw⟩ => ⟨he, hw.symm⟩)) | (go_at_call 93; exact Calls.quiet_of_same ((common_any _ _ _ (by omega) (by omega) (by omega) (by omega)).mono fun _ _ ⟨he, hw⟩ => ⟨he, hw.symm⟩)))
  go_wp2
  go_ret
  exact ⟨rfl, below_drewN ((Below.refl _ _).alloc (Nat.le_refl _) _) _⟩

theorem svalid_any (t l : Int) (w : World) :
    Calls Tryz.prog 95 #[.agg #[.int .i64 t, .int .i64 l]] w fun e w' => e = .returned (.bool (Quo.qv t l)) ∧ Below w.heap.size w w' := by
  by_cases h : l < 1 ∨ 1000000000 < l ∨ t < -1000000000 ∨ 1000000000 < t
  · exact svalid_out t l w h
  · exact svalid_in t l w (by omega) (by omega) (by omega) (by omega)
end Go.Proofs.YtddmbjobibljaaaGreatDoor
