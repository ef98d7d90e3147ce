/-
  The program's shares, by contract.
-/
import Derived.Test.YtgncjpakclbegaaSp
namespace Go.Proofs.Ytgncjpakclbegaa
open Go.RowKit
set_option linter.unusedVariables false

theorem iShareOf_yes (k c : Nat) (p : Option Addr) (ls : List Int) (a : Int) (w : World) (h : Ints w p ls) (hk : ls.length = k) (ha : amtOk ls a = true) :
    Calls Try.prog 120 #[.slice p k c, .int .i64 a] w fun e w' => ∃ g cap, e = .returned (.tuple #[.slice (some ⟨g, 0, none⟩) k cap, .bool true]) ∧ w.heap.size ≤ g ∧ Own w' g 3 1 k cap (shr ls a) ∧ Below w.heap.size w w' := iShareOf_yes' k c p ls a w h hk ha
theorem iShareOf_no (k c : Nat) (p : Option Addr) (ls : List Int) (a : Int) (w : World) (h : Ints w p ls) (hk : ls.length = k) (hl : k ≤ 4000000000000000000) (ha : amtOk ls a = false) :
    Calls Try.prog 120 #[.slice p k c, .int .i64 a] w fun e w' => (∃ q d, e = .returned (.tuple #[.slice q 0 d, .bool false])) ∧ Below w.heap.size w w' := ((iShareOf_no' k c p ls a w h hk hl ha).mono (by rintro e w' ⟨rfl, rfl⟩; exact ⟨⟨_, _, rfl⟩, Below.refl _ _⟩))
theorem iShareOk (k c n d : Nat) (p q : Option Addr) (ls xs : List Int) (a : Int) (b : Bool) (w : World) (h : Ints w p ls) (hq : Ints w q xs) (hk : ls.length = k) (hn : xs.length = n) (hl : k ≤ 4000000000000000000) (hl2 : n ≤ 4000000000000000000) (hb : okS ls a xs = b) :
    Calls Try.prog 47 #[.slice p k c, .int .i64 a, .slice q n d] w fun e w' => e = .returned (.bool b) ∧ Below w.heap.size w w' := iShareOk' k c n d p q ls xs a b w h hq hk hn hl hl2 hb
theorem iShareRises_yes (k c d : Nat) (p q : Option Addr) (ls ss : List Int) (w : World) (h : Ints w p ls) (hq : Ints w q ss) (hk : ls.length = k) (hr : risOk ls ss) :
    Calls Try.prog 95 #[.slice p k c, .slice q k d] w fun e w' => ∃ g cap, e = .returned (.tuple #[.slice (some ⟨g, 0, none⟩) k cap, .bool true]) ∧ w.heap.size ≤ g ∧ Own w' g 3 1 k cap (rsh ls ss) ∧ Below w.heap.size w w' := iShareRises_yes' k c d p q ls ss w h hq hk hr
theorem iShareRises_no (k c n d : Nat) (p q : Option Addr) (ls ss : List Int) (w : World) (h : Ints w p ls) (hq : Ints w q ss) (hk : ls.length = k) (hn : ss.length = n) (hl : k ≤ 4000000000000000000) (hl2 : n ≤ 4000000000000000000) (hr : ¬ risOk ls ss) :
    Calls Try.prog 95 #[.slice p k c, .slice q n d] w fun e w' => (∃ q d, e = .returned (.tuple #[.slice q 0 d, .bool false])) ∧ Below w.heap.size w w' := ((iShareRises_no' k c n d p q ls ss w h hq hk hn hl hl2 hr).mono (by rintro e w' ⟨rfl, hb⟩; exact ⟨⟨_, _, rfl⟩, hb⟩))
end Go.Proofs.Ytgncjpakclbegaa
