/-
  How the program's start reads: its first words, without the names of all roots being taken apart.
-/
import Derived.Test.YtgncjpakclbegaaLaw
namespace Go.Proofs.Ytgncjpakclbegaa
open Go.RowKit
set_option linter.unusedVariables false

theorem words_app : ∀ (a b : List Char), (∀ c ∈ a, c ≠ Char.ofNat 32) → wordsSigns (a ++ Char.ofNat 32 :: b) = a :: wordsSigns b
  | [], b, _ => rfl
  | c :: a, b, h => by
    have ih := words_app a b (fun x hx => h x (List.mem_cons_of_mem _ hx))
    have hc : c ≠ Char.ofNat 32 := h c (List.mem_cons_self ..)
    show wordsSigns (c :: (a ++ Char.ofNat 32 :: b)) = _
    conv => lhs; unfold wordsSigns
    split
    · rename_i h1; cases h1
    · rename_i h1; simp only [List.cons.injEq] at h1; exact absurd h1.1 hc
    · rename_i h1
      simp only [List.cons.injEq] at h1
      obtain ⟨rfl, rfl⟩ := h1
      rw [ih]
theorem sum_plain {s : List Char} (h : isSumSigns s = true) : ∀ c ∈ s, c ≠ Char.ofNat 32 := fun c hc e => by
  unfold isSumSigns at h
  rw [Bool.and_eq_true] at h
  have := List.all_eq_true.1 h.2 c hc
  subst e
  revert this
  decide
theorem plain_all {s : List Char} (h : s.all (fun c => c != Char.ofNat 32) = true) : ∀ c ∈ s, c ≠ Char.ofNat 32 := fun c hc e => by
  have := List.all_eq_true.1 h c hc
  subst e
  simp at this
/-- the words behind the main word, where the program is cut -/
theorem start_words {s : String} {l : List Char} (h : s = String.ofList l) (h1 : l.take 8 = "harness".toList ++ [Char.ofNat 32]) (h2 : (l.drop 72).take 5 = Char.ofNat 32 :: ("cut".toList ++ [Char.ofNat 32])) (h3 : isSumSigns ((l.drop 8).take 64) = true) :
    ∃ b, behindMainWord (wordsSigns s.toList) = "cut".toList :: b := by
  have e1 : l.take 8 ++ ((l.drop 8).take 64 ++ ((l.drop 72).take 5 ++ (l.drop 72).drop 5)) = l := by
    rw [List.take_append_drop 5 (l.drop 72), show l.drop 72 = (l.drop 8).drop 64 by rw [List.drop_drop], List.take_append_drop 64, List.take_append_drop]
  rw [h1, h2] at e1
  refine ⟨wordsSigns ((l.drop 72).drop 5), ?_⟩
  have e2 : s.toList = l := by rw [h, String.toList_ofList]
  rw [e2]
  obtain ⟨su, hsu⟩ : ∃ su, (l.drop 8).take 64 = su := ⟨_, rfl⟩
  obtain ⟨tl, htl⟩ : ∃ tl, (l.drop 72).drop 5 = tl := ⟨_, rfl⟩
  rw [hsu, htl] at e1
  rw [hsu] at h3
  rw [htl]
  have e3 : "harness".toList ++ Char.ofNat 32 :: (su ++ Char.ofNat 32 :: ("cut".toList ++ Char.ofNat 32 :: tl)) = l := by
    rw [← e1, List.append_assoc, List.singleton_append, List.cons_append, List.append_assoc, List.singleton_append]
  rw [← e3, words_app _ _ (plain_all (by decide)), words_app _ _ (sum_plain h3), words_app _ _ (plain_all (by decide))]
  show (if (("harness".toList == "harness".toList || "harness".toList == "ownmain".toList) && isSumSigns su) = true then _ else _) = _
  rw [h3]
  rfl
set_option maxRecDepth 100000 in
theorem start_is : ∃ b, behindMainWord (wordsSigns Try.pinned.checked.prog.initOrder.toList) = "cut".toList :: b :=
  start_words (s := Try.pinned.checked.prog.initOrder) (l := _) rfl (by kernel_rfl) (by kernel_rfl) (by kernel_rfl)
theorem strip_is (b : List (List Char)) : stripLifts liftWords ("cut".toList :: b) = ([], "cut".toList :: b) := by kernel_rfl
theorem make_of {P : Program} {b : List (List Char)} (hb : behindMainWord (wordsSigns P.initOrder.toList) = "cut".toList :: b) : P.make = some .cut := by
  unfold Program.make
  rw [hb]
  dsimp only
  rw [if_neg (by decide), if_pos (by rw [Bool.or_eq_true]; exact .inl (by decide))]
theorem lift_of {P : Program} {b : List (List Char)} (hb : behindMainWord (wordsSigns P.initOrder.toList) = "cut".toList :: b) : P.liftsFinal = false := by
  unfold Program.liftsFinal Program.headLifts
  rw [hb, strip_is]
  rfl
theorem enter_of {P : Program} {b : List (List Char)} (hb : behindMainWord (wordsSigns P.initOrder.toList) = "cut".toList :: b) (h1 : P.laysLater = false) (h2 : P.bearsReflect = false) (h3 : P.doorFits [] = true) : P.mayEnter = true := by
  unfold Program.mayEnter
  rw [hb]
  dsimp only
  rw [strip_is, h1, h2, h3]
  rw [Bool.or_eq_true]
  right
  rfl
theorem seat_enter : Try.pinned.checked.prog.mayEnter = true := by
  obtain ⟨b, hb⟩ := start_is
  exact enter_of hb (by kernel_rfl) (by kernel_rfl) (by kernel_rfl)
theorem seat_lift : Try.pinned.checked.prog.liftsFinal = false := by
  obtain ⟨b, hb⟩ := start_is
  exact lift_of hb
theorem seat_make : Try.pinned.checked.prog.make = some .cut := by
  obtain ⟨b, hb⟩ := start_is
  exact make_of hb
end Go.Proofs.Ytgncjpakclbegaa
