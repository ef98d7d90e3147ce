/-
  Plain facts on the texts of quotients: two valid quotients with one text are the same; a slash stands in a text just where the quotient is not whole.
-/
import Derived.Test.YtlbhfgckdbmldaaDoorText
import Derived.Test.YtlbhfgckdbmldaaDoorQM2
namespace Go.Proofs.YtlbhfgckdbmldaaDoor
open Go.RowKit

def val (l : List UInt8) : Nat := l.foldl (fun v c => v * 10 + (c.toNat - 48)) 0
theorem val_snoc (l : List UInt8) (c : UInt8) : val (l ++ [c]) = val l * 10 + (c.toNat - 48) := by simp [val]
theorem val_dec (n : Nat) : val (Lib.decDigits n) = n := by
  induction n using Nat.strongRecOn with
  | _ n ih =>
    rw [Lib.decDigits]
    split
    · rename_i h
      simp [val]
      omega
    · rename_i h
      rw [val_snoc, ih (n / 10) (by omega)]
      have : (UInt8.ofNat (48 + n % 10)).toNat = 48 + n % 10 := by rw [UInt8.toNat_ofNat']; omega
      rw [this]
      omega
theorem dec_range (n : Nat) : ∀ c ∈ Lib.decDigits n, 48 ≤ c.toNat ∧ c.toNat ≤ 57 := by
  induction n using Nat.strongRecOn with
  | _ n ih =>
    intro c hc
    rw [Lib.decDigits] at hc
    split at hc
    · rename_i h
      simp at hc
      subst hc
      rw [UInt8.toNat_add, UInt8.toNat_ofNat']
      simp
      omega
    · rename_i h
      simp at hc
      rcases hc with hc | hc
      · exact ih (n / 10) (by omega) c hc
      · subst hc
        rw [UInt8.toNat_add, UInt8.toNat_ofNat']
        simp
        omega
theorem dec_ne (n : Nat) : Lib.decDigits n ≠ [] := by
  rw [Lib.decDigits]
  split <;> simp
theorem itoa_no47 (n : Int) : (47 : UInt8) ∉ Lib.itoa n := by
  unfold Lib.itoa
  split
  · intro h
    simp at h
    have := dec_range _ _ h
    simp at this
  · intro h
    have := dec_range _ _ h
    simp at this
theorem itoa_inj {a b : Int} (h : Lib.itoa a = Lib.itoa b) : a = b := by
  unfold Lib.itoa at h
  have head : ∀ (x : Nat) (l : List UInt8), 45 :: l = Lib.decDigits x → False := by
    intro x l e
    have := dec_range x 45 (by rw [← e]; simp)
    simp at this
  split at h <;> split at h
  · simp at h
    have := congrArg val h
    rw [val_dec, val_dec] at this
    omega
  · exact (head _ _ h).elim
  · exact (head _ _ h.symm).elim
  · have := congrArg val h
    rw [val_dec, val_dec] at this
    omega
theorem split47 : ∀ (x x' y y' : List UInt8), (47 : UInt8) ∉ x → (47 : UInt8) ∉ x' → x ++ 47 :: y = x' ++ 47 :: y' → x = x' ∧ y = y'
  | [], [], y, y', _, _, h => ⟨rfl, by simpa using h⟩
  | [], c :: x', y, y', _, h2, h => by
    simp at h
    exact absurd (by rw [← h.1]; simp) h2
  | c :: x, [], y, y', h1, _, h => by
    simp at h
    exact absurd (by rw [h.1]; simp) h1
  | c :: x, c' :: x', y, y', h1, h2, h => by
    simp at h h1 h2
    obtain ⟨rfl, h⟩ := h
    obtain ⟨rfl, rfl⟩ := split47 x x' y y' h1.2 h2.2 h
    exact ⟨rfl, rfl⟩
theorem text_slash {t l : Int} (h : Quo.qv t l = true) : (text t l).any (· == 47) = decide (1 < l) := by
  obtain ⟨b1, -⟩ := Quo.qv_true h
  by_cases h1 : l = 1
  · subst h1
    rw [text_one h]
    have := itoa_no47 t
    simp
    intro x hx e
    exact this (e ▸ hx)
  · rw [text_more h h1]
    simp
    omega
theorem text_inj {t l t' l' : Int} (h : Quo.qv t l = true) (h' : Quo.qv t' l' = true) (e : text t l = text t' l') : t = t' ∧ l = l' := by
  have s1 := text_slash h
  have s2 := text_slash h'
  rw [e, s2] at s1
  simp at s1
  obtain ⟨b1, -⟩ := Quo.qv_true h
  obtain ⟨b2, -⟩ := Quo.qv_true h'
  by_cases h1 : l = 1
  · have h2 : l' = 1 := by omega
    subst h1 h2
    rw [text_one h, text_one h'] at e
    exact ⟨itoa_inj e, rfl⟩
  · have h2 : l' ≠ 1 := by omega
    rw [text_more h h1, text_more h' h2] at e
    obtain ⟨e1, e2⟩ := split47 _ _ _ _ (itoa_no47 _) (itoa_no47 _) e
    exact ⟨itoa_inj e1, itoa_inj e2⟩
theorem text_ne {t l : Int} (h : Quo.qv t l = true) : text t l ≠ [] := by
  have hn : ∀ n, Lib.itoa n ≠ [] := by
    intro n
    unfold Lib.itoa
    split
    · simp
    · exact dec_ne _
  by_cases h1 : l = 1
  · subst h1
    rw [text_one h]
    exact hn t
  · rw [text_more h h1]
    simp
theorem plus_one {a b : Int} (h : Quo.gOk (Quo.both a b 1 1) (a * 1 + 1 * b) (b * 1) = true) (x y : Int) (hx : Quo.gT (Quo.both a b 1 1) (a * 1 + 1 * b) (b * 1) = x) (hy : Quo.gL (Quo.both a b 1 1) (a * 1 + 1 * b) (b * 1) = y) : text x y ≠ text a b := by
  obtain ⟨h1, h2, h3, h4, h5⟩ := Quo.g_ok h
  obtain ⟨q, e⟩ := Quo.of_ok h3
  rw [← h4, ← h5, hx, hy] at q
  rw [← h4, ← h5, hx, hy] at e
  obtain ⟨b1, -⟩ := Quo.qv_true h1
  intro e'
  obtain ⟨rfl, rfl⟩ := text_inj q h1 e'
  have : y * y = 0 := by grind
  rcases Int.mul_eq_zero.1 this with h | h <;> omega
theorem turned {a b : Int} (h : Quo.qv a b = true) (h0 : a ≠ 0) : text (-a) b ≠ text a b := by
  obtain ⟨b1, b2, b3, b4, -⟩ := Quo.qv_true h
  have hq := Quo.qv_neg a b (by omega) (by omega)
  rw [if_neg (by omega), h] at hq
  intro e
  have := text_inj hq h e
  omega
end Go.Proofs.YtlbhfgckdbmldaaDoor
