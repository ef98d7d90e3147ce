/-
  The program's helpers of shares: sums, bounds, lengths, division rounded down.
  A heap kept in a list: what goes up and what goes down, and that the first one comes before all others. No function of the program is named.
  The methods of the program's heap of remainders.
  The program's heap: an exchange.
  The program's heap: the last one is taken off, one is put at its end.
  The heap goes up and down: one put on, the first one taken.
  The heap: one goes down.
  One is put on the heap; the first one is taken.
  The program's ShareOf.
  The program's gaps of shares, ShareOk and ShareFar.
  The program's ShareOk, ShareFar and ShareRises.
-/
import Derived.Test.YtgncjpakclbegaaSy
import Derived.Test.YtgncjpakclbegaaSz
import Derived.BigRegion
import Derived.Deep.RegionLaw
import Derived.Test.YtgncjpakclbegaaZf
namespace Go.Proofs.Ytgncjpakclbegaa
open Go.RowKit
set_option linter.unusedVariables false

theorem iTotal (k c : Nat) (p : Option Addr) (L : List Int) (w : World) (h : Ints w p L) (hk : L.length = k) (hl : k ≤ 1000) (hB : ∀ z ∈ L, -1000000000 ≤ z ∧ z ≤ 1000000000) :
    Calls Try.prog 82 #[.slice p k c] w fun e w' => e = .returned (.int .i64 (tot L)) ∧ w = w' := by
  have H := Lib.hid (And.intro h (And.intro hk hB))
  clear h hk hB
  go_enter Try.func82, Try.ntmps82
  go_wp2_with fail
  go_loopw [3, 8] (fun s i wr => ∃ j : Nat, j ≤ k ∧ i = .int .i64 j ∧ s = .int .i64 (tot (L.take j)) ∧ w = wr) (fun _ i _ => k - (intOf i).toNat)
  case atStart => exact ⟨0, Nat.zero_le _, rfl, rfl, rfl⟩
  case round =>
    obtain ⟨j, hj, rfl, rfl, rfl⟩ := hrel
    have hb := tot_low (L := L.take j) (fun z hz => H.out.2.2 z (List.mem_of_mem_take hz)) (by rw [List.length_take]; omega)
    obtain ⟨s, hs⟩ : ∃ s, tot (L.take j) = s := ⟨_, rfl⟩
    rw [hs] at hb ⊢
    obtain ⟨s0, s1⟩ := hb
    by_cases hlt : j < k
    · obtain ⟨B, o, z, rfl, hz, hB, e0⟩ := H.out.1.at (i := j) (by have := H.out.2.1; omega)
      obtain ⟨z0, z1⟩ := H.out.2.2 z (List.mem_of_getElem? hz)
      have HS : Hid (tot (L.take (j + 1)) = s + z) := Lib.hid (by rw [tot_take hz, hs])
      clear hz hs
      go_wp2_with fail
      go_roundw
      case rel => exact ⟨j + 1, by omega, by go_num, by rw [HS.out], by first | trivial | rfl⟩
      case measure => simp [intOf]; omega
    · have e : j = k := by omega
      subst e
      have HX : Hid (tot L = s) := Lib.hid (by rw [← hs, List.take_of_length_le (Nat.le_of_eq H.out.2.1)])
      clear hs
      go_wp2_with fail
      go_ret
      exact ⟨ret_int HX.out.symm, rfl⟩
/-- .. of whatever list -/
theorem iTotal_any (k c : Nat) (p : Option Addr) (L : List Int) (w : World) (h : Ints w p L) (hk : L.length = k) (hl : k ≤ 4000000000000000000) :
    Calls Try.prog 82 #[.slice p k c] w fun e w' => (∃ v, e = .returned (.int .i64 v)) ∧ w = w' := by
  have H := Lib.hid (And.intro h hk)
  clear h hk
  go_enter Try.func82, Try.ntmps82
  go_wp2_with fail
  go_loopw [3, 8] (fun s i wr => ∃ (j : Nat) (v : Int), j ≤ k ∧ i = .int .i64 j ∧ s = .int .i64 v ∧ w = wr) (fun _ i _ => k - (intOf i).toNat)
  case atStart => exact ⟨0, 0, Nat.zero_le _, rfl, rfl, rfl⟩
  case round =>
    obtain ⟨j, s, hj, rfl, rfl, rfl⟩ := hrel
    by_cases hlt : j < k
    · obtain ⟨B, o, z, rfl, hz, hB, e0⟩ := H.out.1.at (i := j) (by have := H.out.2; omega)
      clear hz
      go_wp2_with fail
      go_roundw
      case rel => exact ⟨j + 1, _, by omega, by go_num, rfl, by first | trivial | rfl⟩
      case measure => simp [intOf]; omega
    · have e : j = k := by omega
      subst e
      go_wp2_with fail
      go_ret
      exact ⟨⟨_, rfl⟩, rfl⟩
theorem iAllWithin (k c : Nat) (p : Option Addr) (L : List Int) (m : Int) (b : Bool) (w : World) (h : Ints w p L) (hk : L.length = k) (hl : k ≤ 4000000000000000000) (hm : 0 ≤ m) (hm' : m ≤ 4000000000000000000) (hb : decide (∀ z ∈ L, -m ≤ z ∧ z ≤ m) = b) :
    Calls Try.prog 119 #[.slice p k c, .int .i64 m] w fun e w' => e = .returned (.bool b) ∧ w = w' := by
  have H := Lib.hid (And.intro h (And.intro hk hb))
  clear h hk hb
  go_enter Try.func119, Try.ntmps119
  go_wp2_with fail
  go_loopw [9] (fun i wr => ∃ j : Nat, j ≤ k ∧ i = .int .i64 j ∧ (∀ z ∈ L.take j, -m ≤ z ∧ z ≤ m) ∧ w = wr) (fun i _ => k - (intOf i).toNat)
  case atStart => exact ⟨0, Nat.zero_le _, rfl, by simp, rfl⟩
  case round =>
    obtain ⟨j, hj, rfl, hn, rfl⟩ := hrel
    by_cases hlt : j < k
    · obtain ⟨B, o, y, rfl, hy, hB, e0⟩ := H.out.1.at (i := j) (by have := H.out.2.1; omega)
      have hlt' : (j : Int) < (k : Int) := by omega
      by_cases hyz : -m ≤ y ∧ y ≤ m
      · have c1 := fun w => Lib.hid (nWithin y m true w hm hm' (decide_eq_true hyz))
        have HN : Hid (∀ z ∈ L.take (j + 1), -m ≤ z ∧ z ≤ m) := Lib.hid (by
          rw [List.take_add_one, hy]; intro z hz
          rcases List.mem_append.1 hz with h | h
          · exact hn z h
          · simp at h; subst h; exact hyz)
        clear hy hn hyz
        go_wp2_with ((go_at_call 125; (with_reducible refine ((c1 _).out).mono ?_); rintro e w' ⟨rfl, rfl⟩))
        go_roundw
        case rel => exact ⟨j + 1, by omega, by go_num, HN.out, by first | trivial | rfl⟩
        case measure => simp [intOf]; omega
      · have c1 := fun w => Lib.hid (nWithin y m false w hm hm' (decide_eq_false hyz))
        have HB : Hid (false = b) := Lib.hid (by
          rw [← H.out.2.2]
          exact (decide_eq_false (fun hc => hyz (hc y (List.mem_of_getElem? hy)))).symm)
        clear hy hn hyz
        go_wp2_with ((go_at_call 125; (with_reducible refine ((c1 _).out).mono ?_); rintro e w' ⟨rfl, rfl⟩))
        go_ret
        exact ⟨ret_bool HB.out, rfl⟩
    · have e : j = k := by omega
      subst e
      have HB : Hid (true = b) := Lib.hid (by
        rw [← H.out.2.2]
        rw [List.take_of_length_le (Nat.le_of_eq H.out.2.1)] at hn
        exact (decide_eq_true hn).symm)
      clear hn
      go_wp2_with fail
      go_ret
      exact ⟨ret_bool HB.out, rfl⟩
set_option maxHeartbeats 1000000 in
theorem iLengths (k c : Nat) (p : Option Addr) (L : List Int) (b : Bool) (w : World) (h : Ints w p L) (hk : L.length = k) (hl : k ≤ 4000000000000000000) (hb : lenOk L = b) :
    Calls Try.prog 124 #[.slice p k c] w fun e w' => e = .returned (.bool b) ∧ w = w' := by
  by_cases hk20 : k ≤ 20
  · have c2 := fun w h hB => Lib.hid (iTotal k c p L w h hk (by omega) hB)
    have H := Lib.hid (And.intro h (And.intro hk hb))
    have hk20' : decide (20 < (k : Int)) = false := decide_eq_false (by omega)
    clear h hk hb
    go_enter Try.func124, Try.ntmps124
    go_wp2_with fail
    go_loopw [10] (fun i wr => ∃ j : Nat, j ≤ k ∧ i = .int .i64 j ∧ (∀ z ∈ L.take j, 0 ≤ z ∧ z ≤ 10000) ∧ w = wr) (fun i _ => k - (intOf i).toNat)
    case atStart => exact ⟨0, Nat.zero_le _, rfl, by simp, rfl⟩
    case round =>
      obtain ⟨j, hj, rfl, hn, rfl⟩ := hrel
      by_cases hlt : j < k
      · obtain ⟨B, o, y, rfl, hy, hB, e0⟩ := H.out.1.at (i := j) (by have := H.out.2.1; omega)
        have hlt' : (j : Int) < (k : Int) := by omega
        by_cases hyz : 0 ≤ y ∧ y ≤ 10000
        · have HN : Hid (∀ z ∈ L.take (j + 1), 0 ≤ z ∧ z ≤ 10000) := Lib.hid (by
            rw [List.take_add_one, hy]; intro z hz
            rcases List.mem_append.1 hz with h | h
            · exact hn z h
            · simp at h; subst h; exact hyz)
          obtain ⟨y0, y1⟩ := hyz
          clear hy hn c2
          go_wp2_with fail
          go_roundw
          case rel => exact ⟨j + 1, by omega, by go_num, HN.out, by first | trivial | rfl⟩
          case measure => simp [intOf]; omega
        · have HB : Hid (false = b) := Lib.hid (by
            rw [← H.out.2.2]
            exact (decide_eq_false (fun hc => hyz (hc.2.2.1 y (List.mem_of_getElem? hy)))).symm)
          clear hy hn c2
          by_cases hy0 : y < 0
          all_goals
            go_wp2_with fail
            go_ret
            exact ⟨ret_bool HB.out, rfl⟩
      · have e : j = k := by omega
        subst e
        rw [List.take_of_length_le (Nat.le_of_eq H.out.2.1)] at hn
        have c3 := fun w h => (c2 w h (fun z hz => by have := hn z hz; omega))
        obtain ⟨S, hS⟩ : ∃ S, tot L = S := ⟨_, rfl⟩
        have hS0 := tot_nonneg (fun z hz => (hn z hz).1)
        rw [hS] at c3 hS0
        clear c2
        by_cases hp : 0 < S
        · have HB : Hid (true = b) := Lib.hid (by
            rw [← H.out.2.2]
            refine (decide_eq_true ⟨?_, ?_, hn, by omega⟩).symm
            · have := H.out.2.1
              rcases Nat.eq_zero_or_pos L.length with e | e
              · have : L = [] := List.length_eq_zero_iff.1 e
                subst this; simp [tot] at hS; omega
              · exact e
            · have := H.out.2.1; omega)
          clear hn hS
          go_wp2_with (go_at_call 82; (with_reducible refine ((c3 _ ?_).out).mono ?_); (focus (exact H.out.1; done)); rintro e w' ⟨rfl, rfl⟩)
          go_ret
          exact ⟨ret_bool HB.out, rfl⟩
        · have HB : Hid (false = b) := Lib.hid (by
            rw [← H.out.2.2]
            exact (decide_eq_false (fun hc => hp (by have := hc.2.2.2; omega))).symm)
          clear hn hS
          go_wp2_with (go_at_call 82; (with_reducible refine ((c3 _ ?_).out).mono ?_); (focus (exact H.out.1; done)); rintro e w' ⟨rfl, rfl⟩)
          go_ret
          exact ⟨ret_bool (by rw [← HB.out]; exact decide_eq_false (by omega)), rfl⟩
  · have HB : Hid (false = b) := Lib.hid (by
      rw [← hb]
      exact (decide_eq_false (fun hc => hk20 (by have := hc.2.1; omega))).symm)
    clear h hk hb
    go_enter Try.func124, Try.ntmps124
    go_wp2_with fail
    go_ret
    exact ⟨ret_bool HB.out, rfl⟩
theorem tmod_floor {x s : Int} (hs : 0 < s) : x % s = if x.tmod s < 0 then x.tmod s + s else x.tmod s := by
  have e := Int.tmod_add_mul_tdiv x s
  have hb : -s < x.tmod s ∧ x.tmod s < s := by
    have h1 := Int.tmod_lt_of_pos x hs
    have h2 := Int.tmod_lt_of_pos (-x) hs
    rw [Int.neg_tmod] at h2
    omega
  split
  · next h =>
    have := (Int.ediv_emod_unique (a := x) (r := x.tmod s + s) (q := x.tdiv s - 1) hs).2 ⟨by rw [Int.mul_sub]; omega, by omega, by omega⟩
    exact this.2
  · next h =>
    have := (Int.ediv_emod_unique (a := x) (r := x.tmod s) (q := x.tdiv s) hs).2 ⟨e, by omega, hb.2⟩
    exact this.2
theorem iDivide (x s : Int) (w : World) (hs : 0 < s) (hs9 : s ≤ 1000000000) (h0 : -1000000000000000 ≤ x) (h1 : x ≤ 1000000000000000) :
    Calls Try.prog 136 #[.int .i64 x, .int .i64 s] w fun e w' => e = .returned (.tuple #[.int .i64 (x / s), .int .i64 (x % s)]) ∧ ∃ n, w' = w.drewN n := by
  have HF := Lib.hid (And.intro (tdiv_floor (x := x) hs) (tmod_floor (x := x) hs))
  have hs0 : (s == 0) = false := by
    have : ¬ s = 0 := by omega
    simpa using this
  have hs0' : ¬ s = 0 := by omega
  obtain ⟨q, hq⟩ : ∃ q, x.tdiv s = q := ⟨_, rfl⟩
  obtain ⟨m, hm⟩ : ∃ m, x.tmod s = m := ⟨_, rfl⟩
  have e := Int.tmod_add_mul_tdiv x s
  have hq0 : -1000000000000000 ≤ q ∧ q ≤ 1000000000000000 := by
    have h3 := Int.natAbs_tdiv_le_natAbs x s
    rw [hq] at h3
    omega
  have hm0 : -s < m ∧ m < s := by
    have h1 := Int.tmod_lt_of_pos x hs
    have h2 := Int.tmod_lt_of_pos (-x) hs
    rw [Int.neg_tmod] at h2
    rw [hm] at h1 h2
    omega
  obtain ⟨q0, q1⟩ := hq0
  obtain ⟨m0, m1⟩ := hm0
  clear e
  by_cases hneg : m < 0
  · have HX : Hid (x / s = q - 1 ∧ x % s = m + s) := Lib.hid (by rw [HF.out.1, HF.out.2, hm, hq, if_pos hneg, if_pos hneg]; exact ⟨rfl, rfl⟩)
    clear HF
    go_enter Try.func136, Try.ntmps136
    go_wp2_with fail
    go_region
    go_wp2_with fail
    refine bodyPost_ret (v := .tuple #[.int .i64 (q - 1), .int .i64 (m + s)]) (by simp [results, Try.results136, go_sem]) rfl ⟨by rw [HX.out.1, HX.out.2], _, rfl⟩
  · have HX : Hid (x / s = q ∧ x % s = m) := Lib.hid (by rw [HF.out.1, HF.out.2, hm, hq, if_neg hneg, if_neg hneg]; exact ⟨rfl, rfl⟩)
    clear HF
    go_enter Try.func136, Try.ntmps136
    go_wp2_with fail
    go_region
    go_wp2_with fail
    refine bodyPost_ret (v := .tuple #[.int .i64 q, .int .i64 m]) (by simp [results, Try.results136, go_sem]) rfl ⟨by rw [HX.out.1, HX.out.2], _, rfl⟩
end Go.Proofs.Ytgncjpakclbegaa
namespace Go.Proofs.Ytgncjpakclbegaa
set_option linter.unusedVariables false

/-- the number at an index, 0 beyond -/
def gn (l : List Nat) (i : Nat) : Nat := (l[i]?).getD 0
theorem gn_at {l : List Nat} {i : Nat} {x : Nat} (h : l[i]? = some x) : gn l i = x := by unfold gn; rw [h]; rfl
theorem at_gn {l : List Nat} {i : Nat} (h : i < l.length) : l[i]? = some (gn l i) := by unfold gn; rw [List.getElem?_eq_getElem h]; rfl
theorem gn_mem {l : List Nat} {i : Nat} (h : i < l.length) : gn l i ∈ l := List.mem_of_getElem? (at_gn h)
theorem mem_gn {l : List Nat} {x : Nat} (h : x ∈ l) : ∃ i, i < l.length ∧ gn l i = x := by
  obtain ⟨i, hi⟩ := List.mem_iff_getElem?.1 h
  exact ⟨i, (List.getElem?_eq_some_iff.1 hi).1, gn_at hi⟩
/-- two places exchanged -/
def sw (l : List Nat) (i j : Nat) : List Nat := (l.set i (gn l j)).set j (gn l i)
section
variable {r : Nat → Int} {l : List Nat} {i j n : Nat}
theorem sw_len : (sw l i j).length = l.length := by simp [sw]
theorem sw_perm (hi : i < l.length) (hj : j < l.length) : (sw l i j).Perm l := by
  have h := @List.set_set_perm _ l _ _ hi hj
  have e1 : gn l j = l[j] := gn_at (List.getElem?_eq_getElem hj)
  have e2 : gn l i = l[i] := gn_at (List.getElem?_eq_getElem hi)
  unfold sw; rw [e1, e2]; exact h
theorem gn_sw (hi : i < l.length) (hj : j < l.length) (k : Nat) : gn (sw l i j) k = if k = j then gn l i else if k = i then gn l j else gn l k := by
  unfold sw gn
  rw [List.getElem?_set, List.length_set]
  split
  · next h => subst h; simp
  · next h =>
    rw [if_neg (fun e => h e.symm), List.getElem?_set]
    split
    · next h' => subst h'; simp
    · next h' => rw [if_neg (fun e => h' e.symm)]
theorem gn_append_left (m : List Nat) (h : i < l.length) : gn (l ++ m) i = gn l i := by unfold gn; rw [List.getElem?_append_left h]
theorem gn_append_len (x : Nat) : gn (l ++ [x]) l.length = x := by unfold gn; rw [List.getElem?_append_right (Nat.le_refl _)]; simp
theorem gn_take (h : i < n) : gn (l.take n) i = gn l i := by unfold gn; rw [List.getElem?_take, if_pos h]

/-- a does not come after c -/
def nol (r : Nat → Int) (a c : Nat) : Prop := ¬ bef r c a
theorem nol_refl (a : Nat) : nol r a a := by unfold nol bef; omega
theorem nol_trans {a b c : Nat} (h : nol r a b) (h' : nol r b c) : nol r a c := by unfold nol bef at *; omega
theorem nol_of {a b : Nat} (h : bef r a b) : nol r a b := bef_not h
theorem bef_of {a b : Nat} (h : nol r a b) (hne : b ≠ a) : bef r a b := by
  rcases bef_or (r := r) (i := a) (k := b) (Ne.symm hne) with h' | h'
  · exact h'
  · exact absurd h' h
/-- the first n of a list are a heap -/
def Heap (r : Nat → Int) (n : Nat) (l : List Nat) : Prop := ∀ c, 0 < c → c < n → nol r (gn l ((c - 1) / 2)) (gn l c)
/-- .. but for the one at j, which may go up -/
def UpI (r : Nat → Int) (l : List Nat) (j : Nat) : Prop :=
  (∀ c, 0 < c → c < l.length → c ≠ j → nol r (gn l ((c - 1) / 2)) (gn l c)) ∧
  ∀ c, 0 < c → c < l.length → (c - 1) / 2 = j → 0 < j → nol r (gn l ((j - 1) / 2)) (gn l c)
/-- .. but for the one at i, which may go down -/
def DownI (r : Nat → Int) (n : Nat) (l : List Nat) (i : Nat) : Prop :=
  (∀ c, 0 < c → c < n → (c - 1) / 2 ≠ i → nol r (gn l ((c - 1) / 2)) (gn l c)) ∧
  (0 < i → ∀ c, 0 < c → c < n → (c - 1) / 2 = i → nol r (gn l ((i - 1) / 2)) (gn l c))
theorem Heap.zero : Heap r 0 l := fun c _ h => by omega
theorem Heap.first (h : Heap r n l) : ∀ k, k < n → nol r (gn l 0) (gn l k) := by
  intro k
  induction k using Nat.strongRecOn with
  | ind k ih =>
    intro hk
    by_cases e : k = 0
    · subst e; exact nol_refl _
    · exact nol_trans (ih ((k - 1) / 2) (by omega) (by omega)) (h k (by omega) hk)
theorem UpI.start (h : Heap r l.length l) (x : Nat) : UpI r (l ++ [x]) l.length := by
  refine ⟨fun c h0 hc hne => ?_, fun c h0 hc hp => ?_⟩
  · rw [List.length_append] at hc
    simp at hc
    rw [gn_append_left _ (show (c - 1) / 2 < l.length by omega), gn_append_left _ (show c < l.length by omega)]
    exact h c h0 (by omega)
  · rw [List.length_append] at hc
    simp at hc
    omega
theorem UpI.stop (h : UpI r l j) (hj : j = 0 ∨ nol r (gn l ((j - 1) / 2)) (gn l j)) : Heap r l.length l := by
  intro c h0 hc
  by_cases e : c = j
  · subst e
    rcases hj with hj | hj
    · omega
    · exact hj
  · exact h.1 c h0 hc e
theorem UpI.step (h : UpI r l j) (hj : j < l.length) (h0 : 0 < j) (hb : bef r (gn l j) (gn l ((j - 1) / 2))) : UpI r (sw l ((j - 1) / 2) j) ((j - 1) / 2) := by
  obtain ⟨i, hi⟩ : ∃ i, (j - 1) / 2 = i := ⟨_, rfl⟩
  rw [hi] at hb ⊢
  have hij : i < j := by omega
  have g := gn_sw (l := l) (i := i) (j := j) (by omega) hj
  refine ⟨fun c hc0 hc hne => ?_, fun c hc0 hc hp hi0 => ?_⟩
  · rw [sw_len] at hc
    rw [g c, g ((c - 1) / 2)]
    by_cases e : c = j
    · subst e
      rw [if_pos rfl, hi, if_neg (by omega), if_pos rfl]
      exact nol_of hb
    · rw [if_neg e, if_neg hne]
      have h1 := h.1 c hc0 hc e
      by_cases e1 : (c - 1) / 2 = j
      · rw [if_pos e1]
        have := h.2 c hc0 hc e1 h0
        rwa [hi] at this
      · rw [if_neg e1]
        by_cases e2 : (c - 1) / 2 = i
        · rw [if_pos e2]
          rw [e2] at h1
          exact nol_trans (nol_of hb) h1
        · rw [if_neg e2]
          exact h1
  · rw [sw_len] at hc
    have h1 := h.1 i hi0 (by omega) (by omega)
    rw [g ((i - 1) / 2), if_neg (by omega), if_neg (by omega), g c]
    by_cases e : c = j
    · rw [if_pos e]; exact h1
    · rw [if_neg e, if_neg (by omega)]
      have h2 := h.1 c hc0 hc e
      rw [hp] at h2
      exact nol_trans h1 h2
theorem DownI.start (h : Heap r (n + 1) l) (hl : l.length = n + 1) : DownI r n (sw l 0 n) 0 := by
  refine ⟨fun c hc0 hc hp => ?_, fun h0 => by omega⟩
  have g := gn_sw (l := l) (i := 0) (j := n) (by omega) (by omega)
  rw [g c, g ((c - 1) / 2), if_neg (by omega : ¬ c = n), if_neg (by omega : ¬ c = 0), if_neg (by omega : ¬ (c - 1) / 2 = n), if_neg hp]
  exact h c hc0 (by omega)
theorem DownI.stop (h : DownI r n l i) (hs : ∀ c, 0 < c → c < n → (c - 1) / 2 = i → nol r (gn l i) (gn l c)) : Heap r n l := by
  intro c hc0 hc
  by_cases e : (c - 1) / 2 = i
  · rw [e]; exact hs c hc0 hc e
  · exact h.1 c hc0 hc e
/-- j is the one of those below i that none comes before -/
def Best (r : Nat → Int) (n : Nat) (l : List Nat) (i j : Nat) : Prop := (0 < j ∧ j < n ∧ (j - 1) / 2 = i) ∧ ∀ c, 0 < c → c < n → (c - 1) / 2 = i → nol r (gn l j) (gn l c)
theorem Best.left (h : 2 * i + 1 < n) (h' : 2 * i + 2 < n → nol r (gn l (2 * i + 1)) (gn l (2 * i + 2))) : Best r n l i (2 * i + 1) := by
  refine ⟨by omega, fun c hc0 hc hp => ?_⟩
  rcases (show c = 2 * i + 1 ∨ c = 2 * i + 2 by omega) with e | e
  · rw [e]; exact nol_refl _
  · subst e; exact h' hc
theorem Best.right (h : 2 * i + 2 < n) (h' : bef r (gn l (2 * i + 2)) (gn l (2 * i + 1))) : Best r n l i (2 * i + 2) := by
  refine ⟨by omega, fun c hc0 hc hp => ?_⟩
  rcases (show c = 2 * i + 1 ∨ c = 2 * i + 2 by omega) with e | e
  · rw [e]; exact nol_of h'
  · rw [e]; exact nol_refl _
theorem DownI.low (h : DownI r n l i) (hb : Best r n l i j) (hn : nol r (gn l i) (gn l j)) : Heap r n l := h.stop (fun c h0 hc hp => nol_trans hn (hb.2 c h0 hc hp))
theorem DownI.none (h : DownI r n l i) (hn : n ≤ 2 * i + 1) : Heap r n l := h.stop (fun c h0 hc hp => by omega)
theorem DownI.step (h : DownI r n l i) (hl : n ≤ l.length) (hb : Best r n l i j) (hj : bef r (gn l j) (gn l i)) : DownI r n (sw l i j) j := by
  obtain ⟨⟨hj0, hjn, hp⟩, hb2⟩ := hb
  have g := gn_sw (l := l) (i := i) (j := j) (by omega) (by omega)
  refine ⟨fun c hc0 hc hpc => ?_, fun _ c hc0 hc hpc => ?_⟩
  · rw [g c, g ((c - 1) / 2), if_neg hpc]
    by_cases e : c = j
    · subst e
      rw [if_pos rfl, if_pos hp]
      exact nol_of hj
    · rw [if_neg e]
      by_cases e1 : (c - 1) / 2 = i
      · rw [if_pos e1, if_neg (by omega)]
        exact hb2 c hc0 hc e1
      · rw [if_neg e1]
        by_cases e2 : c = i
        · subst e2
          rw [if_pos rfl]
          exact h.2 hc0 j hj0 hjn hp
        · rw [if_neg e2]
          exact h.1 c hc0 hc e1
  · rw [g c, g ((j - 1) / 2), hp, if_neg (by omega), if_pos rfl, if_neg (by omega), if_neg (by omega)]
    have := h.1 c hc0 hc (by omega)
    rwa [hpc] at this
end
/-- remainders and indexes laid flat -/
def prs (r : Nat → Int) : List Nat → List Int
  | [] => []
  | i :: l => r i :: (i : Int) :: prs r l
section
variable {r : Nat → Int}
theorem prs_len : ∀ l : List Nat, (prs r l).length = l.length * 2
  | [] => rfl
  | i :: l => by simp [prs, prs_len l]; omega
theorem prs_append : ∀ l m : List Nat, prs r (l ++ m) = prs r l ++ prs r m
  | [], m => rfl
  | i :: l, m => by simp [prs, prs_append l m]
theorem prs_at : ∀ {l : List Nat} {i : Nat}, i < l.length → (prs r l)[i * 2]? = some (r (gn l i)) ∧ (prs r l)[i * 2 + 1]? = some ((gn l i : Nat) : Int)
  | [], i, h => by simp at h
  | a :: l, 0, h => by simp [prs, gn]
  | a :: l, i + 1, h => by
    have := prs_at (l := l) (i := i) (by simpa using h)
    have e : gn (a :: l) (i + 1) = gn l i := by simp [gn]
    simp only [prs, show (i + 1) * 2 = i * 2 + 1 + 1 by omega, e]
    simpa using this
theorem prs_set : ∀ {l : List Nat} {i : Nat} (x : Nat), i < l.length → prs r (l.set i x) = ((prs r l).set (i * 2) (r x)).set (i * 2 + 1) (x : Int)
  | [], i, x, h => by simp at h
  | a :: l, 0, x, h => by simp [prs]
  | a :: l, i + 1, x, h => by
    have := prs_set (l := l) (i := i) x (by simpa using h)
    simp only [List.set_cons_succ, prs, show (i + 1) * 2 = i * 2 + 1 + 1 by omega]
    rw [this]
theorem prs_take (l : List Nat) (n : Nat) : prs r (l.take n) = (prs r l).take (n * 2) := by
  induction n generalizing l with
  | zero => simp [prs]
  | succ n ih =>
    cases l with
    | nil => simp [prs]
    | cons a l => simp [prs, ih, show (n + 1) * 2 = n * 2 + 1 + 1 by omega]
end
/-- the members of a heap are those that are not taken; its first one is the best of them -/
structure Left (n : Nat) (r : Nat → Int) (T : Nat → Prop) (l : List Nat) : Prop where
  nd : l.Nodup
  mem : ∀ k, k ∈ l ↔ k < n ∧ ¬ T k
section
variable {n : Nat} {r : Nat → Int} {t : Int} {T : Nat → Prop} {l l' : List Nat}
theorem Left.start (h : l.Perm (List.range n)) : Left n r (fun _ => False) l := ⟨h.nodup_iff.2 List.nodup_range, fun k => by rw [h.mem_iff, List.mem_range]; simp⟩
theorem Left.best (h : Left n r T l) (hh : Heap r l.length l) (hl : 0 < l.length) (ht : Top n r t T) : gn l 0 < n ∧ ¬ T (gn l 0) ∧ Top n r (t + 1) (fun i => T i ∨ i = gn l 0) := by
  have h0 := (h.mem _).1 (gn_mem hl)
  exact ⟨h0.1, h0.2, ht.next h0.1 h0.2 (fun k hk hk' hne => by
    obtain ⟨i, hi, rfl⟩ := mem_gn ((h.mem k).2 ⟨hk, hk'⟩)
    exact bef_of (hh.first i hi) hne)⟩
theorem Left.next {b : Nat} (h : Left n r T l) (hp : (l' ++ [b]).Perm l) : Left n r (fun i => T i ∨ i = b) l' := by
  have h1 : (b :: l').Nodup := ((List.perm_append_singleton b l').symm.trans hp).nodup_iff.2 h.nd
  have h2 : ∀ k, k ∈ b :: l' ↔ k ∈ l := fun k => ((List.perm_append_singleton b l').symm.trans hp).mem_iff
  rw [List.nodup_cons] at h1
  refine ⟨h1.2, fun k => ⟨fun hk => ?_, fun hk => ?_⟩⟩
  · have := (h.mem k).1 ((h2 k).1 (by simp [hk]))
    exact ⟨this.1, fun hc => hc.elim this.2 (fun e => h1.1 (by rw [← e]; exact hk))⟩
  · have := (h2 k).2 ((h.mem k).2 ⟨hk.1, fun hc => hk.2 (.inl hc)⟩)
    rcases List.mem_cons.1 this with e | e
    · exact absurd (.inr e) hk.2
    · exact e
/-- a heap has as many as are left -/
theorem Left.more (h : Left n r T l) (ht : Top n r t T) (hn : t < n) : 0 < l.length := by
  obtain ⟨b, hb, hb'⟩ := ht.more hn
  exact List.length_pos_of_mem ((h.mem b).2 ⟨hb, hb'⟩)
end
end Go.Proofs.Ytgncjpakclbegaa
namespace Go.Proofs.Ytgncjpakclbegaa
open Go.RowKit
set_option linter.unusedVariables false

/-- a variable that holds the heap -/
structure Hp (w : World) (N g B cap : Nat) (r : Nat → Int) (l : List Nat) : Prop where
  cell : w.cell? ⟨g, 0, none⟩ = some (.slice (some ⟨B, 0, none⟩) l.length cap)
  froz : w.frozen? ⟨g, 0, none⟩ = false
  own : Own w B 130 2 l.length cap (prs r l)
  lo : N ≤ g ∧ N ≤ B ∧ g ≠ B ∧ g < w.heap.size
/-- what is at a place -/
theorem Hp.at {w : World} {B cap n i : Nat} {r : Nat → Int} {l : List Nat} (h : Own w B 130 2 n cap (prs r l)) (hi : i < l.length) : w.cell? ⟨B, i * 2, none⟩ = some (.int .i64 (r (gn l i))) ∧ w.cell? ⟨B, i * 2 + 1, none⟩ = some (.int .i64 ((gn l i : Nat) : Int)) :=
  ⟨h.cells (prs_at hi).1, h.cells (prs_at hi).2⟩
theorem iLess (w : World) (B cap n i j : Nat) (r : Nat → Int) (l : List Nat) (b : Bool) (h : Own w B 130 2 n cap (prs r l)) (hn : l.length = n) (hi : i < n) (hj : j < n) (hb : bef r (gn l i) (gn l j) ↔ b = true) :
    Calls Try.prog 166 #[.slice (some ⟨B, 0, none⟩) n cap, .int .i64 i, .int .i64 j] w fun e w' => e = .returned (.bool b) ∧ Below w.heap.size w w' := by
  obtain ⟨a0, a1⟩ := Hp.at h (i := i) (by omega)
  obtain ⟨b0, b1⟩ := Hp.at h (i := j) (by omega)
  unfold bef at hb
  obtain ⟨x, hx⟩ : ∃ x, r (gn l i) = x := ⟨_, rfl⟩
  obtain ⟨y, hy⟩ : ∃ y, r (gn l j) = y := ⟨_, rfl⟩
  obtain ⟨p, hp⟩ : ∃ p, gn l i = p := ⟨_, rfl⟩
  obtain ⟨q, hq⟩ : ∃ q, gn l j = q := ⟨_, rfl⟩
  rw [hx] at a0 hb
  rw [hy] at b0 hb
  rw [hp] at a1 hb
  rw [hq] at b1 hb
  have HB := Lib.hid hb
  have hi' : (i : Int) < (n : Int) := by omega
  have hj' : (j : Int) < (n : Int) := by omega
  have hlt := h.lt
  clear h hn hb hx hy hp hq
  by_cases hxy : x = y
  · subst hxy
    have HX : Hid (decide (p < q) = b) := Lib.hid (by
      have := HB.out
      cases b <;> simp at this ⊢ <;> omega)
    go_enter Try.func166, Try.ntmps166
    go_wp2_with fail
    (refine wp_region_grows (by kernel_rfl) (by kernel_rfl) ?_; intro W_wg hWc_wg hWs_wg hWe_wg; (repeat (go_big_quiet_step (fail))); with_reducible refine wpQuiet_nil ?_; clear hWe_wg hWs_wg hWc_wg W_wg; intro wg hb_wg; obtain ⟨hc_wg, hf_wg⟩ := bcell hb_wg; (try simp only [World.size_drew, World.cell?_drew, World.frozen?_drew, World.heap_drewN, World.cell?_drewN, World.frozen?_drewN] at hc_wg hf_wg); have hs_wg := hb_wg.size; (try simp at hs_wg); (try have hz_wg0 : B < wg.heap.size := (by have := hb_wg.size; (try simp at this); omega)))
    go_wp2_with fail
    (refine wp_region_grows (by kernel_rfl) (by kernel_rfl) ?_; intro W_wh hWc_wh hWs_wh hWe_wh; (repeat (go_big_quiet_step (fail))); with_reducible refine wpQuiet_nil ?_; clear hWe_wh hWs_wh hWc_wh W_wh; intro wh hb_wh; obtain ⟨hc_wh, hf_wh⟩ := bcell hb_wh; (try simp only [World.size_drew, World.cell?_drew, World.frozen?_drew, World.heap_drewN, World.cell?_drewN, World.frozen?_drewN] at hc_wh hf_wh); have hs_wh := hb_wh.size; (try simp at hs_wh); (try have hz_wh0 : B < wh.heap.size := (by have := hb_wh.size; (try simp at this); omega)))
    go_wp2_with fail
    go_ret
    exact ⟨ret_bool HX.out, (by repeat (first | assumption | exact Below.refl _ _ | (refine below_chain ?_ (by assumption) (by first | omega | (simp <;> omega) | simp)) | (refine Below.alloc ?_ (by first | omega | (simp <;> omega) | simp) _) | (apply below_drewN) | (apply below_drew) | (refine Below.setCell ?_ (by first | omega | (simp <;> omega) | simp) _)))⟩
  · have HX : Hid (decide (y < x) = b) := Lib.hid (by
      have := HB.out
      cases b <;> simp at this ⊢ <;> omega)
    have hxy' : (x == y) = false := by simpa using hxy
    have hxy2 : (x != y) = true := by simpa using hxy
    go_enter Try.func166, Try.ntmps166
    go_wp2_with fail
    (refine wp_region_grows (by kernel_rfl) (by kernel_rfl) ?_; intro W_wg hWc_wg hWs_wg hWe_wg; (repeat (go_big_quiet_step (fail))); with_reducible refine wpQuiet_nil ?_; clear hWe_wg hWs_wg hWc_wg W_wg; intro wg hb_wg; obtain ⟨hc_wg, hf_wg⟩ := bcell hb_wg; (try simp only [World.size_drew, World.cell?_drew, World.frozen?_drew, World.heap_drewN, World.cell?_drewN, World.frozen?_drewN] at hc_wg hf_wg); have hs_wg := hb_wg.size; (try simp at hs_wg); (try have hz_wg0 : B < wg.heap.size := (by have := hb_wg.size; (try simp at this); omega)))
    go_wp2_with fail
    (refine wp_region_grows (by kernel_rfl) (by kernel_rfl) ?_; intro W_wh hWc_wh hWs_wh hWe_wh; (repeat (go_big_quiet_step (fail))); with_reducible refine wpQuiet_nil ?_; clear hWe_wh hWs_wh hWc_wh W_wh; intro wh hb_wh; obtain ⟨hc_wh, hf_wh⟩ := bcell hb_wh; (try simp only [World.size_drew, World.cell?_drew, World.frozen?_drew, World.heap_drewN, World.cell?_drewN, World.frozen?_drewN] at hc_wh hf_wh); have hs_wh := hb_wh.size; (try simp at hs_wh); (try have hz_wh0 : B < wh.heap.size := (by have := hb_wh.size; (try simp at this); omega)))
    go_wp2_with fail
    go_ret
    exact ⟨ret_bool HX.out, (by repeat (first | assumption | exact Below.refl _ _ | (refine below_chain ?_ (by assumption) (by first | omega | (simp <;> omega) | simp)) | (refine Below.alloc ?_ (by first | omega | (simp <;> omega) | simp) _) | (apply below_drewN) | (apply below_drew) | (refine Below.setCell ?_ (by first | omega | (simp <;> omega) | simp) _)))⟩
theorem iLen (w : World) (p : Option Addr) (n cap : Nat) :
    Calls Try.prog 165 #[.slice p n cap] w fun e w' => e = .returned (.int .i64 n) ∧ w = w' := by
  go_enter Try.func165, Try.ntmps165
  go_wp2_with fail
  go_ret
  exact ⟨rfl, rfl⟩
end Go.Proofs.Ytgncjpakclbegaa
namespace Go.Proofs.Ytgncjpakclbegaa
open Go.RowKit
set_option linter.unusedVariables false

theorem gb_self (w : World) (B i : Nat) (v : Value) : w.grownBy (w.setCell ⟨B, i, none⟩ v) (some B) :=
  ⟨rfl, rfl, rfl, by simp, fun k hk hne => Deep.blk_setCell_other _ _ _ _ (by simpa using hne)⟩
theorem gb_dr {w w' : World} {r : Option Nat} (h : w.grownBy w' r) : w.grownBy w'.drew r := ⟨h.os, h.tape, h.output, h.size, h.block⟩
/-- two places written -/
theorem Own.set2 {w : World} {B cap n i : Nat} {T : TypeId} {r : Nat → Int} {l : List Nat} (h : Own w B T 2 n cap (prs r l)) (hi : i < l.length) (x : Nat) :
    Own ((w.setCell ⟨B, i * 2, none⟩ (.int .i64 (r x))).setCell ⟨B, i * 2 + 1, none⟩ (.int .i64 (x : Int))) B T 2 n cap (prs r (l.set i x)) := by
  rw [prs_set x hi]
  exact (h.set (i * 2) _ (by rw [prs_len]; omega)).set (i * 2 + 1) _ (by rw [List.length_set, prs_len]; omega)
set_option maxHeartbeats 1000000 in
theorem iSwap (w : World) (B cap n i j : Nat) (r : Nat → Int) (l : List Nat) (h : Own w B 130 2 n cap (prs r l)) (hn : l.length = n) (hi : i < n) (hj : j < n) (hne : i ≠ j) :
    Calls Try.prog 169 #[.slice (some ⟨B, 0, none⟩) n cap, .int .i64 i, .int .i64 j] w fun e w' => e = .returned (.tuple #[]) ∧ Own w' B 130 2 n cap (prs r (sw l i j)) ∧ w.grownBy w' (some B) := by
  obtain ⟨a0, a1⟩ := Hp.at h (i := i) (by omega)
  obtain ⟨b0, b1⟩ := Hp.at h (i := j) (by omega)
  have HO := Lib.hid (And.intro h hn)
  obtain ⟨x, hx⟩ : ∃ x, r (gn l i) = x := ⟨_, rfl⟩
  obtain ⟨y, hy⟩ : ∃ y, r (gn l j) = y := ⟨_, rfl⟩
  obtain ⟨p, hp⟩ : ∃ p, gn l i = p := ⟨_, rfl⟩
  obtain ⟨q, hq⟩ : ∃ q, gn l j = q := ⟨_, rfl⟩
  rw [hx] at a0
  rw [hy] at b0
  rw [hp] at a1
  rw [hq] at b1
  have HQ := Lib.hid (And.intro hx (And.intro hy (And.intro hp hq)))
  have hi' : (i : Int) < (n : Int) := by omega
  have hj' : (j : Int) < (n : Int) := by omega
  have n0 : ¬ i * 2 = j * 2 := by omega
  have n1 : ¬ i * 2 = j * 2 + 1 := by omega
  have n2 : ¬ i * 2 + 1 = j * 2 := by omega
  have n3 : ¬ i * 2 + 1 = j * 2 + 1 := by omega
  have n4 : ¬ j * 2 = i * 2 := by omega
  have n5 : ¬ j * 2 = i * 2 + 1 := by omega
  have n6 : ¬ j * 2 + 1 = i * 2 := by omega
  have n7 : ¬ j * 2 + 1 = i * 2 + 1 := by omega
  have f0 := h.frozen (i * 2)
  have f1 := h.frozen (i * 2 + 1)
  have f2 := h.frozen (j * 2)
  have f3 := h.frozen (j * 2 + 1)
  have hlt := h.lt
  clear h hn hx hy hp hq
  go_enter Try.func169, Try.ntmps169
  go_wp2_with fail
  go_region
  go_wp2_with fail
  refine bodyPost_end (results_none rfl _ _ _) rfl ⟨rfl, ?_, ?_⟩
  · obtain ⟨h, hn⟩ := HO.out
    obtain ⟨hx, hy, hp, hq⟩ := HQ.out
    have h4 := (h.set2 (i := i) (by omega) (gn l j)).set2 (i := j) (by rw [List.length_set]; omega) (gn l i)
    rw [hx, hy, hp, hq] at h4
    unfold sw
    rw [hp, hq]
    exact h4
  · exact gb_dr (gb_trans (gb_trans (gb_trans (gb_self _ _ _ _) (gb_self _ _ _ _)) (gb_self _ _ _ _)) (gb_self _ _ _ _))
theorem set_gn {l : List Nat} {i : Nat} (h : i < l.length) : l.set i (gn l i) = l := by
  have e : gn l i = l[i] := gn_at (List.getElem?_eq_getElem h)
  rw [e]; exact List.set_getElem_self h
theorem sw_self {l : List Nat} {i : Nat} (h : i < l.length) : sw l i i = l := by
  unfold sw; rw [set_gn h, set_gn h]
set_option maxHeartbeats 1000000 in
theorem iSwap_same (w : World) (B cap n i : Nat) (r : Nat → Int) (l : List Nat) (h : Own w B 130 2 n cap (prs r l)) (hn : l.length = n) (hi : i < n) :
    Calls Try.prog 169 #[.slice (some ⟨B, 0, none⟩) n cap, .int .i64 i, .int .i64 i] w fun e w' => e = .returned (.tuple #[]) ∧ Own w' B 130 2 n cap (prs r (sw l i i)) ∧ w.grownBy w' (some B) := by
  rw [sw_self (by omega)]
  obtain ⟨a0, a1⟩ := Hp.at h (i := i) (by omega)
  have HO := Lib.hid (And.intro h hn)
  obtain ⟨x, hx⟩ : ∃ x, r (gn l i) = x := ⟨_, rfl⟩
  obtain ⟨p, hp⟩ : ∃ p, gn l i = p := ⟨_, rfl⟩
  rw [hx] at a0
  rw [hp] at a1
  have HQ := Lib.hid (And.intro hx hp)
  have hi' : (i : Int) < (n : Int) := by omega
  have f0 := h.frozen (i * 2)
  have f1 := h.frozen (i * 2 + 1)
  have hlt := h.lt
  clear h hn hx hp
  go_enter Try.func169, Try.ntmps169
  go_wp2_with fail
  go_region
  go_wp2_with fail
  refine bodyPost_end (results_none rfl _ _ _) rfl ⟨rfl, ?_, ?_⟩
  · obtain ⟨h, hn⟩ := HO.out
    obtain ⟨hx, hp⟩ := HQ.out
    have h4 := (h.set2 (i := i) (by omega) (gn l i)).set2 (i := i) (by rw [List.length_set]; omega) (gn l i)
    rw [set_gn (by omega), set_gn (by omega), hx, hp] at h4
    exact h4
  · exact gb_dr (gb_trans (gb_trans (gb_trans (gb_self _ _ _ _) (gb_self _ _ _ _)) (gb_self _ _ _ _)) (gb_self _ _ _ _))
end Go.Proofs.Ytgncjpakclbegaa
namespace Go.Proofs.Ytgncjpakclbegaa
open Go.RowKit
set_option linter.unusedVariables false

/-- fewer of a block -/
theorem Own.less {w : World} {g n m cap sz : Nat} {T : TypeId} {xs : List Int} (h : Own w g T sz n cap xs) (hm : m ≤ n) : Own w g T sz m cap (xs.take (m * sz)) := by
  obtain ⟨cur, hg, h1, h2, h3, h4, h5⟩ := h.body
  have h6 : m * sz ≤ n * sz := Nat.mul_le_mul_right sz hm
  refine .of hg (by omega) h2 h3 ?_ (by rw [List.length_take]; omega)
  have : ivs (xs.take (m * sz)) = (ivs xs).take (m * sz) := by simp [ivs]
  rw [this, ← h4, List.take_take, Nat.min_eq_left h6]
set_option maxHeartbeats 1000000 in
theorem iPopM (w : World) (N g B cap m : Nat) (r : Nat → Int) (l : List Nat) (h : Hp w N g B cap r l) (hm : l.length = m + 1) (hm9 : m ≤ 1000) :
    Calls Try.prog 167 #[.pointer (some ⟨g, 0, none⟩)] w fun e w' => (∃ v, e = .returned v) ∧ Hp w' N g B cap r (l.take m) ∧ Below N w w' := by
  obtain ⟨a0, a1⟩ := Hp.at h.own (i := m) (by omega)
  have hc := h.cell
  have hf := h.froz
  obtain ⟨l1, l2, l3, l4⟩ := h.lo
  have hlt := h.own.lt
  have hcap : m + 1 ≤ cap := by obtain ⟨cur, _, h1, _⟩ := h.own.body; omega
  have hcap1 : m ≤ cap := by omega
  have hcap0 : ¬ cap = 0 := by omega
  rw [hm] at hc
  obtain ⟨x, hx⟩ : ∃ x, r (gn l m) = x := ⟨_, rfl⟩
  obtain ⟨p, hp⟩ : ∃ p, gn l m = p := ⟨_, rfl⟩
  rw [hx] at a0
  rw [hp] at a1
  have HO := Lib.hid (And.intro h hm)
  clear h hm hx hp
  have hgs : ¬ w.heap.size = g := by omega
  have hBs : ¬ w.heap.size = B := by omega
  have hgB : ¬ B = g := fun e => l3 e.symm
  go_enter Try.func167, Try.ntmps167
  go_wp2_with fail
  obtain ⟨h, hm⟩ := HO.out
  have e1 : (l.take m).length = m := by rw [List.length_take]; omega
  have ho : Own w B 130 2 m cap (prs r (l.take m)) := by
    have := h.own.less (m := m) (by omega)
    rwa [← prs_take] at this
  refine bodyPost_ret (v := .iface 130 (.agg #[.int .i64 x, .int .i64 p])) (by simp [results, Try.results167, go_sem]) rfl ⟨⟨_, rfl⟩, ⟨?_, ?_, ?_, ?_⟩, ?_⟩
  · rw [e1]; exact cell_alloc_keep _ (World.cell?_setCell_same _ _ _ hc)
  · exact (World.frozen?_alloc_past _ _ _ (by simpa using l4)).trans (by simpa using hf)
  · rw [e1]; exact (ho.setOther (a := ⟨g, 0, none⟩) (fun e => l3 e.symm) _).alloc _
  · exact ⟨l1, l2, l3, by simp; omega⟩
  · exact ((Below.refl _ _).setCell l1 _).alloc (by simp; omega) _
theorem two_cell_drew (w : World) (x z : Int) (t : TypeId) : ∀ (j : Nat) (y : Int), [x, z][j]? = some y → (w.alloc (.cells #[.int .i64 x, .int .i64 z] t)).drew.cell? ((⟨w.heap.size, 0, none⟩ : Addr).add j) = some (.int .i64 y) := by
  intro j y h
  have hb : (w.alloc (.cells #[.int .i64 x, .int .i64 z] t)).drew.heap[w.heap.size]? = some (.cells #[.int .i64 x, .int .i64 z] t) := Deep.blk_alloc_new _ _
  have e : ((⟨w.heap.size, 0, none⟩ : Addr).add j) = ⟨w.heap.size, j, none⟩ := by
    unfold Addr.add
    split
    · next h => rw [h]
    · next h => simp
  rw [e, Joins.cell_of_block hb]
  match j, h with
  | 0, h => simp at h; subst h; rfl
  | 1, h => simp at h; subst h; rfl
theorem froz_alloc {w : World} {b o : Nat} (x : Obj) (hl : b < w.heap.size) (h : w.frozen? ⟨b, o, none⟩ = false) : (w.alloc x).frozen? ⟨b, o, none⟩ = false := by
  have e := Deep.blk_alloc_lt w x b hl
  exact (World.frozen?_of_block (a := ⟨b, o, none⟩) e).trans h
theorem froz_alloc_drew {w : World} {b o : Nat} (x : Obj) (hl : b < w.heap.size) (h : w.frozen? ⟨b, o, none⟩ = false) : (w.alloc x).drew.frozen? ⟨b, o, none⟩ = false := froz_alloc x hl h
theorem cell_alloc_drew {w : World} {b o : Nat} {v : Value} (x : Obj) (h : w.cell? ⟨b, o, none⟩ = some v) : (w.alloc x).drew.cell? ⟨b, o, none⟩ = some v := cell_alloc_keep x h
theorem info_rem : (Try.prog.info? 130).map (fun i => (i.zero, i.size, i.bytes)) = some (some (.agg #[.int .i64 0, .int .i64 0]), 2, 16) := by kernel_rfl
theorem as_rem (v : Value) (w : World) : (Instr.typeAssert (.iface 130 v) 20 130 false).run Try.prog w = .ok v w := by kernel_rfl
set_option maxHeartbeats 1000000 in
set_option maxRecDepth 100000 in
theorem iPushM (w : World) (N g B cap : Nat) (r : Nat → Int) (l : List Nat) (x : Nat) (h : Hp w N g B cap r l) (hl : l.length ≤ 1000) :
    Calls Try.prog 168 #[.pointer (some ⟨g, 0, none⟩), .iface 130 (.agg #[.int .i64 (r x), .int .i64 (x : Int)])] w fun e w' => e = .returned (.tuple #[]) ∧ (∃ B' cap', Hp w' N g B' cap' r (l ++ [x])) ∧ Below N w w' := by
  have hc := h.cell
  have hf := h.froz
  obtain ⟨l1, l2, l3, l4⟩ := h.lo
  have hlt := h.own.lt
  obtain ⟨n, hn⟩ : ∃ n, l.length = n := ⟨_, rfl⟩
  rw [hn] at hc hl
  obtain ⟨y, hy⟩ : ∃ y, r x = y := ⟨_, rfl⟩
  have HO := Lib.hid (And.intro h (And.intro hn hy))
  have HX : Hid (Own w B 130 2 n cap (prs r l) ∧ N ≤ g) := Lib.hid ⟨by have := h.own; rwa [hn] at this, l1⟩
  have hgB : some g ≠ some B := by simpa using l3
  have hA := as_rem
  rw [hy]
  clear h hn hy
  go_enter Try.func168, Try.ntmps168
  go_wp2_with fail
  go_region_law ((refine step_app _ (by rfl) _ _ _ (by rfl) 130 _ 2 16 Try.underlying125 info_rem rfl (by decide) (by decide) B n cap _ (by rfl) (own_drew (HX.out.1.alloc _)) ⟨w.heap.size, 0, none⟩ 1 1 [y, (x : Int)] (by rfl) rfl (two_cell_drew w _ _ _) (by decide) (by omega) ?_; intro g1 d1 w1 hown hg1 hloc hlt1; have hc1 : w1.cell? ⟨g, 0, none⟩ = some (.slice (some ⟨B, 0, none⟩) n cap) := (by rw [hg1.cell_far _ (by simp; omega) hgB]; exact cell_alloc_drew _ hc); have hf1 : w1.frozen? ⟨g, 0, none⟩ = false := (by rw [hg1.frozen_far _ (by simp; omega) hgB]; exact froz_alloc_drew _ l4 hf)))
  all_goals
    go_wp2_with fail
    obtain ⟨h, hn, hy⟩ := HO.out
    have e1 : (l ++ [x]).length = n + 1 := by simp [hn]
    have e2 : prs r (l ++ [x]) = prs r l ++ [y, (x : Int)] := by rw [prs_append, ← hy]; rfl
    have hz1 : w.heap.size + 1 ≤ w1.heap.size := by have := hg1.size; simpa using this
    have hg9 : N ≤ g1 ∧ g ≠ g1 := by
      rcases hloc with e | e
      · rw [e]; exact ⟨l2, l3⟩
      · simp at e; omega
    refine bodyPost_end (results_none rfl _ _ _) rfl ⟨rfl, ⟨g1, d1, ⟨?_, ?_, ?_, ?_⟩⟩, ?_⟩
    · rw [e1]; exact World.cell?_setCell_same _ _ _ hc1
    · simpa using hf1
    · rw [e1, e2]; exact hown.setOther (a := ⟨g, 0, none⟩) (fun e => hg9.2 e.symm) _
    · exact ⟨l1, hg9.1, hg9.2, by simp; omega⟩
    · exact (below_gr (below_dr ((Below.refl N w).alloc (by omega) _)) hg1 l2 (by simp; omega)).setCell l1 _
end Go.Proofs.Ytgncjpakclbegaa
namespace Go.Proofs.Ytgncjpakclbegaa
open Go.RowKit
set_option linter.unusedVariables false

theorem meth_less (n g : Nat) (w : World) (v : Value) (h : w.cell? ⟨g, 0, none⟩ = some v) : Sem.run Try.prog (method (n + 1) 123 (.pointer (some ⟨g, 0, none⟩)) "Less") w = .ok (166, v) w := by
  have e : Sem.run Try.prog (method (n + 1) 123 (.pointer (some ⟨g, 0, none⟩)) "Less") w = (match w.cell? ⟨g, 0, none⟩ with
    | some v => .ok (166, v) w
    | none => match World.farLoad Try.prog w ⟨g, 0, none⟩ (Mode.plain == Mode.atomic) with
      | .ok (v, _) => .ok (166, v) w
      | .error h => .halt h w) := by kernel_rfl
  rw [e, h]
theorem meth_swap (n g : Nat) (w : World) (v : Value) (h : w.cell? ⟨g, 0, none⟩ = some v) : Sem.run Try.prog (method (n + 1) 123 (.pointer (some ⟨g, 0, none⟩)) "Swap") w = .ok (169, v) w := by
  have e : Sem.run Try.prog (method (n + 1) 123 (.pointer (some ⟨g, 0, none⟩)) "Swap") w = (match w.cell? ⟨g, 0, none⟩ with
    | some v => .ok (169, v) w
    | none => match World.farLoad Try.prog w ⟨g, 0, none⟩ (Mode.plain == Mode.atomic) with
      | .ok (v, _) => .ok (169, v) w
      | .error h => .halt h w) := by kernel_rfl
  rw [e, h]
theorem meth_len (n g : Nat) (w : World) (v : Value) (h : w.cell? ⟨g, 0, none⟩ = some v) : Sem.run Try.prog (method (n + 1) 123 (.pointer (some ⟨g, 0, none⟩)) "Len") w = .ok (165, v) w := by
  have e : Sem.run Try.prog (method (n + 1) 123 (.pointer (some ⟨g, 0, none⟩)) "Len") w = (match w.cell? ⟨g, 0, none⟩ with
    | some v => .ok (165, v) w
    | none => match World.farLoad Try.prog w ⟨g, 0, none⟩ (Mode.plain == Mode.atomic) with
      | .ok (v, _) => .ok (165, v) w
      | .error h => .halt h w) := by kernel_rfl
  rw [e, h]
theorem meth_push (n g : Nat) (w : World) : Sem.run Try.prog (method (n + 1) 123 (.pointer (some ⟨g, 0, none⟩)) "Push") w = .ok (168, .pointer (some ⟨g, 0, none⟩)) w := by kernel_rfl
theorem meth_pop (n g : Nat) (w : World) : Sem.run Try.prog (method (n + 1) 123 (.pointer (some ⟨g, 0, none⟩)) "Pop") w = .ok (167, .pointer (some ⟨g, 0, none⟩)) w := by kernel_rfl
theorem Hp.moved {w w' : World} {N g B cap : Nat} {r : Nat → Int} {l l' : List Nat} (h : Hp w N g B cap r l) (hl : l'.length = l.length) (ho : Own w' B 130 2 l.length cap (prs r l')) (hg : w.grownBy w' (some B)) : Hp w' N g B cap r l' := by
  have hne : some g ≠ some B := by simpa using h.lo.2.2.1
  exact ⟨by rw [hl]; exact (hg.cell_far ⟨g, 0, none⟩ h.lo.2.2.2 hne).trans h.cell, (hg.frozen_far ⟨g, 0, none⟩ h.lo.2.2.2 hne).trans h.froz, by rw [hl]; exact ho, h.lo.1, h.lo.2.1, h.lo.2.2.1, Nat.lt_of_lt_of_le h.lo.2.2.2 hg.size⟩
theorem calls_to {P : Program} {f : Nat} {A A' : Array Value} {w : World} {Q : Ending → World → Prop} (h : Calls P f A w Q) (e : A = A') : Calls P f A' w Q := e ▸ h
theorem Hp.below {w w' : World} {N g B cap : Nat} {r : Nat → Int} {l : List Nat} (h : Hp w N g B cap r l) (hb : Below w.heap.size w w') : Hp w' N g B cap r l :=
  ⟨(hb.cell (p := ⟨g, 0, none⟩) h.lo.2.2.2).trans h.cell, (hb.frozen (p := ⟨g, 0, none⟩) h.lo.2.2.2).trans h.froz, h.own.below hb, h.lo.1, h.lo.2.1, h.lo.2.2.1, Nat.lt_of_lt_of_le h.lo.2.2.2 hb.size⟩
set_option maxHeartbeats 1000000 in
set_option maxRecDepth 100000 in
theorem iUp (w : World) (N g B cap n j : Nat) (r : Nat → Int) (l : List Nat) (h : Hp w N g B cap r l) (hn : l.length = n) (hn9 : n ≤ 1000) (hj : j < n) (hu : UpI r l j) :
    Calls Try.prog 144 #[.iface 123 (.pointer (some ⟨g, 0, none⟩)), .int .i64 j] w fun e w' => e = .returned (.tuple #[]) ∧ (∃ l', l'.Perm l ∧ Heap r n l' ∧ Hp w' N g B cap r l') ∧ Below N w w' := by
  have H := Lib.hid (And.intro h (And.intro hn hu))
  clear h hn hu
  go_enter Try.func144, Try.ntmps144
  go_wp2_with fail
  go_loopw [1] (fun v wr => ∃ (q : Nat) (l' : List Nat), v = .int .i64 q ∧ q < n ∧ l'.Perm l ∧ UpI r l' q ∧ Hp wr N g B cap r l' ∧ Below N w wr) (fun v _ => (intOf v).toNat)
  case atStart => exact ⟨j, l, rfl, hj, .refl _, H.out.2.2, H.out.1, Below.refl _ _⟩
  case round =>
    obtain ⟨q, l', rfl, hq, hp, hu, h, hbr⟩ := hrel
    have hc := h.cell
    rcases Nat.eq_zero_or_pos q with h0 | h0
    · subst h0
      have HX := Lib.hid (And.intro hp (And.intro hu (And.intro h hbr)))
      clear hp hu h hbr
      go_wp2_with fail
      refine bodyPost_end (results_none rfl _ _ _) rfl ?_
      obtain ⟨hp, hu, h, hbr⟩ := HX.out
      have := hu.stop (.inl rfl)
      rw [hp.length_eq, H.out.2.1] at this
      exact ⟨rfl, ⟨l', hp, this, h⟩, hbr⟩
    · obtain ⟨p, rfl⟩ : ∃ p, q = p + 1 := ⟨q - 1, by omega⟩
      obtain ⟨i, hi⟩ : ∃ i, p / 2 = i := ⟨_, rfl⟩
      have hd : (p : Int).tdiv 2 = (i : Int) := by rw [← hi]; rfl
      have hd2 : (p : Int) / 2 = (i : Int) := by omega
      have hne : ((i : Int) == (p : Int) + 1) = false := by
        have : ¬ (i : Int) = (p : Int) + 1 := by omega
        simpa using this
      have hln : l'.length = n := by rw [hp.length_eq, H.out.2.1]
      have hL := fun n => meth_less n g wr _ hc
      rw [hln] at hL
      by_cases hb : bef r (gn l' (p + 1)) (gn l' i)
      · have c1 := fun W hW => Lib.hid (calls_to (A' := #[.slice (some ⟨B, 0, none⟩) n cap, .int .i64 ((p : Int) + 1), .int .i64 i]) (iLess W B cap n (p + 1) i r l' true hW hln hq (by omega) (by simp [hb])) rfl)
        have c2 := fun W hW => Lib.hid (calls_to (A' := #[.slice (some ⟨B, 0, none⟩) n cap, .int .i64 i, .int .i64 ((p : Int) + 1)]) (iSwap W B cap n i (p + 1) r l' hW hln (by omega) hq (by omega)) rfl)
        have HX := Lib.hid (And.intro hp (And.intro hu (And.intro h (And.intro hbr (And.intro hi (And.intro hln hb))))))
        clear hp hu h hbr hi hc hln hb
        go_wp2_with (first
          | (go_at_call 166; (with_reducible refine ((c1 _ ?_).out).mono ?_); (focus (have := HX.out.2.2.1.own; rw [HX.out.2.2.2.2.2.1] at this; exact this; done)); rintro e w2 ⟨rfl, hb_w2⟩; have HX2 := Lib.hid (HX.out.2.2.1.below hb_w2); have hL2 := (fun n => meth_swap n g w2 _ HX2.out.cell); rw [HX.out.2.2.2.2.2.1] at hL2)
          | (go_at_call 169; (with_reducible refine ((c2 _ ?_).out).mono ?_); (focus (have := HX2.out.own; rw [HX.out.2.2.2.2.2.1] at this; exact this; done)); rintro e w3 ⟨rfl, ho_w3, hg_w3⟩))
        obtain ⟨hp, hu, h, hbr, hi, hln, hb⟩ := HX.out
        have hlo := h.lo
        have hz1 := hbr.size
        have hz2 := hb_w2.size
        refine ⟨⟨i, sw l' i (p + 1), rfl, by omega, (sw_perm (by omega) (by omega)).trans hp, ?_, HX2.out.moved sw_len (by rw [hln]; exact ho_w3) hg_w3, ?_⟩, by simp [intOf]; omega⟩
        · have := hu.step (by omega) (by omega) (by rw [show p + 1 - 1 = p from rfl, hi]; exact hb)
          rw [show p + 1 - 1 = p from rfl, hi] at this
          exact this
        · exact below_gr (hbr.trans (hb_w2.mono (by omega))) hg_w3 hlo.2.1 (by omega)
      · have c1 := fun W hW => Lib.hid (calls_to (A' := #[.slice (some ⟨B, 0, none⟩) n cap, .int .i64 ((p : Int) + 1), .int .i64 i]) (iLess W B cap n (p + 1) i r l' false hW hln hq (by omega) (by simp [hb])) rfl)
        have HX := Lib.hid (And.intro hp (And.intro hu (And.intro h (And.intro hbr (And.intro hi (And.intro hln hb))))))
        clear hp hu h hbr hi hc hln hb
        go_wp2_with (go_at_call 166; (with_reducible refine ((c1 _ ?_).out).mono ?_); (focus (have := HX.out.2.2.1.own; rw [HX.out.2.2.2.2.2.1] at this; exact this; done)); rintro e w2 ⟨rfl, hb_w2⟩)
        refine bodyPost_end (results_none rfl _ _ _) rfl ?_
        obtain ⟨hp, hu, h, hbr, hi, hln, hb⟩ := HX.out
        have := hu.stop (.inr (by rw [show p + 1 - 1 = p from rfl, hi]; exact hb))
        rw [hln] at this
        exact ⟨rfl, ⟨l', hp, this, h.below hb_w2⟩, hbr.trans (hb_w2.mono (by have := hbr.size; have := h.lo; omega))⟩
end Go.Proofs.Ytgncjpakclbegaa
namespace Go.Proofs.Ytgncjpakclbegaa
open Go.RowKit
set_option linter.unusedVariables false

theorem bool_any (b : Bool) : Ending.returned (.bool b) = Ending.returned (.bool false) ∨ Ending.returned (.bool b) = Ending.returned (.bool true) := by cases b <;> simp
set_option maxHeartbeats 4000000 in
set_option maxRecDepth 100000 in
theorem iDown (w : World) (N g B cap m : Nat) (r : Nat → Int) (l : List Nat) (h : Hp w N g B cap r l) (hn : l.length = m + 1) (hm9 : m ≤ 1000) (hu : DownI r m l 0) :
    Calls Try.prog 145 #[.iface 123 (.pointer (some ⟨g, 0, none⟩)), .int .i64 0, .int .i64 m] w fun e w' => (∃ b, e = .returned (.bool b)) ∧ (∃ l', l'.Perm l ∧ gn l' m = gn l m ∧ Heap r m l' ∧ Hp w' N g B cap r l') ∧ Below N w w' := by
  have H := Lib.hid (And.intro h (And.intro hn hu))
  clear h hn hu
  go_enter Try.func145, Try.ntmps145
  go_wp2_with fail
  go_loopw [7] (fun v wr => ∃ (q : Nat) (l' : List Nat), v = .int .i64 q ∧ q ≤ m ∧ l'.Perm l ∧ gn l' m = gn l m ∧ DownI r m l' q ∧ Hp wr N g B cap r l' ∧ Below N w wr) (fun v _ => m - (intOf v).toNat)
  case atStart => exact ⟨0, l, rfl, Nat.zero_le _, .refl _, rfl, H.out.2.2, H.out.1, Below.refl _ _⟩
  case round =>
    obtain ⟨q, l', rfl, hq, hp, hgm, hu, h, hbr⟩ := hrel
    have hc := h.cell
    have hln : l'.length = m + 1 := by rw [hp.length_eq, H.out.2.1]
    obtain ⟨a, ha⟩ : ∃ a, 2 * q + 1 = a := ⟨_, rfl⟩
    have ea : 2 * (q : Int) + 1 = (a : Int) := by omega
    have hqa : q < a := by omega
    have ha0 : ¬ (a : Int) < 0 := by omega
    obtain ⟨z1, hz1⟩ : ∃ z1, z1 = wr.heap.size := ⟨_, rfl⟩
    have hlo := h.lo
    have hzw := hbr.size
    have HX := Lib.hid (And.intro hp (And.intro hgm (And.intro hu (And.intro h (And.intro hbr (And.intro ha (And.intro hln (And.intro hlo hzw))))))))
    have hL := fun n => meth_less n g wr _ hc
    rw [hln] at hL
    clear hp hgm hu h hbr ha hln hc hlo hzw hz1 z1
    by_cases hA : a < m
    · have hA' : (a : Int) < (m : Int) := by omega
      have HO : ∀ W, Hp W N g B cap r l' → Own W B 130 2 (m + 1) cap (prs r l') := fun W hW => by have := hW.own; rwa [HX.out.2.2.2.2.2.2.1] at this
      by_cases hC : a + 1 < m
      · have hC' : (a : Int) + 1 < (m : Int) := by omega
        by_cases hb1 : bef r (gn l' (a + 1)) (gn l' a)
        · have c1 := fun W hW => Lib.hid (calls_to (A' := #[.slice (some ⟨B, 0, none⟩) (m + 1) cap, .int .i64 ((a : Int) + 1), .int .i64 (a)]) (iLess W B cap (m + 1) (a + 1) a r l' true hW HX.out.2.2.2.2.2.2.1 (by omega) (by omega) (by simp [hb1])) rfl)
          have HB : Hid (Best r m l' q (a + 1)) := Lib.hid (by have := (Best.right (by omega) (by rw [show 2 * q + 2 = a + 1 by omega, show 2 * q + 1 = a by omega]; exact hb1) : Best r m l' q (2 * q + 2)); rw [show 2 * q + 2 = a + 1 by omega] at this; exact this)
          clear hb1
          by_cases hb2 : bef r (gn l' (a + 1)) (gn l' q)
          · have c2 := fun W hW => Lib.hid (calls_to (A' := #[.slice (some ⟨B, 0, none⟩) (m + 1) cap, .int .i64 ((a : Int) + 1), .int .i64 (q)]) (iLess W B cap (m + 1) (a + 1) q r l' true hW HX.out.2.2.2.2.2.2.1 (by omega) (by omega) (by simp [hb2])) rfl)
            have c3 := fun W hW => Lib.hid (calls_to (A' := #[.slice (some ⟨B, 0, none⟩) (m + 1) cap, .int .i64 (q), .int .i64 ((a : Int) + 1)]) (iSwap W B cap (m + 1) q (a + 1) r l' hW HX.out.2.2.2.2.2.2.1 (by omega) (by omega) (by omega)) rfl)
            have HB2 := Lib.hid hb2
            clear hb2
            go_wp2_with (first | (go_at_call 166; (with_reducible refine ((c1 _ ?_).out).mono ?_); (focus (exact HO _ HX.out.2.2.2.1; done)); rintro e w2 ⟨rfl, hb_w2⟩; have HX2 := Lib.hid (HX.out.2.2.2.1.below hb_w2); have hL2 := (fun n => meth_less n g w2 _ HX2.out.cell); rw [HX.out.2.2.2.2.2.2.1] at hL2) | (go_at_call 166; (with_reducible refine ((c2 _ ?_).out).mono ?_); (focus (exact HO _ HX2.out; done)); rintro e w3 ⟨rfl, hb_w3⟩; have HX3 := Lib.hid (HX2.out.below hb_w3); have hL3 := (fun n => meth_swap n g w3 _ HX3.out.cell); rw [HX.out.2.2.2.2.2.2.1] at hL3) | (go_at_call 169; (with_reducible refine ((c3 _ ?_).out).mono ?_); (focus (exact HO _ HX3.out; done)); rintro e w4 ⟨rfl, ho_w4, hg_w4⟩))
            obtain ⟨hp, hgm, hu, h, hbr, ha, hln, hlo, hzw⟩ := HX.out
            have hy0 := HX.out.2.2.2.2.2.2.2.2; have hy1 := HX.out.2.2.2.2.2.2.2.1; have hy2 := hb_w2.size; have hy3 := hb_w3.size
            refine ⟨⟨(a + 1), sw l' q (a + 1), rfl, by omega, (sw_perm (by omega) (by omega)).trans hp, ?_, hu.step (by omega) HB.out HB2.out, HX3.out.moved sw_len (by rw [hln]; exact ho_w4) hg_w4, ?_⟩, by simp [intOf]; omega⟩
            · rw [gn_sw (by omega) (by omega), if_neg (by omega), if_neg (by omega)]; exact hgm
            · exact below_gr ((hbr.trans (hb_w2.mono (by omega))).trans (hb_w3.mono (by omega))) hg_w4 hlo.2.1 (by omega)
          · have c2 := fun W hW => Lib.hid (calls_to (A' := #[.slice (some ⟨B, 0, none⟩) (m + 1) cap, .int .i64 ((a : Int) + 1), .int .i64 (q)]) (iLess W B cap (m + 1) (a + 1) q r l' false hW HX.out.2.2.2.2.2.2.1 (by omega) (by omega) (by simp [hb2])) rfl)
            have HB2 := Lib.hid hb2
            clear hb2
            go_wp2_with (first | (go_at_call 166; (with_reducible refine ((c1 _ ?_).out).mono ?_); (focus (exact HO _ HX.out.2.2.2.1; done)); rintro e w2 ⟨rfl, hb_w2⟩; have HX2 := Lib.hid (HX.out.2.2.2.1.below hb_w2); have hL2 := (fun n => meth_less n g w2 _ HX2.out.cell); rw [HX.out.2.2.2.2.2.2.1] at hL2) | (go_at_call 166; (with_reducible refine ((c2 _ ?_).out).mono ?_); (focus (exact HO _ HX2.out; done)); rintro e w3 ⟨rfl, hb_w3⟩))
            obtain ⟨hp, hgm, hu, h, hbr, ha, hln, hlo, hzw⟩ := HX.out
            have hy0 := HX.out.2.2.2.2.2.2.2.2; have hy1 := HX.out.2.2.2.2.2.2.2.1; have hy2 := hb_w2.size; have hy3 := hb_w3.size
            refine bodyPost_ret (by simp [results, Try.results145, go_sem]; try rfl) rfl ⟨⟨_, rfl⟩, ⟨l', hp, hgm, hu.low HB.out HB2.out, HX2.out.below hb_w3⟩, (hbr.trans (hb_w2.mono (by omega))).trans (hb_w3.mono (by omega))⟩
        · have c1 := fun W hW => Lib.hid (calls_to (A' := #[.slice (some ⟨B, 0, none⟩) (m + 1) cap, .int .i64 ((a : Int) + 1), .int .i64 (a)]) (iLess W B cap (m + 1) (a + 1) a r l' false hW HX.out.2.2.2.2.2.2.1 (by omega) (by omega) (by simp [hb1])) rfl)
          have HB : Hid (Best r m l' q a) := Lib.hid (by have := (Best.left (by omega) (fun _ => by rw [show 2 * q + 2 = a + 1 by omega, show 2 * q + 1 = a by omega]; exact hb1) : Best r m l' q (2 * q + 1)); rw [show 2 * q + 1 = a by omega] at this; exact this)
          clear hb1
          by_cases hb2 : bef r (gn l' a) (gn l' q)
          · have c2 := fun W hW => Lib.hid (calls_to (A' := #[.slice (some ⟨B, 0, none⟩) (m + 1) cap, .int .i64 (a), .int .i64 (q)]) (iLess W B cap (m + 1) a q r l' true hW HX.out.2.2.2.2.2.2.1 (by omega) (by omega) (by simp [hb2])) rfl)
            have c3 := fun W hW => Lib.hid (calls_to (A' := #[.slice (some ⟨B, 0, none⟩) (m + 1) cap, .int .i64 (q), .int .i64 (a)]) (iSwap W B cap (m + 1) q a r l' hW HX.out.2.2.2.2.2.2.1 (by omega) (by omega) (by omega)) rfl)
            have HB2 := Lib.hid hb2
            clear hb2
            go_wp2_with (first | (go_at_call 166; (with_reducible refine ((c1 _ ?_).out).mono ?_); (focus (exact HO _ HX.out.2.2.2.1; done)); rintro e w2 ⟨rfl, hb_w2⟩; have HX2 := Lib.hid (HX.out.2.2.2.1.below hb_w2); have hL2 := (fun n => meth_less n g w2 _ HX2.out.cell); rw [HX.out.2.2.2.2.2.2.1] at hL2) | (go_at_call 166; (with_reducible refine ((c2 _ ?_).out).mono ?_); (focus (exact HO _ HX2.out; done)); rintro e w3 ⟨rfl, hb_w3⟩; have HX3 := Lib.hid (HX2.out.below hb_w3); have hL3 := (fun n => meth_swap n g w3 _ HX3.out.cell); rw [HX.out.2.2.2.2.2.2.1] at hL3) | (go_at_call 169; (with_reducible refine ((c3 _ ?_).out).mono ?_); (focus (exact HO _ HX3.out; done)); rintro e w4 ⟨rfl, ho_w4, hg_w4⟩))
            obtain ⟨hp, hgm, hu, h, hbr, ha, hln, hlo, hzw⟩ := HX.out
            have hy0 := HX.out.2.2.2.2.2.2.2.2; have hy1 := HX.out.2.2.2.2.2.2.2.1; have hy2 := hb_w2.size; have hy3 := hb_w3.size
            refine ⟨⟨a, sw l' q a, rfl, by omega, (sw_perm (by omega) (by omega)).trans hp, ?_, hu.step (by omega) HB.out HB2.out, HX3.out.moved sw_len (by rw [hln]; exact ho_w4) hg_w4, ?_⟩, by simp [intOf]; omega⟩
            · rw [gn_sw (by omega) (by omega), if_neg (by omega), if_neg (by omega)]; exact hgm
            · exact below_gr ((hbr.trans (hb_w2.mono (by omega))).trans (hb_w3.mono (by omega))) hg_w4 hlo.2.1 (by omega)
          · have c2 := fun W hW => Lib.hid (calls_to (A' := #[.slice (some ⟨B, 0, none⟩) (m + 1) cap, .int .i64 (a), .int .i64 (q)]) (iLess W B cap (m + 1) a q r l' false hW HX.out.2.2.2.2.2.2.1 (by omega) (by omega) (by simp [hb2])) rfl)
            have HB2 := Lib.hid hb2
            clear hb2
            go_wp2_with (first | (go_at_call 166; (with_reducible refine ((c1 _ ?_).out).mono ?_); (focus (exact HO _ HX.out.2.2.2.1; done)); rintro e w2 ⟨rfl, hb_w2⟩; have HX2 := Lib.hid (HX.out.2.2.2.1.below hb_w2); have hL2 := (fun n => meth_less n g w2 _ HX2.out.cell); rw [HX.out.2.2.2.2.2.2.1] at hL2) | (go_at_call 166; (with_reducible refine ((c2 _ ?_).out).mono ?_); (focus (exact HO _ HX2.out; done)); rintro e w3 ⟨rfl, hb_w3⟩))
            obtain ⟨hp, hgm, hu, h, hbr, ha, hln, hlo, hzw⟩ := HX.out
            have hy0 := HX.out.2.2.2.2.2.2.2.2; have hy1 := HX.out.2.2.2.2.2.2.2.1; have hy2 := hb_w2.size; have hy3 := hb_w3.size
            refine bodyPost_ret (by simp [results, Try.results145, go_sem]; try rfl) rfl ⟨⟨_, rfl⟩, ⟨l', hp, hgm, hu.low HB.out HB2.out, HX2.out.below hb_w3⟩, (hbr.trans (hb_w2.mono (by omega))).trans (hb_w3.mono (by omega))⟩
      · have hC' : (m : Int) ≤ (a : Int) + 1 := by omega
        have hC2 : decide ((a : Int) + 1 < (m : Int)) = false := decide_eq_false (by omega)
        have HB : Hid (Best r m l' q a) := Lib.hid (by have := (Best.left (by omega) (fun h => absurd h (by omega)) : Best r m l' q (2 * q + 1)); rw [show 2 * q + 1 = a by omega] at this; exact this)
        by_cases hb2 : bef r (gn l' a) (gn l' q)
        · have c2 := fun W hW => Lib.hid (calls_to (A' := #[.slice (some ⟨B, 0, none⟩) (m + 1) cap, .int .i64 (a), .int .i64 (q)]) (iLess W B cap (m + 1) a q r l' true hW HX.out.2.2.2.2.2.2.1 (by omega) (by omega) (by simp [hb2])) rfl)
          have c3 := fun W hW => Lib.hid (calls_to (A' := #[.slice (some ⟨B, 0, none⟩) (m + 1) cap, .int .i64 (q), .int .i64 (a)]) (iSwap W B cap (m + 1) q a r l' hW HX.out.2.2.2.2.2.2.1 (by omega) (by omega) (by omega)) rfl)
          have HB2 := Lib.hid hb2
          clear hb2
          go_wp2_with (first | (go_at_call 166; (with_reducible refine ((c2 _ ?_).out).mono ?_); (focus (exact HO _ HX.out.2.2.2.1; done)); rintro e w3 ⟨rfl, hb_w3⟩; have HX3 := Lib.hid (HX.out.2.2.2.1.below hb_w3); have hL3 := (fun n => meth_swap n g w3 _ HX3.out.cell); rw [HX.out.2.2.2.2.2.2.1] at hL3) | (go_at_call 169; (with_reducible refine ((c3 _ ?_).out).mono ?_); (focus (exact HO _ HX3.out; done)); rintro e w4 ⟨rfl, ho_w4, hg_w4⟩))
          obtain ⟨hp, hgm, hu, h, hbr, ha, hln, hlo, hzw⟩ := HX.out
          have hy0 := HX.out.2.2.2.2.2.2.2.2; have hy1 := HX.out.2.2.2.2.2.2.2.1; have hy3 := hb_w3.size
          refine ⟨⟨a, sw l' q a, rfl, by omega, (sw_perm (by omega) (by omega)).trans hp, ?_, hu.step (by omega) HB.out HB2.out, HX3.out.moved sw_len (by rw [hln]; exact ho_w4) hg_w4, ?_⟩, by simp [intOf]; omega⟩
          · rw [gn_sw (by omega) (by omega), if_neg (by omega), if_neg (by omega)]; exact hgm
          · exact below_gr (hbr.trans (hb_w3.mono (by omega))) hg_w4 hlo.2.1 (by omega)
        · have c2 := fun W hW => Lib.hid (calls_to (A' := #[.slice (some ⟨B, 0, none⟩) (m + 1) cap, .int .i64 (a), .int .i64 (q)]) (iLess W B cap (m + 1) a q r l' false hW HX.out.2.2.2.2.2.2.1 (by omega) (by omega) (by simp [hb2])) rfl)
          have HB2 := Lib.hid hb2
          clear hb2
          go_wp2_with (first | (go_at_call 166; (with_reducible refine ((c2 _ ?_).out).mono ?_); (focus (exact HO _ HX.out.2.2.2.1; done)); rintro e w3 ⟨rfl, hb_w3⟩))
          obtain ⟨hp, hgm, hu, h, hbr, ha, hln, hlo, hzw⟩ := HX.out
          have hy0 := HX.out.2.2.2.2.2.2.2.2; have hy1 := HX.out.2.2.2.2.2.2.2.1; have hy3 := hb_w3.size
          refine bodyPost_ret (by simp [results, Try.results145, go_sem]; try rfl) rfl ⟨⟨_, rfl⟩, ⟨l', hp, hgm, hu.low HB.out HB2.out, HX.out.2.2.2.1.below hb_w3⟩, hbr.trans (hb_w3.mono (by omega))⟩
    · have hA' : (m : Int) ≤ (a : Int) := by omega
      go_wp2_with fail
      obtain ⟨hp, hgm, hu, h, hbr, ha, hln, hlo, hzw⟩ := HX.out
      go_ret
      exact ⟨by first | exact ⟨_, rfl⟩ | exact bool_any _, ⟨l', hp, hgm, hu.none (by omega), h⟩, hbr⟩
end Go.Proofs.Ytgncjpakclbegaa
namespace Go.Proofs.Ytgncjpakclbegaa
open Go.RowKit
set_option linter.unusedVariables false

set_option maxHeartbeats 1000000 in
set_option maxRecDepth 100000 in
theorem iHPush (w : World) (N g B cap : Nat) (r : Nat → Int) (l : List Nat) (x : Nat) (h : Hp w N g B cap r l) (hl : l.length ≤ 900) (hh : Heap r l.length l) :
    Calls Try.prog 137 #[.iface 123 (.pointer (some ⟨g, 0, none⟩)), .iface 130 (.agg #[.int .i64 (r x), .int .i64 (x : Int)])] w fun e w' => e = .returned (.tuple #[]) ∧ (∃ B' cap' l', l'.Perm (l ++ [x]) ∧ Heap r l'.length l' ∧ Hp w' N g B' cap' r l') ∧ Below N w w' := by
  obtain ⟨n, hn⟩ : ∃ n, l.length = n := ⟨_, rfl⟩
  have c1 := fun W hW => Lib.hid (iPushM W N g B cap r l x hW (by omega))
  have c2 := fun W B' cap' hW => Lib.hid (calls_to (A' := #[.iface 123 (.pointer (some ⟨g, 0, none⟩)), .int .i64 (n : Int)]) (iUp W N g B' cap' (n + 1) n r (l ++ [x]) hW (by simp [hn]) (by omega) (by omega) (by rw [← hn]; exact UpI.start hh x)) rfl)
  have HX := Lib.hid (And.intro h (And.intro hn hh))
  have hn9 : n ≤ 900 := by omega
  have hm := fun n W => meth_push n g W
  have hlo := h.lo
  clear h hn hl hh
  go_enter Try.func137, Try.ntmps137
  go_wp2_with (first
    | (go_at_call 168; (with_reducible refine ((c1 _ ?_).out).mono ?_); (focus (exact HX.out.1; done)); rintro e w2 ⟨rfl, ⟨B2, cap2, h2⟩, hb_w2⟩; have HX2 := Lib.hid h2; have hL2 := (fun n => meth_len n g w2 _ h2.cell); rw [show (l ++ [x]).length = n + 1 by rw [List.length_append, HX.out.2.1]; rfl] at hL2; clear h2)
    | (go_at_call 165; (with_reducible refine (iLen _ _ _ _).mono ?_); rintro e w3 ⟨rfl, rfl⟩)
    | (go_at_call 144; (with_reducible refine ((c2 _ B2 cap2 ?_).out).mono ?_); (focus (exact HX2.out; done)); rintro e w4 ⟨rfl, ⟨l', hp, hh', h4⟩, hb_w4⟩))
  refine bodyPost_end (results_none rfl _ _ _) rfl ⟨rfl, ⟨B2, cap2, l', hp, ?_, h4⟩, hb_w2.trans hb_w4⟩
  rw [hp.length_eq, List.length_append, HX.out.2.1]; exact hh'
set_option maxHeartbeats 1000000 in
set_option maxRecDepth 100000 in
theorem iHPop (w : World) (N g B cap : Nat) (r : Nat → Int) (l : List Nat) (h : Hp w N g B cap r l) (hl : l.length ≤ 900) (h0 : 0 < l.length) (hh : Heap r l.length l) :
    Calls Try.prog 138 #[.iface 123 (.pointer (some ⟨g, 0, none⟩))] w fun e w' => (∃ v, e = .returned v) ∧ (∃ l', (l' ++ [gn l 0]).Perm l ∧ Heap r l'.length l' ∧ Hp w' N g B cap r l') ∧ Below N w w' := by
  obtain ⟨m, hn⟩ : ∃ m, l.length = m + 1 := ⟨l.length - 1, by omega⟩
  have c1 : ∀ W, Own W B 130 2 (m + 1) cap (prs r l) → Hid (Calls Try.prog 169 #[.slice (some ⟨B, 0, none⟩) (m + 1) cap, .int .i64 0, .int .i64 m] W fun e w' => e = .returned (.tuple #[]) ∧ Own w' B 130 2 (m + 1) cap (prs r (sw l 0 m)) ∧ W.grownBy w' (some B)) := by
    intro W hW
    rcases Nat.eq_zero_or_pos m with e | e
    · subst e; exact Lib.hid (iSwap_same W B cap 1 0 r l hW hn (by omega))
    · exact Lib.hid (iSwap W B cap (m + 1) 0 m r l hW hn (by omega) (by omega) (by omega))
  have hsl : (sw l 0 m).length = m + 1 := by rw [sw_len, hn]
  have c2 := fun W hW => Lib.hid (iDown W N g B cap m r (sw l 0 m) hW hsl (by omega) (DownI.start (by rw [← hn]; exact hh) hn))
  have c3 := fun W l' hW hl' => Lib.hid (iPopM W N g B cap m r l' hW hl' (by omega))
  have hc := h.cell
  have hL := fun n => meth_len n g w _ hc
  have hS := fun n => meth_swap n g w _ hc
  have hP := fun n W => meth_pop n g W
  rw [hn] at hL hS
  have hlo := h.lo
  have HO : Hid (Own w B 130 2 (m + 1) cap (prs r l)) := Lib.hid (by have := h.own; rwa [hn] at this)
  have HX := Lib.hid (And.intro h (And.intro hn (And.intro hh hsl)))
  have hm9 : m ≤ 900 := by omega
  clear h hn hl hh h0 hsl hc
  go_enter Try.func138, Try.ntmps138
  go_wp2_with (first
    | (go_at_call 165; (with_reducible refine (iLen _ _ _ _).mono ?_); rintro e w3 ⟨rfl, rfl⟩)
    | (go_at_call 169; (with_reducible refine ((c1 _ ?_).out).mono ?_); (focus (exact HO.out; done)); rintro e w2 ⟨rfl, ho_w2, hg_w2⟩; have H2 := Lib.hid (HX.out.1.moved (l' := sw l 0 m) sw_len (by rw [HX.out.2.1]; exact ho_w2) hg_w2); clear ho_w2)
    | (go_at_call 145; (with_reducible refine ((c2 _ ?_).out).mono ?_); (focus (exact H2.out; done)); rintro e w4 ⟨⟨b4, rfl⟩, ⟨l4, hp4, hg4, hh4, h4⟩, hb_w4⟩; have H4 := Lib.hid (And.intro h4 (And.intro hp4 (And.intro hg4 hh4))); clear h4 hp4 hg4 hh4)
    | (go_at_call 167; (with_reducible refine ((c3 w4 l4 ?_ ?_).out).mono ?_); (focus (exact H4.out.1; done)); (focus (rw [H4.out.2.1.length_eq]; exact HX.out.2.2.2; done)); rintro e w5 ⟨⟨v5, rfl⟩, h5, hb_w5⟩))
  go_ret
  obtain ⟨h, hn, hh, hsl⟩ := HX.out
  obtain ⟨h4, hp4, hg4, hh4⟩ := H4.out
  have hl4 : l4.length = m + 1 := by rw [hp4.length_eq, hsl]
  have e0 : gn (sw l 0 m) m = gn l 0 := by rw [gn_sw (by omega) (by omega), if_pos rfl]
  have e1 : l4.take m ++ [gn l 0] = l4 := by
    have h1 : l4[m]? = some (gn l 0) := by rw [at_gn (by omega), hg4, e0]
    have h2 : l4.take (m + 1) = l4.take m ++ [gn l 0] := by rw [List.take_add_one, h1]; rfl
    rw [← h2, List.take_of_length_le (by omega)]
  have e2 : (l4.take m).length = m := by rw [List.length_take]; omega
  refine ⟨⟨_, rfl⟩, ⟨l4.take m, ?_, ?_, h5⟩, ?_⟩
  · rw [e1]; exact hp4.trans (sw_perm (by omega) (by omega))
  · rw [e2]; intro c hc0 hc; rw [gn_take (by omega), gn_take hc]; exact hh4 c hc0 hc
  · exact ((below_gr (Below.refl N w) hg_w2 hlo.2.1 (by omega)).trans hb_w4).trans hb_w5
end Go.Proofs.Ytgncjpakclbegaa
namespace Go.Proofs.Ytgncjpakclbegaa
open Go.RowKit
set_option linter.unusedVariables false

/-- an empty heap in a variable -/
theorem Hp.empty (w : World) (N : Nat) (r : Nat → Int) (hN : N ≤ w.heap.size) :
    Hp ((w.alloc (.cells #[] 130)).alloc (.cells #[.slice (some ⟨w.heap.size, 0, none⟩) 0 0] 125)) N (w.heap.size + 1) w.heap.size 0 r [] := by
  have hb := Deep.blk_alloc_new (w.alloc (.cells #[] 130)) (.cells #[.slice (some ⟨w.heap.size, 0, none⟩) 0 0] 125)
  have hz : (w.alloc (.cells #[] 130)).heap.size = w.heap.size + 1 := by simp
  rw [hz] at hb
  refine ⟨?_, ?_, (Own.empty w _ _).alloc _, ⟨by omega, hN, by omega, by simp⟩⟩
  · rw [Joins.cell_of_block hb]; rfl
  · exact Joins.unfrozen_of_block hb 0
theorem Hp.put {w : World} {N g B cap b i : Nat} {r : Nat → Int} {l : List Nat} (h : Hp w N g B cap r l) (hb : b < N) (v : Value) : Hp (w.setCell ⟨b, i, none⟩ v) N g B cap r l := by
  have hlo := h.lo
  exact ⟨(World.cell?_setCell_far w ⟨b, i, none⟩ ⟨g, 0, none⟩ v (by show b ≠ g; omega)).trans h.cell, by simpa using h.froz, h.own.setOther (a := ⟨b, i, none⟩) (by show B ≠ b; omega) v, ⟨hlo.1, hlo.2.1, hlo.2.2.1, by simpa using hlo.2.2.2⟩⟩
theorem Hp.drewN {w : World} {N g B cap : Nat} {r : Nat → Int} {l : List Nat} (h : Hp w N g B cap r l) (n : Nat) : Hp (w.drewN n) N g B cap r l := ⟨h.cell, h.froz, h.own, h.lo⟩
theorem Own.under {w w' : World} {g N sz n cap : Nat} {T : TypeId} {xs : List Int} (h : Own w g T sz n cap xs) (hb : Below N w w') (hg : g < N) : Own w' g T sz n cap xs := h.block (hb.block _ hg)
theorem ind_false (i : Nat) : ind (fun _ => False) i = 0 := ind_neg (fun h => h)
/-- one more for one of them -/
theorem ind_more {T : Nat → Prop} {b i : Nat} (hb : ¬ T b) : ind (fun i => T i ∨ i = b) i = if i = b then 1 else ind T i := by
  by_cases e : i = b
  · rw [if_pos e, ind_pos (.inr e)]
  · rw [if_neg e]
    by_cases h : T i
    · rw [ind_pos (.inl h), ind_pos h]
    · rw [ind_neg h, ind_neg (fun hh => hh.elim h e)]
theorem map_more {k : Nat} {f : Nat → Int} {T : Nat → Prop} {b : Nat} (hb : ¬ T b) : ((List.range k).map (fun i => f i + ind T i)).set b (f b + ind T b + 1) = (List.range k).map (fun i => f i + ind (fun i => T i ∨ i = b) i) := by
  refine List.ext_getElem? (fun i => ?_)
  rw [List.getElem?_set, List.length_map, List.length_range, List.getElem?_map, List.getElem?_map]
  by_cases hi : i < k
  · rw [List.getElem?_range hi]
    by_cases e : b = i
    · subst e
      simp only [if_true, if_pos hi, Option.map_some, ind_more hb, ind_neg hb]
      congr 1; omega
    · rw [if_neg e]
      have e' : ¬ i = b := fun h => e h.symm
      simp only [Option.map_some, ind_more (i := i) hb, if_neg e']
  · have hn : (List.range k)[i]? = none := List.getElem?_eq_none (by simp; omega)
    rw [hn]
    by_cases e : b = i
    · subst e; rw [if_pos rfl, if_neg hi]; rfl
    · rw [if_neg e]; rfl
set_option maxHeartbeats 2000000 in
set_option maxRecDepth 100000 in
theorem iShareOf_yes' (k c : Nat) (p : Option Addr) (ls : List Int) (a : Int) (w : World) (h : Ints w p ls) (hk : ls.length = k) (ha : amtOk ls a = true) :
    Calls Try.prog 120 #[.slice p k c, .int .i64 a] w fun e w' => ∃ g cap, e = .returned (.tuple #[.slice (some ⟨g, 0, none⟩) k cap, .bool true]) ∧ w.heap.size ≤ g ∧ Own w' g 3 1 k cap (shr ls a) ∧ Below w.heap.size w w' := by
  obtain ⟨hl, a0, a1⟩ := amtOk_true.1 ha
  have hk1 : 1 ≤ k := by have := (lenOk_true.1 hl).1; omega
  have hk20 : k ≤ 20 := by have := (lenOk_true.1 hl).2.1; omega
  obtain ⟨S, hS⟩ : ∃ S, tot ls = S := ⟨_, rfl⟩
  have S0 : 0 < S := by have := pos_of hl; omega
  have S1 : S ≤ 200000 := by have := tot_most hl; omega
  obtain ⟨fls, hfls⟩ : ∃ fls, (List.range k).map (fl ls a) = fls := ⟨_, rfl⟩
  have hfk : fls.length = k := by rw [← hfls]; simp
  have c1 := fun w h => Lib.hid (iLengths k c p ls true w h hk (by omega) hl)
  have c2 := fun w => Lib.hid (nWithin a 10000000 true w (by omega) (by omega) (decide_eq_true (by omega)))
  have c3 := fun w h => Lib.hid (iTotal k c p ls w h hk (by omega) (fun z hz => by have := (lenOk_true.1 hl).2.2.1 z hz; omega))
  rw [hS] at c3
  have hm := fun w => made_ints w k (by omega)
  have H := Lib.hid (And.intro h (And.intro hk (And.intro ha (And.intro hl (And.intro hS (And.intro hfls hfk))))))
  clear h hk ha hl hS hfls hfk
  go_enter Try.func120, Try.ntmps120
  go_wp2_with (first
    | (go_at_call 124; (with_reducible refine ((c1 _ ?_).out).mono ?_); (focus (exact H.out.1; done)); rintro e w' ⟨rfl, rfl⟩)
    | (go_at_call 125; (with_reducible refine ((c2 _).out).mono ?_); rintro e w' ⟨rfl, rfl⟩)
    | (go_at_call 82; (with_reducible refine ((c3 _ ?_).out).mono ?_); (focus (exact H.out.1; done)); rintro e w' ⟨rfl, rfl⟩))
  refine gen_world (fun W => (Own W w.heap.size 3 1 k k (fillI 0 fls) ∧ Hp W (w.heap.size + 1) (w.heap.size + 1 + 1) (w.heap.size + 1) 0 (re ls a) []) ∧ Below w.heap.size w W ∧ w.heap.size + 1 < W.heap.size) ⟨⟨?_, ?_⟩, (by repeat (first | assumption | exact Below.refl _ _ | (refine below_chain ?_ (by assumption) (by first | omega | (simp <;> omega) | simp)) | (refine Below.alloc ?_ (by first | omega | (simp <;> omega) | simp) _) | (apply below_drewN) | (apply below_drew) | (refine Below.setCell ?_ (by first | omega | (simp <;> omega) | simp) _))), by simp⟩ (fun w0 h0 => ?_)
  · refine (Own.alloc (Own.alloc ?_ _) _)
    have := Own.made w 3 k 1 (by decide) (by unfold maxLen; omega)
    rw [fillI_zero, H.out.2.2.2.2.2.2]
    simpa using this
  · have := Hp.empty (w.alloc (.cells (madeCells #[.int .i64 0] k) 3)) (w.heap.size + 1) (re ls a) (by simp)
    simpa using this
  obtain ⟨⟨hO, hP⟩, hB0, hs0⟩ := h0
  have HE := Lib.hid (And.intro hO (And.intro hP hB0))
  clear hO hP hB0 c1 c2 c3 hm
  go_loopw [30] (fun i wr => ∃ (j B cap : Nat) (l : List Nat), j ≤ k ∧ i = .int .i64 j ∧ (l.Perm (List.range j) ∧ Heap (re ls a) l.length l) ∧ Own wr w.heap.size 3 1 k k (fillI j fls) ∧ Hp wr (w.heap.size + 1) (w.heap.size + 1 + 1) B cap (re ls a) l ∧ Below w.heap.size w wr) (fun i _ => k - (intOf i).toNat)
  case atStart => exact ⟨0, _, _, [], Nat.zero_le _, rfl, ⟨.refl _, Heap.zero⟩, HE.out.1, HE.out.2.1, HE.out.2.2⟩
  case round =>
    clear HE hs0
    obtain ⟨j, B, cap, l, hj, rfl, ⟨hp, hh⟩, ho, hP, hbr⟩ := hrel
    have hbs := hbr.size
    have hlo := ho.lt
    have hlj : l.length = j := by rw [hp.length_eq, List.length_range]
    by_cases hlt : j < k
    · obtain ⟨A, o, z, rfl, hz, hA, e0⟩ := (H.out.1.below hbr).at (i := j) (by have := H.out.2.1; omega)
      obtain ⟨z0, z1⟩ := prod_low H.out.2.2.1 (List.mem_of_getElem? hz)
      have hnz := nth_at hz
      obtain ⟨he, r0, r1⟩ := fl_re (a := a) H.out.2.2.2.1 j
      have hfl : a * z / S = fl ls a j := by unfold fl; rw [hnz, H.out.2.2.2.2.1]
      have hre : a * z % S = re ls a j := by unfold re; rw [hnz, H.out.2.2.2.2.1]
      obtain ⟨q, hq⟩ : ∃ q, fl ls a j = q := ⟨_, rfl⟩
      obtain ⟨x, hx⟩ : ∃ x, re ls a j = x := ⟨_, rfl⟩
      obtain ⟨q0, q1⟩ := fl_low H.out.2.2.1 (i := j) (by have := H.out.2.1; omega)
      rw [hq] at q0 q1 hfl
      rw [hx] at hre
      have c3 := fun w => Lib.hid (iDivide (a * z) S w S0 (by omega) (by omega) (by omega))
      rw [hfl, hre] at c3
      have c4 := fun W hW => Lib.hid (calls_to (A' := #[.iface 123 (.pointer (some ⟨w.heap.size + 1 + 1, 0, none⟩)), .iface 130 (.agg #[.int .i64 x, .int .i64 (j : Int)])]) (iHPush W (w.heap.size + 1) (w.heap.size + 1 + 1) B cap (re ls a) l j hW (by omega) hh) (by rw [hx]))
      have hcx := ho.cells (i := j) (z := ((fillI j fls)[j]?).getD 0) (by have := fillI_len j fls (by have := H.out.2.2.2.2.2.2; omega); rw [List.getElem?_eq_getElem (by have := H.out.2.2.2.2.2.2; omega)]; rfl)
      have hfx := ho.frozen j
      have hlt' : (j : Int) < (k : Int) := by omega
      have HQ : Hid (fls[j]? = some q) := Lib.hid (by rw [← H.out.2.2.2.2.2.1, List.getElem?_map, List.getElem?_range hlt]; simp [hq])
      have HX := Lib.hid (And.intro ho (And.intro hP (And.intro hbr (And.intro hp hlj))))
      clear hz hnz he hfl hre hx hq r0 r1 ho hP hbr hp hh hlj
      go_wp2_with (first
        | (go_at_call 136; (with_reducible refine ((c3 _).out).mono ?_); rintro e w' ⟨rfl, nd, rfl⟩)
        | (go_at_call 137; (with_reducible refine ((c4 _ ?_).out).mono ?_); (focus (exact (HX.out.2.1.drewN _).put (by omega) _; done)); rintro e w5 ⟨rfl, ⟨B', cap', l', hp', hh', h5⟩, hb_w5⟩))
      obtain ⟨ho, hP, hbr, hp, hlj⟩ := HX.out
      refine ⟨⟨j + 1, B', cap', l', by omega, by go_num, ⟨hp'.trans (by rw [List.range_succ]; exact hp.append_right _), hh'⟩, ?_, h5, ?_⟩, by simp [intOf]; omega⟩
      · rw [← fillI_set HQ.out]
        exact ((ho.drewN nd).set j q (by rw [fillI_len _ _ (by have := H.out.2.2.2.2.2.2; omega), H.out.2.2.2.2.2.2]; exact hlt)).under hb_w5 (by omega)
      · exact ((below_drewN hbr nd).setCell (Nat.le_refl _) _).trans (hb_w5.mono (by omega))
    · have e : j = k := by omega
      subst e
      obtain ⟨hM0, hM1⟩ := mis_low (a := a) H.out.2.2.2.1
      obtain ⟨M, hM⟩ : ∃ M : Nat, mis ls a = (M : Int) := ⟨(mis ls a).toNat, by omega⟩
      obtain ⟨F, hF⟩ : ∃ F, tot fls = F := ⟨_, rfl⟩
      have hFs : tot fls = sig ls.length (fl ls a) := by rw [← H.out.2.2.2.2.2.1, H.out.2.1]; rfl
      have hMF : a - F = (M : Int) := by rw [← hM, ← hF, hFs]; rfl
      have hFe : fillI j fls = fls := by have := fillI_all fls; rw [H.out.2.2.2.2.2.2] at this; exact this
      rw [hFe] at ho
      have hfb : ∀ z ∈ fls, -10000000 ≤ z ∧ z ≤ 10000000 := by
        intro z hz
        rw [← H.out.2.2.2.2.2.1, List.mem_map] at hz
        obtain ⟨i, hi, rfl⟩ := hz
        exact fl_low H.out.2.2.1 (by rw [H.out.2.1]; exact List.mem_range.1 hi)
      have hF0 : -10000000 - M ≤ F ∧ F ≤ 10000000 := by omega
      obtain ⟨F0, F1⟩ := hF0
      have hMk : M < j := by rw [hM] at hM1; have := H.out.2.1; omega
      have hM20 : M ≤ 20 := by omega
      have c5 := fun W h => Lib.hid (iTotal j j (some ⟨w.heap.size, 0, none⟩) fls W h H.out.2.2.2.2.2.2 (by omega) (fun z hz => by have := hfb z hz; omega))
      rw [hF] at c5
      have HX := Lib.hid (And.intro ho (And.intro hP (And.intro hbr (And.intro hp (And.intro hh (And.intro hlj (And.intro hM hMk)))))))
      clear ho hP hbr hp hh hlj hM hMk hFe hfb hFs hF hM0 hM1
      go_wp2_with (go_at_call 82; (with_reducible refine ((c5 _ ?_).out).mono ?_); (focus (exact HX.out.1.ints; done)); rintro e w' ⟨rfl, rfl⟩)
      clear c5
      go_loopw [59] (fun v wz => ∃ (q B cap : Nat) (l : List Nat) (T : Nat → Prop), q ≤ M ∧ v = .int .i64 q ∧ (Top j (re ls a) q T ∧ Left j (re ls a) T l ∧ Heap (re ls a) l.length l ∧ l.length ≤ 20) ∧ Own wz w.heap.size 3 1 j j ((List.range j).map (fun i => fl ls a i + ind T i)) ∧ Hp wz (w.heap.size + 1) (w.heap.size + 1 + 1) B cap (re ls a) l ∧ Below w.heap.size w wz) (fun v _ => M - (intOf v).toNat)
      case atStart =>
        obtain ⟨ho, hP, hbr, hp, hh, hlj, hM, hMk⟩ := HX.out
        refine ⟨0, B, cap, l, fun _ => False, Nat.zero_le _, rfl, ⟨Top.zero, Left.start hp, hh, by omega⟩, ?_, hP, hbr⟩
        have : (List.range j).map (fun i => fl ls a i + ind (fun _ => False) i) = fls := by
          rw [← H.out.2.2.2.2.2.1]
          exact List.map_congr_left (fun i _ => by rw [ind_false]; omega)
        rw [this]; exact ho
      case round =>
        have hMk : M < j := HX.out.2.2.2.2.2.2.2
        have hMi : mis ls a = (M : Int) := HX.out.2.2.2.2.2.2.1
        clear HX hbs hlo B cap l
        rename World => wz
        obtain ⟨q, B, cap, l, T, hq, rfl, ⟨hT, hL, hh, hl20⟩, ho, hP, hbr⟩ := hrel
        have hbs := hbr.size
        have hlo := ho.lt
        by_cases hqM : q < M
        · have hl0 := hL.more hT (by omega)
          obtain ⟨hb1, hb2, hT2⟩ := hL.best hh hl0 hT
          obtain ⟨b, hb⟩ : ∃ b, gn l 0 = b := ⟨_, rfl⟩
          have hc := hP.cell
          obtain ⟨a1', a2'⟩ := Hp.at hP.own (i := 0) hl0
          simp only [Nat.zero_mul, Nat.zero_add] at a1' a2'
          have hpl := hP.lo
          have hBl := hP.own.lt
          have c6 := fun W hW => Lib.hid (iHPop W (w.heap.size + 1) (w.heap.size + 1 + 1) B cap (re ls a) l hW (by omega) hl0 hh)
          rw [hb] at hb1 hb2 hT2 a2' c6
          obtain ⟨v0, v1⟩ := fl_low H.out.2.2.1 (i := b) (by have := H.out.2.1; omega)
          obtain ⟨u0, u1⟩ := ind_low T b
          have e1 : ((List.range j).map (fun i => fl ls a i + ind T i))[b]? = some (fl ls a b + ind T b) := by rw [List.getElem?_map, List.getElem?_range hb1]; rfl
          have hcx := ho.cells e1
          have hfx := ho.frozen b
          obtain ⟨v, hv⟩ : ∃ v, fl ls a b + ind T b = v := ⟨_, rfl⟩
          have hv0 : -10000000 ≤ v ∧ v ≤ 10000001 := by omega
          obtain ⟨y0, y1⟩ := hv0
          rw [hv] at hcx
          obtain ⟨n, hn⟩ : ∃ n, l.length = n := ⟨_, rfl⟩
          rw [hn] at hc hl0
          have hl0' : (0 : Int) < (n : Int) := by omega
          have hb1' : (b : Int) < (j : Int) := by omega
          have hqM' : (q : Int) < (M : Int) := by omega
          have HY := Lib.hid (And.intro ho (And.intro hP (And.intro hbr (And.intro hb1 (And.intro hb2 (And.intro hT2 (And.intro hL (And.intro hl20 (And.intro hv hn)))))))))
          clear ho hP hbr hb1 hb2 hT2 hL hT hh hl20 hv hn e1 v0 v1 u0 u1 hb a1'
          go_wp2_with (go_at_call 138; (with_reducible refine ((c6 _ ?_).out).mono ?_); (focus (exact HY.out.2.1.put (by omega) _; done)); rintro e w5 ⟨⟨v5, rfl⟩, ⟨l', hp', hh', h5⟩, hb_w5⟩)
          obtain ⟨ho, hP, hbr, hb1, hb2, hT2, hL, hl20, hv, hn⟩ := HY.out
          have hl' : l'.length + 1 = l.length := by have := hp'.length_eq; simpa using this
          refine ⟨⟨q + 1, B, cap, l', fun i => T i ∨ i = b, by omega, by go_num, ⟨hT2, hL.next hp', hh', by omega⟩, ?_, h5, ?_⟩, by simp [intOf]; omega⟩
          · have := ho.set b (v + 1) (by simp; exact hb1)
            rw [← hv, map_more hb2, hv] at this
            exact this.under hb_w5 (by omega)
          · exact (hbr.setCell (Nat.le_refl _) _).trans (hb_w5.mono (by omega))
        · have e : q = M := by omega
          subst e
          have hs : (List.range j).map (fun i => fl ls a i + ind T i) = shr ls a := by
            obtain ⟨-, hk, ha, hl, -⟩ := H.out
            rw [← hMi, ← hk] at hT
            unfold shr
            rw [hk]
            exact List.map_congr_left (fun i _ => sh_of hl hT i)
          rw [hs] at ho
          have HY := Lib.hid (And.intro ho hbr)
          clear ho hP hbr hL hh hT hs
          go_wp2_with fail
          refine bodyPost_ret (v := .tuple #[.slice (some ⟨w.heap.size, 0, none⟩) j j, .bool true]) (by simp [results, Try.results120, go_sem]) rfl ⟨_, _, rfl, Nat.le_refl _, HY.out.1, HY.out.2⟩
end Go.Proofs.Ytgncjpakclbegaa
namespace Go.Proofs.Ytgncjpakclbegaa
open Go.RowKit
set_option linter.unusedVariables false

set_option maxHeartbeats 1000000 in
theorem iShareOf_no' (k c : Nat) (p : Option Addr) (ls : List Int) (a : Int) (w : World) (h : Ints w p ls) (hk : ls.length = k) (hl : k ≤ 4000000000000000000) (ha : amtOk ls a = false) :
    Calls Try.prog 120 #[.slice p k c, .int .i64 a] w fun e w' => e = .returned (.tuple #[.slice none 0 0, .bool false]) ∧ w = w' := by
  obtain ⟨u, hu⟩ : ∃ u, lenOk ls = u := ⟨_, rfl⟩
  have c1 := fun w h => Lib.hid (iLengths k c p ls u w h hk hl hu)
  cases u
  · have H := Lib.hid h
    clear h hk ha hu
    go_enter Try.func120, Try.ntmps120
    go_wp2_with (go_at_call 124; (with_reducible refine ((c1 _ ?_).out).mono ?_); (focus (exact H.out; done)); rintro e w' ⟨rfl, rfl⟩)
    refine bodyPost_ret (v := .tuple #[.slice none 0 0, .bool false]) (by simp [results, Try.results120, go_sem]) rfl ⟨rfl, rfl⟩
  · have hd : decide (-10000000 ≤ a ∧ a ≤ 10000000) = false := by
      unfold amtOk at ha
      rw [hu, Bool.true_and] at ha
      exact ha
    have c2 := fun w => Lib.hid (nWithin a 10000000 false w (by omega) (by omega) hd)
    have H := Lib.hid h
    clear h hk ha hu hd
    go_enter Try.func120, Try.ntmps120
    go_wp2_with (first
      | (go_at_call 124; (with_reducible refine ((c1 _ ?_).out).mono ?_); (focus (exact H.out; done)); rintro e w' ⟨rfl, rfl⟩)
      | (go_at_call 125; (with_reducible refine ((c2 _).out).mono ?_); rintro e w' ⟨rfl, rfl⟩))
    refine bodyPost_ret (v := .tuple #[.slice none 0 0, .bool false]) (by simp [results, Try.results120, go_sem]) rfl ⟨rfl, rfl⟩
/-- the gaps -/
def gaps (ls : List Int) (a : Int) (xs : List Int) : List Int := (List.range xs.length).map (far1 ls a xs)
set_option maxHeartbeats 1000000 in
theorem iShGaps_no (k c n d : Nat) (p q : Option Addr) (ls xs : List Int) (a : Int) (w : World) (h : Ints w p ls) (hq : Ints w q xs) (hk : ls.length = k) (hn : xs.length = n) (hl : k ≤ 4000000000000000000) (hl2 : n ≤ 4000000000000000000) (ha : ¬ (amtOk ls a = true ∧ rngOk ls xs)) :
    Calls Try.prog 98 #[.slice p k c, .int .i64 a, .slice q n d] w fun e w' => e = .returned (.tuple #[.slice none 0 0, .bool false]) ∧ w = w' := by
  obtain ⟨u, hu⟩ : ∃ u, lenOk ls = u := ⟨_, rfl⟩
  have c1 := fun w h => Lib.hid (iLengths k c p ls u w h hk hl hu)
  cases u
  · have H := Lib.hid h
    clear h hq hk hn ha hu
    go_enter Try.func98, Try.ntmps98
    go_wp2_with (go_at_call 124; (with_reducible refine ((c1 _ ?_).out).mono ?_); (focus (exact H.out; done)); rintro e w' ⟨rfl, rfl⟩)
    refine bodyPost_ret (v := .tuple #[.slice none 0 0, .bool false]) (by simp [results, Try.results98, go_sem]) rfl ⟨rfl, rfl⟩
  · obtain ⟨v, hv⟩ : ∃ v, decide (-10000000 ≤ a ∧ a ≤ 10000000) = v := ⟨_, rfl⟩
    have c2 := fun w => Lib.hid (nWithin a 10000000 v w (by omega) (by omega) hv)
    cases v
    · have H := Lib.hid h
      clear h hq hk hn ha hu hv
      go_enter Try.func98, Try.ntmps98
      go_wp2_with (first
        | (go_at_call 124; (with_reducible refine ((c1 _ ?_).out).mono ?_); (focus (exact H.out; done)); rintro e w' ⟨rfl, rfl⟩)
        | (go_at_call 125; (with_reducible refine ((c2 _).out).mono ?_); rintro e w' ⟨rfl, rfl⟩))
      refine bodyPost_ret (v := .tuple #[.slice none 0 0, .bool false]) (by simp [results, Try.results98, go_sem]) rfl ⟨rfl, rfl⟩
    · have ham : amtOk ls a = true := by unfold amtOk; rw [hu, hv]; rfl
      by_cases hnk : n = k
      · have hr : decide (∀ z ∈ xs, -20000000 ≤ z ∧ z ≤ 20000000) = false := decide_eq_false (fun hc => ha ⟨ham, by rw [hn, hk, hnk], hc⟩)
        have c3 := fun w h => Lib.hid (iAllWithin n d q xs 20000000 false w h hn hl2 (by omega) (by omega) hr)
        have H := Lib.hid (And.intro h hq)
        subst hnk
        clear h hq hk hn ha hu hv ham hr
        go_enter Try.func98, Try.ntmps98
        go_wp2_with (first
          | (go_at_call 124; (with_reducible refine ((c1 _ ?_).out).mono ?_); (focus (exact H.out.1; done)); rintro e w' ⟨rfl, rfl⟩)
          | (go_at_call 125; (with_reducible refine ((c2 _).out).mono ?_); rintro e w' ⟨rfl, rfl⟩)
          | (go_at_call 119; (with_reducible refine ((c3 _ ?_).out).mono ?_); (focus (exact H.out.2; done)); rintro e w' ⟨rfl, rfl⟩))
        refine bodyPost_ret (v := .tuple #[.slice none 0 0, .bool false]) (by simp [results, Try.results98, go_sem]) rfl ⟨rfl, rfl⟩
      · have hnk' : ¬ (n : Int) = (k : Int) := by omega
        have H := Lib.hid (And.intro h hq)
        clear h hq hk hn ha hu hv ham
        go_enter Try.func98, Try.ntmps98
        go_wp2_with (first
          | (go_at_call 124; (with_reducible refine ((c1 _ ?_).out).mono ?_); (focus (exact H.out.1; done)); rintro e w' ⟨rfl, rfl⟩)
          | (go_at_call 125; (with_reducible refine ((c2 _).out).mono ?_); rintro e w' ⟨rfl, rfl⟩))
        refine bodyPost_ret (v := .tuple #[.slice none 0 0, .bool false]) (by simp [results, Try.results98, go_sem]) rfl ⟨rfl, rfl⟩
set_option maxHeartbeats 2000000 in
set_option maxRecDepth 100000 in
theorem iShGaps_yes (k c d : Nat) (p q : Option Addr) (ls xs : List Int) (a : Int) (w : World) (h : Ints w p ls) (hq : Ints w q xs) (hk : ls.length = k) (ha : amtOk ls a = true) (hr : rngOk ls xs) :
    Calls Try.prog 98 #[.slice p k c, .int .i64 a, .slice q k d] w fun e w' => e = .returned (.tuple #[.slice (some ⟨w.heap.size, 0, none⟩) k k, .bool true]) ∧ Own w' w.heap.size 3 1 k k (gaps ls a xs) ∧ Below w.heap.size w w' := by
  obtain ⟨hl, a0, a1⟩ := amtOk_true.1 ha
  have hn : xs.length = k := by rw [hr.1, hk]
  have hk20 : k ≤ 20 := by have := (lenOk_true.1 hl).2.1; omega
  obtain ⟨S, hS⟩ : ∃ S, tot ls = S := ⟨_, rfl⟩
  have S0 : 0 < S := by have := pos_of hl; omega
  have S1 : S ≤ 200000 := by have := tot_most hl; omega
  have c1 := fun w h => Lib.hid (iLengths k c p ls true w h hk (by omega) hl)
  have c2 := fun w => Lib.hid (nWithin a 10000000 true w (by omega) (by omega) (decide_eq_true ⟨a0, a1⟩))
  have c3 := fun w h => Lib.hid (iAllWithin k d q xs 20000000 true w h hn (by omega) (by omega) (by omega) (decide_eq_true hr.2))
  have c4 := fun w h => Lib.hid (iTotal k c p ls w h hk (by omega) (fun z hz => by have := (lenOk_true.1 hl).2.2.1 z hz; omega))
  rw [hS] at c4
  have hm := fun w => made_ints w k (by omega)
  have hgk : (gaps ls a xs).length = k := by unfold gaps; rw [List.length_map, List.length_range, hn]
  have H := Lib.hid (And.intro h (And.intro hq (And.intro hk (And.intro hn (And.intro ha (And.intro hr (And.intro hS hgk)))))))
  clear h hq hk hn ha hl hr hS hgk
  go_enter Try.func98, Try.ntmps98
  go_wp2_with (first
    | (go_at_call 124; (with_reducible refine ((c1 _ ?_).out).mono ?_); (focus (exact H.out.1; done)); rintro e w' ⟨rfl, rfl⟩)
    | (go_at_call 125; (with_reducible refine ((c2 _).out).mono ?_); rintro e w' ⟨rfl, rfl⟩)
    | (go_at_call 119; (with_reducible refine ((c3 _ ?_).out).mono ?_); (focus (exact H.out.2.1; done)); rintro e w' ⟨rfl, rfl⟩)
    | (go_at_call 82; (with_reducible refine ((c4 _ ?_).out).mono ?_); (focus (exact H.out.1; done)); rintro e w' ⟨rfl, rfl⟩))
  refine gen_world (fun W => Own W w.heap.size 3 1 k k (fillI 0 (gaps ls a xs)) ∧ Below w.heap.size w W) ⟨?_, (by repeat (first | assumption | exact Below.refl _ _ | (refine below_chain ?_ (by assumption) (by first | omega | (simp <;> omega) | simp)) | (refine Below.alloc ?_ (by first | omega | (simp <;> omega) | simp) _) | (apply below_drewN) | (apply below_drew) | (refine Below.setCell ?_ (by first | omega | (simp <;> omega) | simp) _)))⟩ (fun w0 h0 => ?_)
  · have := Own.made w 3 k 1 (by decide) (by unfold maxLen; omega)
    rw [fillI_zero, H.out.2.2.2.2.2.2.2]
    simpa using this
  have HE := Lib.hid h0
  clear h0 c1 c2 c3 c4 hm
  go_loopw [38] (fun i wr => ∃ j : Nat, j ≤ k ∧ i = .int .i64 j ∧ Own wr w.heap.size 3 1 k k (fillI j (gaps ls a xs)) ∧ Below w.heap.size w wr) (fun i _ => k - (intOf i).toNat)
  case atStart => exact ⟨0, Nat.zero_le _, rfl, HE.out.1, HE.out.2⟩
  case round =>
    clear HE
    obtain ⟨j, hj, rfl, ho, hbr⟩ := hrel
    have hbs := hbr.size
    have hlo := ho.lt
    by_cases hlt : j < k
    · obtain ⟨A, o, y, rfl, hy, hA, e0⟩ := (H.out.2.1.below hbr).at (i := j) (by have := H.out.2.2.2.1; omega)
      obtain ⟨A', o', z, rfl, hz, hA', e1⟩ := (H.out.1.below hbr).at (i := j) (by have := H.out.2.2.1; omega)
      have hya := H.out.2.2.2.2.2.1.2 y (List.mem_of_getElem? hy)
      obtain ⟨⟨p0, p1⟩, p2, p3⟩ := far_prod H.out.2.2.2.2.1 (List.mem_of_getElem? hz) hya.1 hya.2
      rw [H.out.2.2.2.2.2.2.1] at p0 p1
      obtain ⟨f, hf⟩ : ∃ f : Int, ((y * S - a * z).natAbs : Int) = f := ⟨_, rfl⟩
      have hfar : (gaps ls a xs)[j]? = some f := by
        unfold gaps
        rw [List.getElem?_map, List.getElem?_range (by rw [H.out.2.2.2.1]; exact hlt)]
        simp only [Option.map_some, far1, nth_at hy, nth_at hz, H.out.2.2.2.2.2.2.1, hf]
      obtain ⟨b, hb⟩ : ∃ b, y * S - a * z = b := ⟨_, rfl⟩
      have hmx := fun (w : World) (ts : Array TypeId) (t : TypeId) => run_max Try.prog ts t (y * S - a * z) (-(y * S - a * z)) f w (by omega)
      have hcx := ho.cells (i := j) (z := ((fillI j (gaps ls a xs))[j]?).getD 0) (by have := fillI_len j (gaps ls a xs) (by have := H.out.2.2.2.2.2.2.2; omega); rw [List.getElem?_eq_getElem (by have := H.out.2.2.2.2.2.2.2; omega)]; rfl)
      have hfx := ho.frozen j
      have hlt' : (j : Int) < (k : Int) := by omega
      have HX := Lib.hid (And.intro ho (And.intro hbr hfar))
      clear hy hz hya hf hfar ho hbr hb
      go_wp2_with fail
      go_roundw
      case rel =>
        obtain ⟨ho, hbr, hfar⟩ := HX.out
        exact ⟨j + 1, by omega, by go_num, by rw [← fillI_set hfar]; exact ho.set j f (by rw [fillI_len _ _ (by have := H.out.2.2.2.2.2.2.2; omega), H.out.2.2.2.2.2.2.2]; exact hlt), hbr.setCell (Nat.le_refl _) _⟩
      case measure => simp [intOf]; omega
    · have e : j = k := by omega
      subst e
      have hFe : fillI j (gaps ls a xs) = gaps ls a xs := by have := fillI_all (gaps ls a xs); rw [H.out.2.2.2.2.2.2.2] at this; exact this
      rw [hFe] at ho
      have HX := Lib.hid (And.intro ho hbr)
      clear ho hbr hFe
      go_wp2_with fail
      refine bodyPost_ret (v := .tuple #[.slice (some ⟨w.heap.size, 0, none⟩) j j, .bool true]) (by simp [results, Try.results98, go_sem]) rfl ⟨rfl, HX.out.1, HX.out.2⟩
end Go.Proofs.Ytgncjpakclbegaa
namespace Go.Proofs.Ytgncjpakclbegaa
open Go.RowKit
set_option linter.unusedVariables false

theorem far1_low {ls xs : List Int} {a : Int} (ha : amtOk ls a = true) (hr : rngOk ls xs) {i : Nat} (hi : i < ls.length) : 0 ≤ far1 ls a xs i ∧ far1 ls a xs i ≤ 5000000000000 := by
  have hy : nth xs i ∈ xs := nth_mem (by rw [hr.1]; exact hi)
  obtain ⟨y0, y1⟩ := hr.2 _ hy
  obtain ⟨⟨p0, p1⟩, p2, p3⟩ := far_prod ha (nth_mem hi) y0 y1
  unfold far1
  omega
theorem gaps_low {ls xs : List Int} {a : Int} (ha : amtOk ls a = true) (hr : rngOk ls xs) : ∀ z ∈ gaps ls a xs, 0 ≤ z ∧ z ≤ 5000000000000 := by
  intro z hz
  unfold gaps at hz
  rw [List.mem_map] at hz
  obtain ⟨i, hi, rfl⟩ := hz
  exact far1_low ha hr (by rw [← hr.1]; exact List.mem_range.1 hi)
theorem gaps_len {ls xs : List Int} {a : Int} : (gaps ls a xs).length = xs.length := by simp [gaps]
theorem gaps_at {ls xs : List Int} {a : Int} {i : Nat} (hi : i < xs.length) : (gaps ls a xs)[i]? = some (far1 ls a xs i) := by unfold gaps; rw [List.getElem?_map, List.getElem?_range hi]; rfl
theorem gaps_tot {ls xs : List Int} {a : Int} (h : xs.length = ls.length) : tot (gaps ls a xs) = farL ls a xs := by unfold gaps farL sig; rw [h]
/-- a total whose parts are small -/
theorem iTotal_low (k c : Nat) (p : Option Addr) (L : List Int) (w : World) (h : Ints w p L) (hk : L.length = k) (hl : k ≤ 1000) (hB : ∀ z ∈ L, -1000000000000000 ≤ z ∧ z ≤ 1000000000000000) :
    Calls Try.prog 82 #[.slice p k c] w fun e w' => e = .returned (.int .i64 (tot L)) ∧ w = w' := by
  have H := Lib.hid (And.intro h (And.intro hk hB))
  clear h hk hB
  go_enter Try.func82, Try.ntmps82
  go_wp2_with fail
  go_loopw [3, 8] (fun s i wr => ∃ j : Nat, j ≤ k ∧ i = .int .i64 j ∧ s = .int .i64 (tot (L.take j)) ∧ w = wr) (fun _ i _ => k - (intOf i).toNat)
  case atStart => exact ⟨0, Nat.zero_le _, rfl, rfl, rfl⟩
  case round =>
    obtain ⟨j, hj, rfl, rfl, rfl⟩ := hrel
    have hb : -1000000000000000000 ≤ tot (L.take j) ∧ tot (L.take j) ≤ 1000000000000000000 := by
      have h1 := tot_le (l := L.take j) (c := 1000000000000000) (fun z hz => (H.out.2.2 z (List.mem_of_mem_take hz)).2)
      have h2 := tot_ge (l := L.take j) (c := -1000000000000000) (fun z hz => (H.out.2.2 z (List.mem_of_mem_take hz)).1)
      have h3 : (L.take j).length ≤ 1000 := by rw [List.length_take]; omega
      omega
    obtain ⟨s, hs⟩ : ∃ s, tot (L.take j) = s := ⟨_, rfl⟩
    rw [hs] at hb ⊢
    obtain ⟨s0, s1⟩ := hb
    by_cases hlt : j < k
    · obtain ⟨B, o, z, rfl, hz, hB, e0⟩ := H.out.1.at (i := j) (by have := H.out.2.1; omega)
      obtain ⟨z0, z1⟩ := H.out.2.2 z (List.mem_of_getElem? hz)
      have HS : Hid (tot (L.take (j + 1)) = s + z) := Lib.hid (by rw [tot_take hz, hs])
      clear hz hs
      go_wp2_with fail
      go_roundw
      case rel => exact ⟨j + 1, by omega, by go_num, by rw [HS.out], by first | trivial | rfl⟩
      case measure => simp [intOf]; omega
    · have e : j = k := by omega
      subst e
      have HX : Hid (tot L = s) := Lib.hid (by rw [← hs, List.take_of_length_le (Nat.le_of_eq H.out.2.1)])
      clear hs
      go_wp2_with fail
      go_ret
      exact ⟨ret_int HX.out.symm, rfl⟩
set_option maxHeartbeats 1000000 in
theorem iShareOk' (k c n d : Nat) (p q : Option Addr) (ls xs : List Int) (a : Int) (b : Bool) (w : World) (h : Ints w p ls) (hq : Ints w q xs) (hk : ls.length = k) (hn : xs.length = n) (hl : k ≤ 4000000000000000000) (hl2 : n ≤ 4000000000000000000) (hb : okS ls a xs = b) :
    Calls Try.prog 47 #[.slice p k c, .int .i64 a, .slice q n d] w fun e w' => e = .returned (.bool b) ∧ Below w.heap.size w w' := by
  have hno : ∀ {P : Prop}, ¬ P → (okS ls a xs = true → P) → okS ls a xs = false := fun hP hi => by
    cases ho : okS ls a xs
    · rfl
    · exact absurd (hi ho) hP
  by_cases hy : amtOk ls a = true ∧ rngOk ls xs
  · obtain ⟨ha, hr⟩ := hy
    have hk20 : k ≤ 20 := by have := (lenOk_true.1 (amtOk_true.1 ha).1).2.1; omega
    obtain rfl : n = k := by rw [← hn, hr.1, hk]
    obtain ⟨S, hS⟩ : ∃ S, tot ls = S := ⟨_, rfl⟩
    obtain ⟨A, hA⟩ : ∃ A, tot xs = A := ⟨_, rfl⟩
    have c1 := fun w h hq => Lib.hid (iShGaps_yes n c d p q ls xs a w h hq hk ha hr)
    have c2 := fun w h => Lib.hid (iTotal n d q xs w h hn (by omega) (fun z hz => by have := hr.2 z hz; omega))
    have c3 := fun w h => Lib.hid (iTotal n c p ls w h hk (by omega) (fun z hz => by have := (lenOk_true.1 (amtOk_true.1 ha).1).2.2.1 z hz; omega))
    rw [hA] at c2
    rw [hS] at c3
    by_cases haA : A = a
    · subst haA
      have H := Lib.hid (And.intro h (And.intro hq (And.intro hk (And.intro hn (And.intro hb (And.intro ha (And.intro hr (And.intro hS hA))))))))
      clear h hq hk hn hb ha hr hS hA
      go_enter Try.func47, Try.ntmps47
      go_wp2_with (first
        | (go_at_call 98; (with_reducible refine ((c1 _ ?_ ?_).out).mono ?_); (focus (exact H.out.1; done)); (focus (exact H.out.2.1; done)); rintro e w2 ⟨rfl, ho_w2, hb_w2⟩; have HO := Lib.hid (And.intro ho_w2 hb_w2); clear ho_w2 hb_w2)
        | (go_at_call_of 82 q; (with_reducible refine ((c2 _ ?_).out).mono ?_); (focus (exact H.out.2.1.below HO.out.2; done)); rintro e w' ⟨rfl, rfl⟩)
        | (go_at_call 82; (with_reducible refine ((c3 _ ?_).out).mono ?_); (focus (exact H.out.1.below HO.out.2; done)); rintro e w' ⟨rfl, rfl⟩))
      clear c1 c2 c3
      go_loopw [31] (fun i wr => ∃ j : Nat, j ≤ n ∧ i = .int .i64 j ∧ (∀ i, i < j → far1 ls A xs i < S) ∧ w2 = wr) (fun i _ => n - (intOf i).toNat)
      case atStart => exact ⟨0, Nat.zero_le _, rfl, fun i hi => by omega, rfl⟩
      case round =>
        obtain ⟨j, hj, rfl, hf, rfl⟩ := hrel
        by_cases hlt : j < n
        · have e0 := HO.out.1.cells (gaps_at (ls := ls) (a := A) (i := j) (by rw [H.out.2.2.2.1]; exact hlt))
          have hlow := far1_low H.out.2.2.2.2.2.1 H.out.2.2.2.2.2.2.1 (i := j) (by rw [H.out.2.2.1]; exact hlt)
          obtain ⟨f, hff⟩ : ∃ f, far1 ls A xs j = f := ⟨_, rfl⟩
          rw [hff] at e0 hlow
          obtain ⟨f0, f1⟩ := hlow
          have hlt' : (j : Int) < (n : Int) := by omega
          have HF := Lib.hid (And.intro hf hff)
          clear hf hff
          by_cases hfS : f < S
          · go_wp2_with fail
            go_roundw
            case rel =>
              exact ⟨j + 1, by omega, by go_num, fun i hi => by
                by_cases e : i = j
                · subst e; rw [HF.out.2]; exact hfS
                · exact HF.out.1 i (by omega), by first | trivial | rfl⟩
            case measure => simp [intOf]; omega
          · have HB : Hid (false = b) := Lib.hid (by
              obtain ⟨h, hq, hk, hn, hb, ha, hr, hS, hA⟩ := H.out
              rw [← hb]
              exact (hno hfS (fun ho => by have := (okS_true.1 ho).2.2.1 j (by rw [hk]; exact hlt); rw [HF.out.2, hS] at this; exact this)).symm)
            go_wp2_with fail
            go_ret
            exact ⟨ret_bool HB.out, HO.out.2⟩
        · have e : j = n := by omega
          subst e
          have HB : Hid (true = b) := Lib.hid (by
            obtain ⟨h, hq, hk, hn, hb, ha, hr, hS, hA⟩ := H.out
            rw [← hb]
            exact (okS_true.2 ⟨ha, hr, fun i hi => by rw [hS]; exact hf i (by rw [← hk]; exact hi), hA⟩).symm)
          clear hf
          go_wp2_with fail
          go_ret
          exact ⟨ret_bool HB.out, HO.out.2⟩
    · have haA' : (A == a) = false := by simpa using haA
      have HB : Hid (false = b) := Lib.hid (by
        rw [← hb]
        exact (hno haA (fun ho => by rw [← hA]; exact (okS_true.1 ho).2.2.2)).symm)
      have H := Lib.hid (And.intro h hq)
      clear h hq hk hn hb ha hr hS hA hno
      go_enter Try.func47, Try.ntmps47
      go_wp2_with (first
        | (go_at_call 98; (with_reducible refine ((c1 _ ?_ ?_).out).mono ?_); (focus (exact H.out.1; done)); (focus (exact H.out.2; done)); rintro e w2 ⟨rfl, ho_w2, hb_w2⟩; have HO := Lib.hid (And.intro ho_w2 hb_w2); clear ho_w2 hb_w2)
        | (go_at_call 82; (with_reducible refine ((c2 _ ?_).out).mono ?_); (focus (exact H.out.2.below HO.out.2; done)); rintro e w' ⟨rfl, rfl⟩))
      go_ret
      exact ⟨ret_bool HB.out, HO.out.2⟩
  · have c1 := fun w h hq => Lib.hid (iShGaps_no k c n d p q ls xs a w h hq hk hn hl hl2 hy)
    rw [hno hy (fun ho => ⟨(okS_true.1 ho).1, (okS_true.1 ho).2.1⟩)] at hb
    have H := Lib.hid (And.intro h hq)
    clear h hq hk hn hy hno
    subst hb
    go_enter Try.func47, Try.ntmps47
    go_wp2_with (go_at_call 98; (with_reducible refine ((c1 _ ?_ ?_).out).mono ?_); (focus (exact H.out.1; done)); (focus (exact H.out.2; done)); rintro e w' ⟨rfl, rfl⟩)
    go_ret
    exact ⟨rfl, Below.refl _ _⟩
set_option maxHeartbeats 1000000 in
theorem iShareRises_no' (k c n d : Nat) (p q : Option Addr) (ls ss : List Int) (w : World) (h : Ints w p ls) (hq : Ints w q ss) (hk : ls.length = k) (hn : ss.length = n) (hl : k ≤ 4000000000000000000) (hl2 : n ≤ 4000000000000000000) (hr : ¬ risOk ls ss) :
    Calls Try.prog 95 #[.slice p k c, .slice q n d] w fun e w' => e = .returned (.tuple #[.slice none 0 0, .bool false]) ∧ Below w.heap.size w w' := by
  by_cases hnk : n = k
  · subst hnk
    obtain ⟨u, hu⟩ : ∃ u, decide (∀ z ∈ ss, -100000 ≤ z ∧ z ≤ 100000) = u := ⟨_, rfl⟩
    have c1 := fun w h => Lib.hid (iAllWithin n d q ss 100000 u w h hn hl2 (by omega) (by omega) hu)
    cases u
    · have H := Lib.hid (And.intro h hq)
      clear h hq hk hn hr hu
      go_enter Try.func95, Try.ntmps95
      go_wp2_with (go_at_call 119; (with_reducible refine ((c1 _ ?_).out).mono ?_); (focus (exact H.out.2; done)); rintro e w' ⟨rfl, rfl⟩)
      refine bodyPost_ret (v := .tuple #[.slice none 0 0, .bool false]) (by simp [results, Try.results95, go_sem]) rfl ⟨rfl, Below.refl _ _⟩
    · have hlf : ∀ a, amtOk ls a = false := fun a => by
        cases ho : amtOk ls a
        · rfl
        · exact absurd ⟨(amtOk_true.1 ho).1, by rw [hn, hk], of_decide_eq_true hu⟩ hr
      have c2 := fun w h => Lib.hid (iTotal_any n d q ss w h hn hl2)
      have c3 := fun (a : Int) w h => Lib.hid (iShareOf_no' n c p ls a w h hk hl (hlf a))
      have H := Lib.hid (And.intro h hq)
      clear h hq hk hn hr hu hlf
      go_enter Try.func95, Try.ntmps95
      go_wp2_with (first
        | (go_at_call 119; (with_reducible refine ((c1 _ ?_).out).mono ?_); (focus (exact H.out.2; done)); rintro e w' ⟨rfl, rfl⟩)
        | (go_at_call 82; (with_reducible refine ((c2 _ ?_).out).mono ?_); (focus (exact H.out.2; done)); rintro e w' ⟨⟨v, rfl⟩, rfl⟩)
        | (go_at_call 120; (with_reducible refine ((c3 _ _ ?_).out).mono ?_); (focus (exact H.out.1; done)); rintro e w' ⟨rfl, rfl⟩))
      clear c1 c2 c3
      go_loopw [29] (fun i wr => i = .int .i64 0 ∧ w = wr) (fun i _ => 0)
      case atStart => exact ⟨rfl, rfl⟩
      case round =>
        obtain ⟨rfl, rfl⟩ := hrel
        go_wp2_with fail
        refine bodyPost_ret (v := .tuple #[.slice none 0 0, .bool false]) (by simp [results, Try.results95, go_sem]) rfl ⟨rfl, Below.refl _ _⟩
  · have hnk' : ¬ (n : Int) = (k : Int) := by omega
    clear h hq hk hn hr
    go_enter Try.func95, Try.ntmps95
    go_wp2_with fail
    refine bodyPost_ret (v := .tuple #[.slice none 0 0, .bool false]) (by simp [results, Try.results95, go_sem]) rfl ⟨rfl, Below.refl _ _⟩
set_option maxHeartbeats 4000000 in
set_option maxRecDepth 100000 in
theorem iShareRises_yes' (k c d : Nat) (p q : Option Addr) (ls ss : List Int) (w : World) (h : Ints w p ls) (hq : Ints w q ss) (hk : ls.length = k) (hr : risOk ls ss) :
    Calls Try.prog 95 #[.slice p k c, .slice q k d] w fun e w' => ∃ g cap, e = .returned (.tuple #[.slice (some ⟨g, 0, none⟩) k cap, .bool true]) ∧ w.heap.size ≤ g ∧ Own w' g 3 1 k cap (rsh ls ss) ∧ Below w.heap.size w w' := by
  have hn : ss.length = k := by rw [hr.2.1, hk]
  have hk20 : k ≤ 20 := by have := (lenOk_true.1 hr.1).2.1; omega
  obtain ⟨⟨t0, t1⟩, ham⟩ := hr.amt
  obtain ⟨t, ht⟩ : ∃ t, tot ss = t := ⟨_, rfl⟩
  rw [ht] at t0 t1 ham
  have c1 := fun w h => Lib.hid (iAllWithin k d q ss 100000 true w h hn (by omega) (by omega) (by omega) (decide_eq_true hr.2.2))
  have c2 := fun w h => Lib.hid (iTotal k d q ss w h hn (by omega) (fun z hz => by have := hr.2.2 z hz; omega))
  rw [ht] at c2
  have c3 := fun w h => Lib.hid (iShareOf_yes' k c p ls (-t) w h hk ham)
  have H := Lib.hid (And.intro h (And.intro hq (And.intro hk (And.intro hn (And.intro hr (And.intro ham ht))))))
  clear h hq hk hn hr ham ht
  go_enter Try.func95, Try.ntmps95
  go_wp2_with (first
    | (go_at_call 119; (with_reducible refine ((c1 _ ?_).out).mono ?_); (focus (exact H.out.2.1; done)); rintro e w' ⟨rfl, rfl⟩)
    | (go_at_call 82; (with_reducible refine ((c2 _ ?_).out).mono ?_); (focus (exact H.out.2.1; done)); rintro e w' ⟨rfl, rfl⟩)
    | (go_at_call 120; (with_reducible refine ((c3 _ ?_).out).mono ?_); (focus (exact H.out.1; done)); rintro e ws ⟨gs, cs, rfl, hgs, os, hb_ws⟩; have HS := Lib.hid (And.intro os hb_ws); clear os hb_ws))
  clear c1 c2 c3
  obtain ⟨sl, hsl⟩ : ∃ sl : Nat → List Int, ∀ j, sl j = (List.range k).map (fun i => if i < j then nth ss i + sh ls (-t) i else sh ls (-t) i) := ⟨_, fun _ => rfl⟩
  have hsl0 : sl 0 = shr ls (-t) := by
    rw [hsl]; unfold shr; rw [H.out.2.2.1]
    exact List.map_congr_left (fun i _ => by rw [if_neg (by omega)])
  have hslk : sl k = rsh ls ss := by
    rw [hsl]; unfold rsh; rw [H.out.2.2.1, H.out.2.2.2.2.2.2]
    exact List.map_congr_left (fun i hi => by rw [if_pos (List.mem_range.1 hi)])
  have hsla : ∀ j, j < k → (sl j)[j]? = some (sh ls (-t) j) := fun j hj => by
    rw [hsl, List.getElem?_map, List.getElem?_range hj]; simp
  have hsls : ∀ j, j < k → (sl j).set j (nth ss j + sh ls (-t) j) = sl (j + 1) := fun j hj => by
    rw [hsl, hsl]
    refine List.ext_getElem? (fun i => ?_)
    rw [List.getElem?_set, List.length_map, List.length_range, List.getElem?_map, List.getElem?_map]
    by_cases hi : i < k
    · rw [List.getElem?_range hi]
      by_cases e : j = i
      · subst e; simp [hj]
      · rw [if_neg e]
        by_cases hij : i < j
        · simp [hij, show i < j + 1 by omega]
        · simp [hij, show ¬ i < j + 1 by omega]
    · have hn : (List.range k)[i]? = none := List.getElem?_eq_none (by simp; omega)
      rw [hn, if_neg (by omega)]
      rfl
  have hsll : ∀ j, (sl j).length = k := fun j => by rw [hsl]; simp
  have HL := Lib.hid (And.intro hsl0 (And.intro hslk (And.intro hsla (And.intro hsls hsll))))
  clear hsl hsl0 hslk hsla hsls hsll
  go_loopw [29] (fun i wr => ∃ j : Nat, j ≤ k ∧ i = .int .i64 j ∧ Own wr gs 3 1 k cs (sl j) ∧ Below w.heap.size w wr) (fun i _ => k - (intOf i).toNat)
  case atStart => exact ⟨0, Nat.zero_le _, rfl, by rw [HL.out.1]; exact HS.out.1, HS.out.2⟩
  case round =>
    clear HS
    obtain ⟨j, hj, rfl, ho, hbr⟩ := hrel
    have hbs := hbr.size
    have hlo := ho.lt
    by_cases hlt : j < k
    · obtain ⟨A, o, y, rfl, hy, hA, e0⟩ := (H.out.2.1.below hbr).at (i := j) (by have := H.out.2.2.2.1; omega)
      obtain ⟨A', o', y', eq', hy', hA0, -⟩ := H.out.2.1.at (i := j) (by have := H.out.2.2.2.1; omega)
      cases eq'
      have e1 := ho.cells (HL.out.2.2.1 j hlt)
      obtain ⟨y0, y1⟩ := H.out.2.2.2.2.1.2.2 y (List.mem_of_getElem? hy)
      have hsh := sh_low H.out.2.2.2.2.2.1 (i := j) (by have := H.out.2.2.1; omega)
      have hny := nth_at hy
      obtain ⟨x, hx⟩ : ∃ x, sh ls (-t) j = x := ⟨_, rfl⟩
      rw [hx] at e1 hsh
      obtain ⟨x0, x1⟩ := hsh
      have f1 := ho.frozen j
      have hlt' : (j : Int) < (k : Int) := by omega
      have hgA : ¬ gs = A := by omega
      have hAg : ¬ A = gs := by omega
      have HX := Lib.hid (And.intro ho (And.intro hbr (And.intro hny hx)))
      clear ho hbr hy hy' hny hx
      go_wp2_with fail
      (refine wp_region_grows_tail 10 (by kernel_rfl) (by kernel_rfl) ?_; simp only [List.take_succ_cons, List.take_zero, List.drop_succ_cons, List.drop_zero]; intro W_wg hWc_wg hWs_wg hWe_wg; (repeat (go_big_quiet_step (fail))); with_reducible refine wpQuiet_nil ?_; clear hWe_wg hWs_wg hWc_wg W_wg; intro wg hb_wg; obtain ⟨hc_wg, hf_wg⟩ := bcell hb_wg; (try simp only [World.size_drew, World.cell?_drew, World.frozen?_drew, World.heap_drewN, World.cell?_drewN, World.frozen?_drewN] at hc_wg hf_wg); have hs_wg := hb_wg.size; (try simp at hs_wg); (try have hz_wg0 : gs < wg.heap.size := (by have := hb_wg.size; (try simp at this); omega)))
      go_wp2_with fail
      obtain ⟨ho, hbr, hny, hx⟩ := HX.out
      refine ⟨⟨j + 1, by omega, by go_num, ?_, ?_⟩, by simp [intOf]; omega⟩
      · rw [← HL.out.2.2.2.1 j hlt, show nth ss j + sh ls (-t) j = x + y by rw [hny, hx]; omega]
        exact (ho.below hb_wg).set j (x + y) (by rw [HL.out.2.2.2.2]; exact hlt)
      · exact (hbr.trans (hb_wg.mono hbs)).setCell hgs _
    · have e : j = k := by omega
      subst e
      rw [HL.out.2.1] at ho
      have HX := Lib.hid (And.intro ho hbr)
      clear ho hbr
      go_wp2_with fail
      refine bodyPost_ret (v := .tuple #[.slice (some ⟨gs, 0, none⟩) j cs, .bool true]) (by simp [results, Try.results95, go_sem]) rfl ⟨_, _, rfl, hgs, HX.out.1, HX.out.2⟩
end Go.Proofs.Ytgncjpakclbegaa
