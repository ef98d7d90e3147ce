/-
  The reference model's MatTurn and MatTimes.
  The reference model's MatTimes.
  The reference model's MatApply.
  The reference model's MatSolve.
  How the program reads matrices and columns, and sums products.
  The functions that the program makes matrices with: what each gives for both indexes.
-/
import Derived.Test.YtenllemaccacgaaZc
import Derived.Test.YtenllemaccacgaaZb
namespace Go.Proofs.Ytenllemaccacgaa
open Go.RowKit
set_option linter.unusedVariables false

theorem gen_worldM {P : Program} {c : Code} {Q : Exit → Act → World → Prop} {a : Act} {W : World} (p : World → Prop) (h : p W) (k : ∀ W', p W' → c.wp P Q a W') : c.wp P Q a W := k W h
theorem rng_snoc {f : Nat → Int} {x : Nat} : (List.range x).map f ++ [f x] = (List.range (x + 1)).map f := by rw [List.range_succ, List.map_append]; rfl
theorem mkL_step {k j : Nat} {f : Mx} (h : j < k) : (mkL k f).take j ++ [(List.range k).map (fun i => f j i)] = (mkL k f).take (j + 1) := by rw [List.take_add_one, mkL_row h]; rfl
theorem one_cellA (w : World) (z : Int) (t : TypeId) : ∀ (j : Nat) (y : Int), [z][j]? = some y → (w.alloc (.cells #[.int .i64 z] t)).cell? ((⟨w.heap.size, 0, none⟩ : Addr).add j) = some (.int .i64 y) := by
  intro j y h
  have := cell_one_new w (.int .i64 z) t j (.int .i64 y) (by
    match j, h with
    | 0, h => simp at h; subst h; rfl)
  exact this
end Go.Proofs.Ytenllemaccacgaa
namespace Go.Proofs.Ytenllemaccacgaa
open Go.RowKit
set_option linter.unusedVariables false

/-- what two matrices that are valid give -/
def TimesAt (w : World) (k : Nat) (v : Bool) (f : Mx) (e : Ending) (w' : World) : Prop :=
  (v = true → ∃ g cap bs, e = .returned (.tuple #[.slice (some ⟨g, 0, none⟩) k cap, .bool true]) ∧ GridO w' 3 38 w.heap.size g cap bs (mkL k f)) ∧
  (v = false → ∃ g, e = .returned (.tuple #[.slice (some ⟨g, 0, none⟩) 0 0, .bool false])) ∧ Below w.heap.size w w'
theorem ent_at {L : List (List Int)} {i j : Nat} {r : List Int} {z : Int} (hr : L[i]? = some r) (hz : r[j]? = some z) : ent L i j = z := by unfold ent; rw [rowL_at hr, num_at hz]
end Go.Proofs.Ytenllemaccacgaa
namespace Go.Proofs.Ytenllemaccacgaa
open Go.RowKit
set_option linter.unusedVariables false

/-- a matrix, and a list that it can be applied to -/
def aplOk (L : List (List Int)) (xs : List Int) : Prop := matOk L = true ∧ xs.length = L.length ∧ ∀ x ∈ xs, -1000000 ≤ x ∧ x ≤ 1000000
noncomputable def apL (k : Nat) (L : List (List Int)) (xs : List Int) : List Int := (List.range k).map (fun i => smn k (fun j => ent L i j * num xs j))
theorem aterm_low {e : Int} {a : Mx} {k i : Nat} {xs : List Int} (hs : SmE k 1000 a) (hi : i < k) (he : 0 ≤ e) (hx : ∀ x ∈ xs, -e ≤ x ∧ x ≤ e) (hk : xs.length = k) : ∀ j, j < k → -(1000 * e) ≤ a i j * num xs j ∧ a i j * num xs j ≤ 1000 * e := fun j hj =>
  abs_mul (hs i j hi hj) (hx _ (num_mem (by omega)))
end Go.Proofs.Ytenllemaccacgaa
namespace Go.Proofs.Ytenllemaccacgaa
open Go.RowKit
set_option linter.unusedVariables false

/-- a column replaced -/
def putL (k : Nat) (L : List (List Int)) (c : Nat) (xs : List Int) : List (List Int) := mkL k (upc (ent L) c (num xs))
theorem row_put {k c i : Nat} {L : List (List Int)} {xs r : List Int} (hs : Sq k L) (hr : L[i]? = some r) (hc : c < k) : r.set c (num xs i) = (List.range k).map (fun j => upc (ent L) c (num xs) i j) := by
  have hrl := hs.2 r (List.mem_of_getElem? hr)
  refine list_num (by simp [hrl]) (fun j hj => ?_)
  rw [List.length_set, hrl] at hj
  rw [num_map hj]
  by_cases e : j = c
  · subst e
    rw [upd_at]
    exact num_at (by rw [List.getElem?_set, if_pos rfl, if_pos (by omega)])
  · rw [upd_ne e]
    unfold num
    rw [List.getElem?_set, if_neg (fun h => e h.symm)]
    show num r j = ent L i j
    unfold ent; rw [rowL_at hr]
/-- a matrix, and a list that its equations are solved for -/
def slvOk (L : List (List Int)) (xs : List Int) : Prop := matOk L = true ∧ xs.length = L.length ∧ det L.length (ent L) ≠ 0 ∧ ∀ x ∈ xs, -1000 ≤ x ∧ x ≤ 1000
noncomputable def slL (k : Nat) (L : List (List Int)) (xs : List Int) : List Int := (List.range k).map (fun j => det k (upc (ent L) j (num xs)))
theorem put_small {k c : Nat} {L : List (List Int)} {xs : List Int} (hs : SmE k 1000 (ent L)) (hn : xs.length = k) (hx : ∀ x ∈ xs, -1000 ≤ x ∧ x ≤ 1000) : SmE k 1000 (ent (putL k L c xs)) := fun i j hi hj => by
  show -1000 ≤ ent (mkL k _) i j ∧ ent (mkL k _) i j ≤ 1000
  rw [ent_mkL hi hj]
  by_cases e : j = c
  · subst e; rw [upd_at]; exact hx _ (num_mem (by omega))
  · rw [upd_ne e]; exact hs i j hi hj
end Go.Proofs.Ytenllemaccacgaa
namespace Go.Proofs.Ytenllemaccacgaa
open Go.RowKit
set_option linter.unusedVariables false

theorem ret_int' {x y : Int} (h : x = y) : Value.int IntKind.i64 x = Value.int IntKind.i64 y := by rw [h]
theorem iAllWithin (k c : Nat) (p : Option Addr) (L : List Int) (m : Int) (b : Bool) (w : World) (h : Ints w p L) (hk : L.length = k) (hl : k ≤ 4000000000000000000) (hm : 0 ≤ m) (hm' : m ≤ 4000000000000000000) (hb : decide (∀ z ∈ L, -m ≤ z ∧ z ≤ m) = b) :
    Calls Try.prog 133 #[.slice p k c, .int .i64 m] w fun e w' => e = .returned (.bool b) ∧ w = w' := by
  have H := Lib.hid (And.intro h (And.intro hk hb))
  clear h hk hb
  go_enter Try.func133, Try.ntmps133
  go_wp2_with fail
  go_loopw [9] (fun i wr => ∃ j : Nat, j ≤ k ∧ i = .int .i64 j ∧ (∀ z ∈ L.take j, -m ≤ z ∧ z ≤ m) ∧ w = wr) (fun i _ => k - (intOf i).toNat)
  case atStart => exact ⟨0, Nat.zero_le _, rfl, by simp, rfl⟩
  case round =>
    obtain ⟨j, hj, rfl, hn, rfl⟩ := hrel
    by_cases hlt : j < k
    · obtain ⟨B, o, y, rfl, hy, hB, e0⟩ := H.out.1.at (i := j) (by have := H.out.2.1; omega)
      have hlt' : (j : Int) < (k : Int) := by omega
      by_cases hyz : -m ≤ y ∧ y ≤ m
      · have c1 := fun w => Lib.hid (nWithin y m true w hm hm' (decide_eq_true hyz))
        have HN : Hid (∀ z ∈ L.take (j + 1), -m ≤ z ∧ z ≤ m) := Lib.hid (by
          rw [List.take_add_one, hy]; intro z hz
          rcases List.mem_append.1 hz with h | h
          · exact hn z h
          · simp at h; subst h; exact hyz)
        clear hy hn hyz
        go_wp2_with ((go_at_call 85; (with_reducible refine ((c1 _).out).mono ?_); rintro e w' ⟨rfl, rfl⟩))
        go_roundw
        case rel => exact ⟨j + 1, by omega, by go_num, HN.out, by first | trivial | rfl⟩
        case measure => simp [intOf]; omega
      · have c1 := fun w => Lib.hid (nWithin y m false w hm hm' (decide_eq_false hyz))
        have HB : Hid (false = b) := Lib.hid (by
          rw [← H.out.2.2]
          exact (decide_eq_false (fun hc => hyz (hc y (List.mem_of_getElem? hy)))).symm)
        clear hy hn hyz
        go_wp2_with ((go_at_call 85; (with_reducible refine ((c1 _).out).mono ?_); rintro e w' ⟨rfl, rfl⟩))
        go_ret
        exact ⟨ret_bool HB.out, rfl⟩
    · have e : j = k := by omega
      subst e
      have HB : Hid (true = b) := Lib.hid (by
        rw [← H.out.2.2]
        rw [List.take_of_length_le (Nat.le_of_eq H.out.2.1)] at hn
        exact (decide_eq_true hn).symm)
      clear hn
      go_wp2_with fail
      go_ret
      exact ⟨ret_bool HB.out, rfl⟩
/-- a column of as many numbers as there are rows, within a limit -/
theorem iColumn (k n c d : Nat) (p q : Option Addr) (xs : List Int) (m : Int) (b : Bool) (w : World) (h : Ints w q xs) (hn : xs.length = n) (hl : k ≤ 4000000000000000000) (hm : 0 ≤ m) (hm' : m ≤ 4000000000000000000) (hb : decide (n = k ∧ ∀ z ∈ xs, -m ≤ z ∧ z ≤ m) = b) :
    Calls Try.prog 121 #[.slice p k c, .slice q n d, .int .i64 m] w fun e w' => e = .returned (.bool b) ∧ w = w' := by
  by_cases e : n = k
  · have c1 := fun w h => Lib.hid (iAllWithin n d q xs m b w h hn (by omega) hm hm' (by rw [← hb]; exact decide_eq_decide.2 ⟨fun h => ⟨e, h⟩, fun h => h.2⟩))
    have H := Lib.hid h
    subst e
    clear h hn hb
    go_enter Try.func121, Try.ntmps121
    go_wp2_with (go_at_call 133; (with_reducible refine ((c1 _ ?_).out).mono ?_); (focus (exact H.out; done)); rintro e w' ⟨rfl, rfl⟩)
    go_ret
    exact ⟨rfl, rfl⟩
  · have e' : ¬ (n : Int) = (k : Int) := by omega
    have HB : Hid (false = b) := Lib.hid (by rw [← hb]; exact (decide_eq_false (fun h => e h.1)).symm)
    clear h hn hb
    go_enter Try.func121, Try.ntmps121
    go_wp2_with fail
    go_ret
    exact ⟨ret_bool HB.out, rfl⟩
theorem iMatValidW (k c : Nat) (p : Option Addr) (L : List (List Int)) (b : Bool) (w : World) (h : GRead w p L) (hk : L.length = k) (hb : matOk L = b) :
    Calls Try.prog 97 #[.slice p k c] w fun e w' => e = .returned (.bool b) ∧ w = w' := by
  have H := Lib.hid (And.intro h (And.intro hk hb))
  clear h hk hb
  by_cases hr : 1 ≤ k ∧ k ≤ 5
  · obtain ⟨hr1, hr5⟩ := hr
    go_enter Try.func97, Try.ntmps97
    go_wp2_with fail
    go_loopw [15] (fun i wr => ∃ j : Nat, j ≤ k ∧ i = .int .i64 j ∧ (∀ r ∈ L.take j, rowOk k r) ∧ w = wr) (fun i _ => k - (intOf i).toNat)
    case atStart => exact ⟨0, Nat.zero_le _, rfl, by simp, rfl⟩
    case round =>
      obtain ⟨j, hj, rfl, hn, rfl⟩ := hrel
      by_cases hlt : j < k
      · obtain ⟨B, o, r, q, cq, rfl, hr, hB, e0, hcq, hi⟩ := H.out.1.at (i := j) (by have := H.out.2.1; omega)
        have hlt' : (j : Int) < (k : Int) := by omega
        obtain ⟨n, hrn⟩ : ∃ n, r.length = n := ⟨_, rfl⟩
        rw [hrn] at e0
        have HI := Lib.hid hi
        by_cases hrk : rowOk k r
        · have c1 := fun p c w h => Lib.hid (iColumn k n c cq p q r 1000 true w h hrn (by omega) (by omega) (by omega) (decide_eq_true ⟨by rw [← hrn]; exact hrk.1, hrk.2⟩))
          have HN : Hid (∀ r ∈ L.take (j + 1), rowOk k r) := Lib.hid (by
            rw [List.take_add_one, hr]; intro y hy
            rcases List.mem_append.1 hy with h | h
            · exact hn y h
            · simp at h; subst h; exact hrk)
          clear hn hr hrk hrn hi hcq
          go_wp2_with (go_at_call 121; (with_reducible refine ((c1 _ _ _ ?_).out).mono ?_); (focus (exact HI.out; done)); rintro e w' ⟨rfl, rfl⟩)
          go_roundw
          case rel => exact ⟨j + 1, by omega, by go_num, HN.out, by first | trivial | rfl⟩
          case measure => simp [intOf]; omega
        · have c1 := fun p c w h => Lib.hid (iColumn k n c cq p q r 1000 false w h hrn (by omega) (by omega) (by omega) (decide_eq_false (fun h => hrk ⟨by rw [hrn]; exact h.1, h.2⟩)))
          have HB : Hid (false = b) := Lib.hid (by
            rw [← H.out.2.2]
            exact (matOk_no H.out.2.1 (fun hc => hrk (hc.2 r (List.mem_of_getElem? hr)))).symm)
          clear hn hr hrk hrn hi hcq
          go_wp2_with (go_at_call 121; (with_reducible refine ((c1 _ _ _ ?_).out).mono ?_); (focus (exact HI.out; done)); rintro e w' ⟨rfl, rfl⟩)
          go_ret
          exact ⟨ret_bool HB.out, rfl⟩
      · have e : j = k := by omega
        subst e
        have HB : Hid (true = b) := Lib.hid (by
          obtain ⟨h, hk, hb⟩ := H.out
          rw [List.take_of_length_le (Nat.le_of_eq hk)] at hn
          rw [← hb]
          exact ((matOk_rows hk).2 ⟨⟨hr1, hr5⟩, hn⟩).symm)
        clear hn
        go_wp2_with fail
        go_ret
        exact ⟨ret_bool HB.out, rfl⟩
  · have HB : Hid (false = b) := Lib.hid (by rw [← H.out.2.2]; exact (matOk_no H.out.2.1 (fun hc => hr hc.1)).symm)
    go_enter Try.func97, Try.ntmps97
    by_cases h1 : k < 1
    · have h1' : (k : Int) < 1 := by omega
      go_wp2_with fail
      go_ret
      exact ⟨ret_bool HB.out, rfl⟩
    · have h1' : ¬ (k : Int) < 1 := by omega
      have h5 : (5 : Int) < (k : Int) := by omega
      go_wp2_with fail
      go_ret
      exact ⟨ret_bool HB.out, rfl⟩
end Go.Proofs.Ytenllemaccacgaa
namespace Go.Proofs.Ytenllemaccacgaa
open Go.RowKit
set_option linter.unusedVariables false

theorem cCopied (b k c i j : Nat) (p : Option Addr) (L : List (List Int)) (w : World) (hc : w.cell? ⟨b, 0, none⟩ = some (.slice p k c)) (h : GRead w p L) (hs : Sq k L) (hi : i < k) (hj : j < k) :
    Calls Try.prog 131 #[.int .i64 i, .int .i64 j, .pointer (some ⟨b, 0, none⟩)] w fun e w' => e = .returned (.int .i64 (ent L i j)) ∧ w = w' := by
  obtain ⟨B, o, r, q, cq, rfl, hr, hB, e0, hcq, hI⟩ := h.at (i := i) (by rw [hs.1]; exact hi)
  have hrl := hs.2 r (List.mem_of_getElem? hr)
  rw [hrl] at e0
  obtain ⟨A, oA, z, rfl, hz, hA, e1⟩ := hI.at (i := j) (by rw [hrl]; exact hj)
  have hi' : (i : Int) < (k : Int) := by omega
  have hj' : (j : Int) < (k : Int) := by omega
  have HN : Hid (z = ent L i j) := Lib.hid (by unfold ent; rw [rowL_at hr, num_at hz])
  clear h hs hr hI hrl hz hcq
  go_enter Try.func131, Try.ntmps131
  go_wp2_with fail
  go_ret
  exact ⟨ret_int HN.out, rfl⟩
theorem cTurned (b k c i j : Nat) (p : Option Addr) (L : List (List Int)) (w : World) (hc : w.cell? ⟨b, 0, none⟩ = some (.slice p k c)) (h : GRead w p L) (hs : Sq k L) (hi : i < k) (hj : j < k) :
    Calls Try.prog 123 #[.int .i64 i, .int .i64 j, .pointer (some ⟨b, 0, none⟩)] w fun e w' => e = .returned (.int .i64 (trn (ent L) i j)) ∧ w = w' := by
  obtain ⟨B, o, r, q, cq, rfl, hr, hB, e0, hcq, hI⟩ := h.at (i := j) (by rw [hs.1]; exact hj)
  have hrl := hs.2 r (List.mem_of_getElem? hr)
  rw [hrl] at e0
  obtain ⟨A, oA, z, rfl, hz, hA, e1⟩ := hI.at (i := i) (by rw [hrl]; exact hi)
  have hi' : (i : Int) < (k : Int) := by omega
  have hj' : (j : Int) < (k : Int) := by omega
  have HN : Hid (z = trn (ent L) i j) := Lib.hid (by unfold trn ent; rw [rowL_at hr, num_at hz])
  clear h hs hr hI hrl hz hcq
  go_enter Try.func123, Try.ntmps123
  go_wp2_with fail
  go_ret
  exact ⟨ret_int HN.out, rfl⟩
end Go.Proofs.Ytenllemaccacgaa
