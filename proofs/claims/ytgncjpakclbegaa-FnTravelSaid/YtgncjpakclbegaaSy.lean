/-
  The reference model's helpers of shares: sums, lengths, floors, the first index with the greatest remainder.
  The reference model's ShareOf: the whole shares, whatever the lengths and the amount.
  The reference model's ShareOk, ShareFar and ShareRises.
-/
import Derived.Test.YtgncjpakclbegaaSz
import Derived.Test.YtgncjpakclbegaaZa
import Derived.Test.YtgncjpakclbegaaZg
import Derived.Test.YtgncjpakclbegaaZo
namespace Go.Proofs.Ytgncjpakclbegaa
open Go.RowKit
set_option linter.unusedVariables false

theorem sizeI (z v : Int) (w : World) (h0 : -1000000000000000 ≤ z) (h1 : z ≤ 1000000000000000) (hv : (z.natAbs : Int) = v) :
    Calls Try.prog 71 #[.int .i64 z] w fun e w' => e = .returned (.int .i64 v) ∧ w = w' := by
  by_cases h : 0 ≤ z
  all_goals
    go_enter Try.func71, Try.ntmps71
    go_wp2
    go_ret
    exact ⟨ret_int (by omega), rfl⟩
theorem tot_low {L : List Int} (h : ∀ z ∈ L, -1000000000 ≤ z ∧ z ≤ 1000000000) (hl : L.length ≤ 1000) : -1000000000000 ≤ tot L ∧ tot L ≤ 1000000000000 := by
  have h1 := tot_le (l := L) (c := 1000000000) (fun z hz => (h z hz).2)
  have h2 := tot_ge (l := L) (c := -1000000000) (fun z hz => (h z hz).1)
  omega
theorem sSum (k c : Nat) (p : Option Addr) (L : List Int) (w : World) (h : Ints w p L) (hk : L.length = k) (hl : k ≤ 1000) (hB : ∀ z ∈ L, -1000000000 ≤ z ∧ z ≤ 1000000000) :
    Calls Try.prog 93 #[.slice p k c] w fun e w' => e = .returned (.int .i64 (tot L)) ∧ w = w' := by
  have H := Lib.hid (And.intro h (And.intro hk hB))
  clear h hk hB
  go_enter Try.func93, Try.ntmps93
  go_wp2_with fail
  go_loopw [3, 4] (fun s i wr => ∃ j : Nat, j ≤ k ∧ i = .int .i64 j ∧ s = .int .i64 (tot (L.take j)) ∧ w = wr) (fun _ i _ => k - (intOf i).toNat)
  case atStart => exact ⟨0, Nat.zero_le _, rfl, rfl, rfl⟩
  case round =>
    obtain ⟨j, hj, rfl, rfl, rfl⟩ := hrel
    have hb := tot_low (L := L.take j) (fun z hz => H.out.2.2 z (List.mem_of_mem_take hz)) (by rw [List.length_take]; omega)
    obtain ⟨s, hs⟩ : ∃ s, tot (L.take j) = s := ⟨_, rfl⟩
    rw [hs] at hb ⊢
    obtain ⟨s0, s1⟩ := hb
    by_cases hlt : j < k
    · obtain ⟨B, o, z, rfl, hz, hB, e0⟩ := H.out.1.at (i := j) (by have := H.out.2.1; omega)
      obtain ⟨z0, z1⟩ := H.out.2.2 z (List.mem_of_getElem? hz)
      have HS : Hid (tot (L.take (j + 1)) = s + z) := Lib.hid (by rw [tot_take hz, hs])
      clear hz hs
      go_wp2_with fail
      go_roundw
      case rel => exact ⟨j + 1, by omega, by go_num, by rw [HS.out], by first | trivial | rfl⟩
      case measure => simp [intOf]; omega
    · have e : j = k := by omega
      subst e
      have HX : Hid (tot L = s) := Lib.hid (by rw [← hs, List.take_of_length_le (Nat.le_of_eq H.out.2.1)])
      clear hs
      go_wp2_with fail
      go_ret
      exact ⟨ret_int HX.out.symm, rfl⟩
theorem tdiv_floor {x s : Int} (hs : 0 < s) : x / s = if x.tmod s < 0 then x.tdiv s - 1 else x.tdiv s := by
  have e := Int.tmod_add_mul_tdiv x s
  have hb : -s < x.tmod s ∧ x.tmod s < s := by
    have h1 := Int.tmod_lt_of_pos x hs
    have h2 := Int.tmod_lt_of_pos (-x) hs
    rw [Int.neg_tmod] at h2
    omega
  split
  · next h =>
    have := (Int.ediv_emod_unique (a := x) (r := x.tmod s + s) (q := x.tdiv s - 1) hs).2 ⟨by rw [Int.mul_sub]; omega, by omega, by omega⟩
    exact this.1
  · next h =>
    have := (Int.ediv_emod_unique (a := x) (r := x.tmod s) (q := x.tdiv s) hs).2 ⟨e, by omega, hb.2⟩
    exact this.1
theorem sFloor (x s : Int) (w : World) (hs : 0 < s) (hs9 : s ≤ 1000000000) (h0 : -1000000000000000 ≤ x) (h1 : x ≤ 1000000000000000) :
    Calls Try.prog 122 #[.int .i64 x, .int .i64 s] w fun e w' => e = .returned (.int .i64 (x / s)) ∧ w = w' := by
  have HF := Lib.hid (tdiv_floor (x := x) hs)
  have hs0 : (s == 0) = false := by
    have : ¬ s = 0 := by omega
    simpa using this
  have hs0' : ¬ s = 0 := by omega
  obtain ⟨q, hq⟩ : ∃ q, x.tdiv s = q := ⟨_, rfl⟩
  obtain ⟨m, hm⟩ : ∃ m, x.tmod s = m := ⟨_, rfl⟩
  have e := Int.tmod_add_mul_tdiv x s
  have hq0 : -1000000000000000 ≤ q ∧ q ≤ 1000000000000000 := by
    have h3 := Int.natAbs_tdiv_le_natAbs x s
    rw [hq] at h3
    omega
  have hm0 : -s < m ∧ m < s := by
    have h1 := Int.tmod_lt_of_pos x hs
    have h2 := Int.tmod_lt_of_pos (-x) hs
    rw [Int.neg_tmod] at h2
    rw [hm] at h1 h2
    omega
  obtain ⟨q0, q1⟩ := hq0
  obtain ⟨m0, m1⟩ := hm0
  clear e
  by_cases hneg : m < 0
  · have HX : Hid (x / s = q - 1) := Lib.hid (by rw [HF.out, hm, hq, if_pos hneg])
    clear HF
    go_enter Try.func122, Try.ntmps122
    go_wp2_with fail
    go_ret
    exact ⟨ret_int (by rw [HX.out]), rfl⟩
  · have HX : Hid (x / s = q) := Lib.hid (by rw [HF.out, hm, hq, if_neg hneg])
    clear HF
    go_enter Try.func122, Try.ntmps122
    go_wp2_with fail
    go_ret
    exact ⟨ret_int (by rw [HX.out]), rfl⟩
set_option maxHeartbeats 1000000 in
theorem sLengths (k c : Nat) (p : Option Addr) (L : List Int) (b : Bool) (w : World) (h : Ints w p L) (hk : L.length = k) (hl : k ≤ 4000000000000000000) (hb : lenOk L = b) :
    Calls Try.prog 139 #[.slice p k c] w fun e w' => e = .returned (.bool b) ∧ w = w' := by
  have H := Lib.hid (And.intro h (And.intro hk hb))
  clear h hk hb
  go_enter Try.func139, Try.ntmps139
  go_wp2_with fail
  go_loopw [3] (fun i wr => ∃ j : Nat, j ≤ k ∧ i = .int .i64 j ∧ (∀ z ∈ L.take j, 0 ≤ z ∧ z ≤ 10000) ∧ w = wr) (fun i _ => k - (intOf i).toNat)
  case atStart => exact ⟨0, Nat.zero_le _, rfl, by simp, rfl⟩
  case round =>
    obtain ⟨j, hj, rfl, hn, rfl⟩ := hrel
    by_cases hlt : j < k
    · obtain ⟨B, o, y, rfl, hy, hB, e0⟩ := H.out.1.at (i := j) (by have := H.out.2.1; omega)
      have hlt' : (j : Int) < (k : Int) := by omega
      by_cases hyz : 0 ≤ y ∧ y ≤ 10000
      · have c1 := fun w => Lib.hid (nIn y 0 10000 true w (decide_eq_true hyz))
        have HN : Hid (∀ z ∈ L.take (j + 1), 0 ≤ z ∧ z ≤ 10000) := Lib.hid (by
          rw [List.take_add_one, hy]; intro z hz
          rcases List.mem_append.1 hz with h | h
          · exact hn z h
          · simp at h; subst h; exact hyz)
        clear hy hn hyz
        go_wp2_with ((go_at_call 100; (with_reducible refine ((c1 _).out).mono ?_); rintro e w' ⟨rfl, rfl⟩))
        go_roundw
        case rel => exact ⟨j + 1, by omega, by go_num, HN.out, by first | trivial | rfl⟩
        case measure => simp [intOf]; omega
      · have c1 := fun w => Lib.hid (nIn y 0 10000 false w (decide_eq_false hyz))
        have HB : Hid (false = b) := Lib.hid (by
          rw [← H.out.2.2]
          exact (decide_eq_false (fun hc => hyz (hc.2.2.1 y (List.mem_of_getElem? hy)))).symm)
        clear hy hn hyz
        go_wp2_with ((go_at_call 100; (with_reducible refine ((c1 _).out).mono ?_); rintro e w' ⟨rfl, rfl⟩))
        go_ret
        exact ⟨ret_bool HB.out, rfl⟩
    · have e : j = k := by omega
      subst e
      rw [List.take_of_length_le (Nat.le_of_eq H.out.2.1)] at hn
      have HN := Lib.hid hn
      clear hn
      by_cases hj20 : 1 ≤ j ∧ j ≤ 20
      · have c1 := fun w => Lib.hid (nIn j 1 20 true w (decide_eq_true (by omega)))
        have c2 := fun w h => Lib.hid (sSum j c p L w h H.out.2.1 (by omega) (fun z hz => by have := HN.out z hz; omega))
        obtain ⟨t, ht⟩ : ∃ t, tot L = t := ⟨_, rfl⟩
        have HB : Hid (decide (0 < t) = b) := Lib.hid (by
          rw [← H.out.2.2]
          unfold lenOk
          have := H.out.2.1
          by_cases h0 : 0 < t
          · rw [decide_eq_true h0]; exact (decide_eq_true ⟨by omega, by omega, HN.out, by omega⟩).symm
          · rw [decide_eq_false h0]; exact (decide_eq_false (fun hc => h0 (by rw [← ht]; exact hc.2.2.2))).symm)
        rw [ht] at c2
        clear ht
        go_wp2_with (first | (go_at_call 100; (with_reducible refine ((c1 _).out).mono ?_); rintro e w' ⟨rfl, rfl⟩) | (go_at_call 93; (with_reducible refine ((c2 _ ?_).out).mono ?_); (focus (exact H.out.1; done)); rintro e w' ⟨rfl, rfl⟩))
        go_ret
        exact ⟨ret_bool HB.out, rfl⟩
      · have c1 := fun w => Lib.hid (nIn j 1 20 false w (decide_eq_false (by omega)))
        have HB : Hid (false = b) := Lib.hid (by
          rw [← H.out.2.2]
          have := H.out.2.1
          exact (decide_eq_false (fun hc => hj20 (by have h1 := hc.1; have h2 := hc.2.1; omega))).symm)
        go_wp2_with ((go_at_call 100; (with_reducible refine ((c1 _).out).mono ?_); rintro e w' ⟨rfl, rfl⟩))
        go_ret
        exact ⟨ret_bool HB.out, rfl⟩
theorem sOk (k c : Nat) (p : Option Addr) (L : List Int) (a : Int) (b : Bool) (w : World) (h : Ints w p L) (hk : L.length = k) (hl : k ≤ 4000000000000000000) (hb : amtOk L a = b) :
    Calls Try.prog 121 #[.slice p k c, .int .i64 a] w fun e w' => e = .returned (.bool b) ∧ w = w' := by
  obtain ⟨v, hv⟩ : ∃ v, lenOk L = v := ⟨_, rfl⟩
  have c1 := fun w h => Lib.hid (sLengths k c p L v w h hk hl hv)
  have c2 := fun w => Lib.hid (nIn a (-10000000) 10000000 _ w rfl)
  have HB : Hid ((v && decide (-10000000 ≤ a ∧ a ≤ 10000000)) = b) := Lib.hid (by rw [← hb, ← hv]; rfl)
  generalize decide (-10000000 ≤ a ∧ a ≤ 10000000) = u at c2 HB
  have H := Lib.hid h
  clear h hk hb hv
  cases v
  · have HB' : Hid (false = b) := Lib.hid (by have := HB.out; simpa using this)
    clear HB
    go_enter Try.func121, Try.ntmps121
    go_wp2_with (first | (go_at_call 100; (with_reducible refine ((c2 _).out).mono ?_); rintro e w' ⟨rfl, rfl⟩) | (go_at_call 139; (with_reducible refine ((c1 _ ?_).out).mono ?_); (focus (exact H.out; done)); rintro e w' ⟨rfl, rfl⟩))
    go_ret
    exact ⟨ret_bool HB'.out, rfl⟩
  · have HB' : Hid (u = b) := Lib.hid (by have := HB.out; simpa using this)
    clear HB
    go_enter Try.func121, Try.ntmps121
    go_wp2_with (first | (go_at_call 100; (with_reducible refine ((c2 _).out).mono ?_); rintro e w' ⟨rfl, rfl⟩) | (go_at_call 139; (with_reducible refine ((c1 _ ?_).out).mono ?_); (focus (exact H.out; done)); rintro e w' ⟨rfl, rfl⟩))
    go_ret
    exact ⟨ret_bool HB'.out, rfl⟩
theorem sNext (k c : Nat) (p : Option Addr) (R : List Int) (w : World) (h : Ints w p R) (hk : R.length = k) (h1 : 1 ≤ k) (hl : k ≤ 1000) :
    Calls Try.prog 123 #[.slice p k c] w fun e w' => ∃ b : Nat, e = .returned (.int .i64 b) ∧ (b < k ∧ ∀ q, q < k → q ≠ b → bef (nth R) b q) ∧ Below w.heap.size w w' := by
  have H := Lib.hid (And.intro h hk)
  clear h hk
  go_enter Try.func123, Try.ntmps123
  go_wp2_with fail
  go_loopw [3, 4] (fun s i wr => ∃ j b : Nat, j ≤ k ∧ i = .int .i64 j ∧ s = .int .i64 b ∧ b < k ∧ (b = 0 ∨ b < j) ∧ (∀ q, q < j → q ≠ b → bef (nth R) b q) ∧ Below w.heap.size w wr) (fun _ i _ => k - (intOf i).toNat)
  case atStart => exact ⟨0, 0, Nat.zero_le _, rfl, rfl, by omega, .inl rfl, fun q hq => by omega, Below.refl _ _⟩
  case round =>
    obtain ⟨j, b, hj, rfl, rfl, hbk, hbj, hf, hbr⟩ := hrel
    have hbs := hbr.size
    have HF := Lib.hid (And.intro hbj (And.intro hf hbr))
    by_cases hlt : j < k
    · obtain ⟨B, o, x, rfl, hx, hB, e0⟩ := (H.out.1.below hbr).at (i := j) (by have := H.out.2; omega)
      obtain ⟨B', o', y, eq', hy, hB', e1⟩ := (H.out.1.below hbr).at (i := b) (by have := H.out.2; omega)
      cases eq'
      have HX := Lib.hid (And.intro (nth_at hx) (nth_at hy))
      have hlt' : (j : Int) < (k : Int) := by omega
      have hbk' : (b : Int) < (k : Int) := by omega
      clear hx hy hbj hf hbr
      by_cases hxy : y < x
      · go_wp2_with fail
        (refine wp_region_grows (by kernel_rfl) (by kernel_rfl) ?_; intro W_wg hWc_wg hWs_wg hWe_wg; (repeat (go_big_quiet_step (fail))); with_reducible refine wpQuiet_nil ?_; clear hWe_wg hWs_wg hWc_wg W_wg; intro wg hb_wg; obtain ⟨hc_wg, hf_wg⟩ := bcell hb_wg; (try simp only [World.size_drew, World.cell?_drew, World.frozen?_drew, World.heap_drewN, World.cell?_drewN, World.frozen?_drewN] at hc_wg hf_wg); have hs_wg := hb_wg.size; (try simp at hs_wg))
        go_wp2_with fail
        go_roundw
        case rel => exact ⟨j + 1, j, by omega, by go_num, rfl, hlt, .inr (by omega), fun q hq hne => by
          obtain ⟨n1, n2⟩ := HX.out
          by_cases e : q = b
          · subst e; left; omega
          · have := HF.out.2.1 q (by omega) e
            unfold bef at *; omega, HF.out.2.2.trans (hb_wg.mono hbs)⟩
        case measure => simp [intOf]; omega
      · go_wp2_with fail
        (refine wp_region_grows (by kernel_rfl) (by kernel_rfl) ?_; intro W_wg hWc_wg hWs_wg hWe_wg; (repeat (go_big_quiet_step (fail))); with_reducible refine wpQuiet_nil ?_; clear hWe_wg hWs_wg hWc_wg W_wg; intro wg hb_wg; obtain ⟨hc_wg, hf_wg⟩ := bcell hb_wg; (try simp only [World.size_drew, World.cell?_drew, World.frozen?_drew, World.heap_drewN, World.cell?_drewN, World.frozen?_drewN] at hc_wg hf_wg); have hs_wg := hb_wg.size; (try simp at hs_wg))
        go_wp2_with fail
        go_roundw
        case rel => exact ⟨j + 1, b, by omega, by go_num, rfl, hbk, by have := HF.out.1; omega, fun q hq hne => by
          obtain ⟨n1, n2⟩ := HX.out
          by_cases e : q = j
          · subst e
            have := HF.out.1
            unfold bef; omega
          · exact HF.out.2.1 q (by omega) hne, HF.out.2.2.trans (hb_wg.mono hbs)⟩
        case measure => simp [intOf]; omega
    · have e : j = k := by omega
      subst e
      clear hbj hf hbr
      go_wp2_with fail
      go_ret
      exact ⟨b, rfl, ⟨hbk, HF.out.2.1⟩, HF.out.2.2⟩
end Go.Proofs.Ytgncjpakclbegaa
namespace Go.Proofs.Ytgncjpakclbegaa
open Go.RowKit
set_option linter.unusedVariables false

theorem map_set {k b : Nat} {f g : Nat → Int} (hb : b < k) (h : ∀ i, i < k → i ≠ b → f i = g i) : ((List.range k).map f).set b (g b) = (List.range k).map g := by
  apply List.ext_getElem?
  intro i
  rw [List.getElem?_set]
  by_cases e : b = i
  · subst e
    rw [if_pos rfl, if_pos (by simpa using hb), List.getElem?_map, List.getElem?_range hb]; rfl
  · rw [if_neg e, List.getElem?_map, List.getElem?_map]
    by_cases hi : i < k
    · rw [List.getElem?_range hi]; simp [h i hi (Ne.symm e)]
    · rw [List.getElem?_eq_none (by simp; omega)]; rfl
theorem map_at {k i : Nat} {f : Nat → Int} (hi : i < k) : ((List.range k).map f)[i]? = some (f i) := by rw [List.getElem?_map, List.getElem?_range hi]; rfl
theorem map_nth {k i : Nat} {f : Nat → Int} (hi : i < k) : nth ((List.range k).map f) i = f i := nth_at (map_at hi)
theorem map_snoc {k : Nat} {f : Nat → Int} : (List.range k).map f ++ [f k] = (List.range (k + 1)).map f := by rw [List.range_succ, List.map_append]; rfl
theorem map_eq {k : Nat} {f g : Nat → Int} (h : ∀ i, i < k → f i = g i) : (List.range k).map f = (List.range k).map g := List.map_congr_left (fun i hi => h i (List.mem_range.1 hi))
/-- the remainders of those that are left, -1 for the others -/
noncomputable def rst (ls : List Int) (a : Int) (T : Nat → Prop) (i : Nat) : Int := open Classical in if T i then -1 else re ls a i
theorem rst_pos {ls : List Int} {a : Int} {T : Nat → Prop} {i : Nat} (h : T i) : rst ls a T i = -1 := if_pos h
theorem rst_neg {ls : List Int} {a : Int} {T : Nat → Prop} {i : Nat} (h : ¬ T i) : rst ls a T i = re ls a i := if_neg h
section
variable {ls : List Int} {a : Int} {T : Nat → Prop} {b t : Nat}
/-- the greatest of the remainders that are left is the next -/
theorem rst_next (h : lenOk ls = true) (hT : Top ls.length (re ls a) t T) (ht : (t : Int) < ls.length) (hb : b < ls.length) (hf : ∀ q, q < ls.length → q ≠ b → bef (rst ls a T) b q) : ¬ T b ∧ Top ls.length (re ls a) ((t : Int) + 1) (fun i => T i ∨ i = b) := by
  obtain ⟨b', hb', hn'⟩ := hT.more ht
  have hn : ¬ T b := fun hc => by
    have hne : b' ≠ b := fun e => hn' (by rw [e]; exact hc)
    have := hf b' hb' hne
    have h0 := (fl_re (a := a) h b').2.1
    unfold bef at this
    rw [rst_pos hc, rst_neg hn'] at this
    omega
  refine ⟨hn, hT.next hb hn (fun k hk hk' hne => ?_)⟩
  have := hf k hk hne
  unfold bef at this ⊢
  rw [rst_neg hn, rst_neg hk'] at this
  exact this
theorem rst_set (hb : b < ls.length) : ((List.range ls.length).map (rst ls a T)).set b (-1) = (List.range ls.length).map (rst ls a (fun i => T i ∨ i = b)) := by
  have := map_set (k := ls.length) (b := b) (f := rst ls a T) (g := rst ls a (fun i => T i ∨ i = b)) hb (fun i hi hne => by
    by_cases hT : T i
    · rw [rst_pos hT, rst_pos (T := fun i => T i ∨ i = b) (.inl hT)]
    · rw [rst_neg hT, rst_neg (T := fun i => T i ∨ i = b) (fun hc => hc.elim hT hne)])
  rw [rst_pos (T := fun i => T i ∨ i = b) (.inr rfl)] at this
  exact this
theorem inc_set (hb : b < ls.length) (hn : ¬ T b) : ((List.range ls.length).map (fun i => fl ls a i + ind T i)).set b (fl ls a b + ind T b + 1) = (List.range ls.length).map (fun i => fl ls a i + ind (fun i => T i ∨ i = b) i) := by
  have := map_set (k := ls.length) (b := b) (f := fun i => fl ls a i + ind T i) (g := fun i => fl ls a i + ind (fun i => T i ∨ i = b) i) hb (fun i hi hne => by
    by_cases hT : T i
    · rw [ind_pos hT, ind_pos (p := fun i => T i ∨ i = b) (.inl hT)]
    · rw [ind_neg hT, ind_neg (p := fun i => T i ∨ i = b) (fun hc => hc.elim hT hne)])
  rw [ind_pos (p := fun i => T i ∨ i = b) (.inr rfl)] at this
  rw [ind_neg hn, Int.add_zero]
  exact this
theorem fl_low (h : amtOk ls a = true) {i : Nat} (hi : i < ls.length) : -10000000 ≤ fl ls a i ∧ fl ls a i ≤ 10000000 := by
  obtain ⟨hl, h0, h1⟩ := amtOk_true.1 h
  have hp := pos_of hl
  obtain ⟨e, r0, r1⟩ := fl_re (a := a) hl i
  obtain ⟨l0, -⟩ := nth_low hl hi
  have l1 := nth_tot hl hi
  have u1 : a * nth ls i ≤ 10000000 * tot ls := Int.le_trans (Int.mul_le_mul_of_nonneg_right h1 l0) (Int.mul_le_mul_of_nonneg_left l1 (by omega))
  have u2 : -(10000000 * tot ls) ≤ a * nth ls i := by
    have := Int.le_trans (Int.mul_le_mul_of_nonneg_right (show -a ≤ 10000000 by omega) l0) (Int.mul_le_mul_of_nonneg_left l1 (by omega : (0 : Int) ≤ 10000000))
    rw [Int.neg_mul] at this; omega
  have v1 : fl ls a i ≤ 10000000 := Int.le_of_mul_le_mul_left (a := tot ls) (by rw [Int.mul_comm (tot ls) 10000000]; omega) hp
  have v2 : -10000001 < fl ls a i := Int.lt_of_mul_lt_mul_left (a := tot ls) (by rw [Int.mul_comm (tot ls) (-10000001)]; omega) (by omega)
  omega
theorem prod_low (h : amtOk ls a = true) {z : Int} (hz : z ∈ ls) : -100000000000 ≤ a * z ∧ a * z ≤ 100000000000 := by
  obtain ⟨hl, h0, h1⟩ := amtOk_true.1 h
  obtain ⟨l0, l1⟩ := (lenOk_true.1 hl).2.2.1 z hz
  have u1 : a * z ≤ 10000000 * 10000 := Int.le_trans (Int.mul_le_mul_of_nonneg_right h1 l0) (Int.mul_le_mul_of_nonneg_left l1 (by omega))
  have u2 := Int.le_trans (Int.mul_le_mul_of_nonneg_right (show -a ≤ 10000000 by omega) l0) (Int.mul_le_mul_of_nonneg_left l1 (by omega : (0 : Int) ≤ 10000000))
  rw [Int.neg_mul] at u2
  omega
end

set_option maxHeartbeats 4000000 in
theorem sShareOf_yes (k c : Nat) (p : Option Addr) (ls : List Int) (a : Int) (w : World) (h : Ints w p ls) (hk : ls.length = k) (ha : amtOk ls a = true) :
    Calls Try.prog 97 #[.slice p k c, .int .i64 a] w fun e w' => ∃ g cap, e = .returned (.tuple #[.slice (some ⟨g, 0, none⟩) k cap, .bool true]) ∧ w.heap.size ≤ g ∧ Own w' g 3 1 k cap (shr ls a) ∧ Below w.heap.size w w' := by
  obtain ⟨hl, a0, a1⟩ := amtOk_true.1 ha
  have hk1 : 1 ≤ k := by have := (lenOk_true.1 hl).1; omega
  have hk20 : k ≤ 20 := by have := (lenOk_true.1 hl).2.1; omega
  obtain ⟨S, hS⟩ : ∃ S, tot ls = S := ⟨_, rfl⟩
  have S0 : 0 < S := by have := pos_of hl; omega
  have S1 : S ≤ 200000 := by have := tot_most hl; omega
  have c1 := fun w h => Lib.hid (sOk k c p ls a true w h hk (by omega) ha)
  have c2 := fun w h => Lib.hid (sSum k c p ls w h hk (by omega) (fun z hz => by have := (lenOk_true.1 hl).2.2.1 z hz; omega))
  rw [hS] at c2
  have H := Lib.hid (And.intro h (And.intro hk (And.intro ha (And.intro hl hS))))
  clear h hk ha hl hS
  go_enter Try.func97, Try.ntmps97
  go_wp2_with (first | (go_at_call 121; (with_reducible refine ((c1 _ ?_).out).mono ?_); (focus (exact H.out.1.alloc _; done)); rintro e w' ⟨rfl, rfl⟩) | (go_at_call 93; (with_reducible refine ((c2 _ ?_).out).mono ?_); (focus (exact H.out.1.alloc _; done)); rintro e w' ⟨rfl, rfl⟩))
  refine gen_world (fun W => (Own W w.heap.size 3 1 0 0 [] ∧ Own W (w.heap.size + 1) 3 1 0 0 []) ∧ Below w.heap.size w W ∧ w.heap.size + 1 < W.heap.size) ⟨⟨(Own.empty _ _ _).alloc _, by have := Own.empty (w.alloc (.cells #[] 3)) 3 1; simpa using this⟩, (by repeat (first | assumption | exact Below.refl _ _ | (refine below_chain ?_ (by assumption) (by first | omega | (simp <;> omega) | simp)) | (refine Below.alloc ?_ (by first | omega | (simp <;> omega) | simp) _) | (apply below_drewN) | (apply below_drew) | (refine Below.setCell ?_ (by first | omega | (simp <;> omega) | simp) _))), by simp⟩ (fun w0 h0 => ?_)
  obtain ⟨hE, hB0, hs0⟩ := h0
  have HE := Lib.hid (And.intro hE hB0)
  clear hE hB0 c1 c2
  go_loopw [6, 8, 9] (fun o r i wr => ∃ (j go co gr cr : Nat), j ≤ k ∧ i = .int .i64 j ∧ o = .slice (some ⟨go, 0, none⟩) j co ∧ r = .slice (some ⟨gr, 0, none⟩) j cr ∧ (w.heap.size ≤ go ∧ w.heap.size ≤ gr ∧ go ≠ gr) ∧ Own wr go 3 1 j co ((List.range j).map (fl ls a)) ∧ Own wr gr 3 1 j cr ((List.range j).map (re ls a)) ∧ Below w.heap.size w wr) (fun _ _ i _ => k - (intOf i).toNat)
  case atStart => exact ⟨0, _, _, _, _, Nat.zero_le _, rfl, rfl, rfl, ⟨Nat.le_refl _, by omega, by omega⟩, HE.out.1.1, HE.out.1.2, HE.out.2⟩
  case round =>
    clear HE hs0
    obtain ⟨j, go, co, gr, cr, hj, rfl, rfl, rfl, ⟨hgo, hgr, hne⟩, ho, hr, hbr⟩ := hrel
    have hbs := hbr.size
    have hlo := ho.lt
    have hlr := hr.lt
    have HO := Lib.hid (And.intro ho (And.intro hr hbr))
    by_cases hlt : j < k
    · obtain ⟨B, o, z, rfl, hz, hB, e0⟩ := (H.out.1.below hbr).at (i := j) (by have := H.out.2.1; omega)
      obtain ⟨z0, z1⟩ := prod_low H.out.2.2.1 (List.mem_of_getElem? hz)
      have hnz := nth_at hz
      obtain ⟨he, r0, r1⟩ := fl_re (a := a) H.out.2.2.2.1 j
      rw [hnz, H.out.2.2.2.2] at he
      rw [H.out.2.2.2.2] at r1
      have hfl : a * z / S = fl ls a j := by unfold fl; rw [hnz, H.out.2.2.2.2]
      obtain ⟨q, hq⟩ : ∃ q, fl ls a j = q := ⟨_, rfl⟩
      obtain ⟨r, hrr⟩ : ∃ r, re ls a j = r := ⟨_, rfl⟩
      rw [hq, hrr] at he
      rw [hrr] at r0 r1
      obtain ⟨q0, q1⟩ := fl_low H.out.2.2.1 (i := j) (by have := H.out.2.1; omega)
      rw [hq] at q0 q1 hfl
      have c3 := fun w => Lib.hid (sFloor (a * z) S w S0 (by omega) (by omega) (by omega))
      rw [hfl] at c3
      have HQ : Hid (a * z - q * S = re ls a j ∧ fl ls a j = q) := Lib.hid ⟨by rw [hrr, he, Int.mul_comm S q]; omega, hq⟩
      have qs0 : -100000300000 ≤ q * S := by rw [Int.mul_comm q S]; omega
      have qs1 : q * S ≤ 100000300000 := by rw [Int.mul_comm q S]; omega
      have hlt' : (j : Int) < (k : Int) := by omega
      clear hz hnz he hfl hrr hq r0 r1 ho hr hbr
      go_upto_region 11 with (first | (go_at_call 122; (with_reducible refine ((c3 _).out).mono ?_); rintro e w' ⟨rfl, rfl⟩) | (at_builtin; refine wp_append _ rfl _ _ 46 rfl 3 _ 1 8 Try.underlying46 info_int rfl (by decide) (by decide) _ j co _ rfl (HO.out.1.alloc _) _ _ _ [q] rfl rfl (one_cell _ _ _) (by omega) ?_; intro g1 d1 w1 hown hg hloc hsz; have HN := Lib.hid (And.intro hown (And.intro hg hloc)); clear hown hg hloc))
      obtain ⟨hown, hg, hloc⟩ := HN.out
      have hz1 := hg.size
      (try simp at hz1)
      have hg1 : w.heap.size ≤ g1 ∧ g1 ≠ gr := by
        rcases hloc with e | e
        · omega
        · simp at e; omega
      have hr1 := (HO.out.2.1.alloc (.cells #[.int .i64 q] 3)).grown hg (Ne.symm hne)
      have hb1 : Below w.heap.size w w1 := below_gr (HO.out.2.2.alloc hbs (.cells #[.int .i64 q] 3)) hg (by omega) (by simp; omega)
      have hi1 := H.out.1.below hb1
      have e1 : w1.cell? ⟨B, o + j, none⟩ = some (.int .i64 z) := by
        obtain ⟨B', o', z', eq', hz', hB', e'⟩ := hi1.at (i := j) (by have := H.out.2.1; omega)
        cases eq'
        have h1 := (H.out.1.below HO.out.2.2).at (i := j) (by have := H.out.2.1; omega)
        obtain ⟨_, _, z'', eq'', hz'', -, e''⟩ := h1
        cases eq''
        rw [hz'] at hz''
        cases hz''
        rw [e''] at e0
        rw [e']; exact e0
      have hB1 : B < w1.heap.size := by omega
      have HM := Lib.hid (And.intro hown (And.intro hr1 hb1))
      have hw1 := hb1.size
      clear HN HO hown hg hloc hr1 hb1 hi1 e0 hB
      go_wp2_with (at_builtin; refine wp_append _ rfl _ _ 46 rfl 3 _ 1 8 Try.underlying46 info_int rfl (by decide) (by decide) _ j cr _ rfl (HM.out.2.1.alloc _) _ _ _ [a * z - q * S] rfl rfl (one_cell _ _ _) (by omega) ?_; intro g2 d2 w2 hown hg hloc hsz2; have HN := Lib.hid (And.intro hown (And.intro hg hloc)); clear hown hg hloc)
      go_roundw
      case rel =>
        obtain ⟨hown, hg, hloc⟩ := HN.out
        obtain ⟨ho1, hr1, hb1⟩ := HM.out
        rw [HQ.out.1] at hown
        rw [← HQ.out.2] at ho1
        have hg2 : w.heap.size ≤ g2 ∧ g1 ≠ g2 := by
          have := ho1.lt
          rcases hloc with e | e
          · omega
          · simp at e; omega
        exact ⟨j + 1, g1, d1, g2, d2, by omega, by go_num, rfl, rfl, ⟨hg1.1, hg2.1, hg2.2⟩, by rw [← map_snoc]; exact (ho1.alloc _).grown hg hg1.2, by rw [← map_snoc]; exact hown, below_gr (hb1.alloc hw1 _) hg hgr (by simp; omega)⟩
      case measure => simp [intOf]; omega
    · have e : j = k := by omega
      subst e
      have hlk := H.out.2.1
      have c4 := fun w h => Lib.hid (sSum j co (some ⟨go, 0, none⟩) ((List.range j).map (fl ls a)) w h (by simp) (by omega) (fun z hz => by
        obtain ⟨i, hi, rfl⟩ := List.mem_map.1 hz
        have := fl_low H.out.2.2.1 (i := i) (by rw [hlk]; exact List.mem_range.1 hi)
        omega))
      obtain ⟨s, hs⟩ : ∃ s, tot ((List.range j).map (fl ls a)) = s := ⟨_, rfl⟩
      obtain ⟨M, hM⟩ : ∃ M, mis ls a = M := ⟨_, rfl⟩
      have hsM : a - s = M := by rw [← hM, ← hs]; unfold mis sig; rw [hlk]
      obtain ⟨m0, m1⟩ := mis_low (a := a) H.out.2.2.2.1
      rw [hM, hlk] at m1
      rw [hM] at m0
      rw [hs] at c4
      have HS := Lib.hid (And.intro hsM hM)
      have s0 : s ≤ 100000000 := by omega
      have s1 : -100000000 ≤ s := by omega
      clear hs ho hr hbr
      go_wp2_with (go_at_call 93; (with_reducible refine ((c4 _ ?_).out).mono ?_); (focus (exact HO.out.1.ints; done)); rintro e w' ⟨rfl, rfl⟩)
      have hstart : (List.range j).map (fun i => fl ls a i + ind (fun _ => False) i) = (List.range j).map (fl ls a) := map_eq (fun i _ => by rw [ind_neg (p := fun _ => False) (fun h => h)]; omega)
      have hstart2 : (List.range j).map (rst ls a (fun _ => False)) = (List.range j).map (re ls a) := map_eq (fun i _ => rst_neg (fun h => h))
      have HO2 := Lib.hid (show Own wr go 3 1 j co ((List.range j).map (fun i => fl ls a i + ind (fun _ => False) i)) ∧ Own wr gr 3 1 j cr ((List.range j).map (rst ls a (fun _ => False))) ∧ Below w.heap.size w wr from ⟨by rw [hstart]; exact HO.out.1, by rw [hstart2]; exact HO.out.2.1, HO.out.2.2⟩)
      clear hstart hstart2 HO hlo hlr hbs hM hsM s0 s1 c4
      have HK := Lib.hid hlk
      clear hlk
      go_loopw [11] (fun x wr => ∃ (t : Nat) (T : Nat → Prop), (t : Int) ≤ M ∧ x = .int .i64 (M - t) ∧ Top ls.length (re ls a) t T ∧ Own wr go 3 1 j co ((List.range j).map (fun i => fl ls a i + ind T i)) ∧ Own wr gr 3 1 j cr ((List.range j).map (rst ls a T)) ∧ Below w.heap.size w wr) (fun x _ => (intOf x).toNat)
      case atStart => exact ⟨0, _, by omega, by go_num, Top.zero, HO2.out.1, HO2.out.2.1, HO2.out.2.2⟩
      case round =>
        clear HO2
        rename World => wz
        obtain ⟨t, T, htM, rfl, hT, ho, hr, hbr⟩ := hrel
        have hbs := hbr.size
        have hlo := ho.lt
        have hlr := hr.lt
        have HO := Lib.hid (And.intro hT (And.intro ho (And.intro hr hbr)))
        clear hT ho hr hbr
        by_cases hlt : (t : Int) < M
        · have hlt0 : (0 : Int) < M - t := by omega
          have c5 := fun w h => Lib.hid (sNext j cr (some ⟨gr, 0, none⟩) ((List.range j).map (rst ls a T)) w h (by simp) hk1 (by omega))
          go_upto_region 16 with (go_at_call 123; (with_reducible refine ((c5 _ ?_).out).mono ?_); (focus (exact HO.out.2.2.1.ints; done)); rintro e wn ⟨b, rfl, ⟨hbj, hbf⟩, hb_wn⟩; have hs_wn := hb_wn.size; have HB := Lib.hid hbf; clear hbf)
          have on := HO.out.2.1.below hb_wn
          have rn := HO.out.2.2.1.below hb_wn
          have hnx := rst_next H.out.2.2.2.1 HO.out.1 (by have := HK.out; omega) (b := b) (by have := HK.out; omega) (fun q hq hne => by
            have := HB.out q (by have := HK.out; omega) hne
            unfold bef at this ⊢
            rw [map_nth hbj, map_nth (i := q) (by have := HK.out; omega)] at this
            exact this)
          obtain ⟨v, hv⟩ : ∃ v, fl ls a b + ind T b = v := ⟨_, rfl⟩
          have e0 := on.cells (map_at (f := fun i => fl ls a i + ind T i) hbj)
          rw [hv] at e0
          have e1 := rn.cells (map_at (f := rst ls a T) hbj)
          have f0 := on.frozen b
          have f1 := rn.frozen b
          have hvl := fl_low H.out.2.2.1 (i := b) (by have := HK.out; omega)
          have hil := ind_low T b
          have v0 : -10000001 ≤ v := by omega
          have v1 : v ≤ 10000001 := by omega
          have hgon : go < wn.heap.size := by omega
          have hgrn : gr < wn.heap.size := by omega
          have hne' : ¬ go = gr := hne
          have hbj' : (b : Int) < (j : Int) := by omega
          have HX := Lib.hid (And.intro hnx (And.intro on (And.intro rn (And.intro (HO.out.2.2.2.trans (hb_wn.mono hbs)) hv))))
          clear hnx on rn hv hvl hil hb_wn HO HB c5
          go_wp2_with fail
          go_roundw
          case rel =>
            obtain ⟨⟨hn, hT⟩, on, rn, hbn, hv⟩ := HX.out
            refine ⟨t + 1, _, by omega, by go_num, by rw [Int.natCast_add]; exact hT, ?_, ?_, ?_⟩
            · have := (on.set b (v + 1) (by simpa using hbj)).setOther (a := ⟨gr, b, none⟩) hne (.int .i64 (-1))
              rw [← hv, ← HK.out, inc_set (by have := HK.out; omega) hn, HK.out] at this
              rw [← hv]; exact this
            · have := (rn.setOther (a := ⟨go, b, none⟩) (Ne.symm hne) (.int .i64 (v + 1))).set b (-1) (by simpa using hbj)
              rw [← HK.out, rst_set (by have := HK.out; omega), HK.out] at this
              exact this
            · exact Below.setCell (Below.setCell hbn (show w.heap.size ≤ (⟨go, b, none⟩ : Addr).block from hgo) _) (show w.heap.size ≤ (⟨gr, b, none⟩ : Addr).block from hgr) _
          case measure => simp [intOf]; omega
        · have e : (t : Int) = M := by omega
          have hlt0 : ¬ (0 : Int) < M - t := by omega
          go_wp2_with fail
          have hsh : (List.range j).map (fun i => fl ls a i + ind T i) = shr ls a := by
            unfold shr
            rw [HK.out]
            exact map_eq (fun i _ => sh_of H.out.2.2.2.1 (by have := HO.out.1; rw [e, ← HS.out.2] at this; exact this) i)
          exact bodyPost_ret (v := .tuple #[.slice (some ⟨go, 0, none⟩) j co, .bool true]) (by simp [results, Try.results97, go_sem]) rfl ⟨go, co, rfl, hgo, by rw [← hsh]; exact HO.out.2.1, HO.out.2.2.2⟩
theorem sShareOf_no (k c : Nat) (p : Option Addr) (ls : List Int) (a : Int) (w : World) (h : Ints w p ls) (hk : ls.length = k) (hl : k ≤ 4000000000000000000) (ha : amtOk ls a = false) :
    Calls Try.prog 97 #[.slice p k c, .int .i64 a] w fun e w' => (∃ g, e = .returned (.tuple #[.slice (some ⟨g, 0, none⟩) 0 0, .bool false])) ∧ Below w.heap.size w w' := by
  have c1 := fun w h => Lib.hid (sOk k c p ls a false w h hk hl ha)
  have H := Lib.hid h
  clear h hk ha
  go_enter Try.func97, Try.ntmps97
  go_wp2_with (go_at_call 121; (with_reducible refine ((c1 _ ?_).out).mono ?_); (focus (exact H.out.alloc _; done)); rintro e w' ⟨rfl, rfl⟩)
  refine bodyPost_ret (v := .tuple #[.slice (some ⟨w.heap.size, 0, none⟩) 0 0, .bool false]) (by simp [results, Try.results97, go_sem]) rfl ⟨⟨_, rfl⟩, (by repeat (first | assumption | exact Below.refl _ _ | (refine below_chain ?_ (by assumption) (by first | omega | (simp <;> omega) | simp)) | (refine Below.alloc ?_ (by first | omega | (simp <;> omega) | simp) _) | (apply below_drewN) | (apply below_drew) | (refine Below.setCell ?_ (by first | omega | (simp <;> omega) | simp) _)))⟩
end Go.Proofs.Ytgncjpakclbegaa
namespace Go.Proofs.Ytgncjpakclbegaa
open Go.RowKit
set_option linter.unusedVariables false

theorem mem_nth {l : List Int} {x : Int} (h : x ∈ l) : ∃ i, i < l.length ∧ nth l i = x := by
  obtain ⟨i, hi⟩ := List.getElem?_of_mem h
  exact ⟨i, (List.getElem?_eq_some_iff.1 hi).1, nth_at hi⟩
theorem okS_no {ls xs : List Int} {a : Int} (h : ¬ (amtOk ls a = true ∧ rngOk ls xs ∧ (∀ i, i < ls.length → far1 ls a xs i < tot ls) ∧ tot xs = a)) : okS ls a xs = false := by
  cases e : okS ls a xs with
  | false => rfl
  | true => exact absurd (okS_true.1 e) h
theorem far_prod {ls : List Int} {a y z : Int} (h : amtOk ls a = true) (hz : z ∈ ls) (y0 : -20000000 ≤ y) (y1 : y ≤ 20000000) : (-4000000000000 ≤ y * tot ls ∧ y * tot ls ≤ 4000000000000) ∧ (-100000000000 ≤ a * z ∧ a * z ≤ 100000000000) := by
  have hl := (amtOk_true.1 h).1
  have hp := pos_of hl
  have hm := tot_most hl
  refine ⟨⟨?_, ?_⟩, prod_low h hz⟩
  · have u2 := Int.le_trans (Int.mul_le_mul_of_nonneg_right (show -y ≤ 20000000 by omega) (show 0 ≤ tot ls by omega)) (Int.mul_le_mul_of_nonneg_left hm (by omega : (0 : Int) ≤ 20000000))
    rw [Int.neg_mul] at u2; omega
  · have u1 := Int.le_trans (Int.mul_le_mul_of_nonneg_right y1 (show 0 ≤ tot ls by omega)) (Int.mul_le_mul_of_nonneg_left hm (by omega : (0 : Int) ≤ 20000000))
    omega
theorem own_drew {w : World} {g : Nat} {T : TypeId} {sz n cap : Nat} {xs : List Int} (h : Own w g T sz n cap xs) : Own w.drew g T sz n cap xs := h
theorem below_dr {B : Nat} {a w : World} (h : Below B a w) : Below B a w.drew := ⟨h.os, h.tape, h.output, h.size, h.block⟩
theorem one_cell_drew (w : World) (z : Int) (t : TypeId) : ∀ (j : Nat) (y : Int), [z][j]? = some y → (w.alloc (.cells #[.int .i64 z] t)).drew.cell? ((⟨w.heap.size, 0, none⟩ : Addr).add j) = some (.int .i64 y) := one_cell w z t
theorem ints_same' {w W : World} {p : Option Addr} {zs : List Int} (h : Ints w p zs) (hc : ∀ b o, W.cell? ⟨b, o, none⟩ = w.cell? ⟨b, o, none⟩) (hs : W.heap.size = w.heap.size) : Ints W p zs := by
  rcases h with rfl | ⟨B, o, rfl, hB, hx⟩
  · exact .inl rfl
  · exact .inr ⟨B, o, rfl, by omega, fun i z hi => (hc _ _).trans (hx i z hi)⟩
theorem farS_val {ls xs : List Int} {a v : Int} (h : amtOk ls a = true) (hr : rngOk ls xs) (hv : farL ls a xs = v) : farS ls a xs = v := by rw [farS_yes h hr, hv]
/-- lengths, and as many rises -/
def risOk (ls ss : List Int) : Prop := lenOk ls = true ∧ ss.length = ls.length ∧ ∀ x ∈ ss, -100000 ≤ x ∧ x ≤ 100000
theorem risOk.amt {ls ss : List Int} (h : risOk ls ss) : (-2000000 ≤ tot ss ∧ tot ss ≤ 2000000) ∧ amtOk ls (-tot ss) = true := by
  have h1 := tot_le (l := ss) (c := 100000) (fun z hz => (h.2.2 z hz).2)
  have h2 := tot_ge (l := ss) (c := -100000) (fun z hz => (h.2.2 z hz).1)
  have h3 := (lenOk_true.1 h.1).2.1
  have h4 := h.2.1
  refine ⟨by omega, amtOk_true.2 ⟨h.1, by omega, by omega⟩⟩
end Go.Proofs.Ytgncjpakclbegaa
