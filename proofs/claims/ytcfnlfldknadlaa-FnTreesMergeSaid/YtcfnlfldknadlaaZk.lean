/-
  The reference model's NetWithout.
  The reference model's NetMerge.
-/
import Derived.Test.YtcfnlfldknadlaaZj
import Derived.Test.YtcfnlfldknadlaaZf
import Derived.Test.YtcfnlfldknadlaaZa
import Derived.Test.YtcfnlfldknadlaaZi
namespace Go.Proofs.Ytcfnlfldknadlaa
open Go.RowKit
set_option linter.unusedVariables false

theorem flat_takeC {rs : List Rn} (k : Nat) {j : Nat} {z : Int} (h : (flat (rs.take k))[j]? = some z) : (flat rs)[j]? = some z := by
  have e : flat rs = flat (rs.take k) ++ flat (rs.drop k) := by rw [← flat_append, List.take_append_drop]
  rw [e, List.getElem?_append_left (List.getElem?_eq_some_iff.1 h).1]; exact h
theorem flat_dropC {rs : List Rn} {k : Nat} (hk : k ≤ rs.length) {j : Nat} {z : Int} (h : (flat (rs.drop k))[j]? = some z) : (flat rs)[k * 4 + j]? = some z := by
  have e : flat rs = flat (rs.take k) ++ flat (rs.drop k) := by rw [← flat_append, List.take_append_drop]
  have hl : (flat (rs.take k)).length = k * 4 := by rw [flat_len, List.length_take]; omega
  rw [e, List.getElem?_append_right (by omega), hl, Nat.add_sub_cancel_left]; exact h
theorem runs_cellsT {w : World} {B o : Nat} {rs : List Rn} (k : Nat) (h : Runs w (some ⟨B, o, none⟩) rs) : ∀ (j : Nat) (z : Int), (flat (rs.take k))[j]? = some z → w.cell? ((⟨B, o, none⟩ : Addr).add j) = some (.int .i64 z) :=
  fun j z hz => runs_cells h j z (flat_takeC k hz)
theorem runs_cellsD {w : World} {B o : Nat} {rs : List Rn} {k : Nat} (hk : k ≤ rs.length) (h : Runs w (some ⟨B, o, none⟩) rs) : ∀ (j : Nat) (z : Int), (flat (rs.drop k))[j]? = some z → w.cell? ((⟨B, o + k * 4, none⟩ : Addr).add j) = some (.int .i64 z) := fun j z hz => by
  have := runs_cells h _ z (flat_dropC hk hz)
  rw [add_flat] at this
  rw [add_flat, Nat.add_assoc]; exact this
set_option maxHeartbeats 4000000 in
set_option maxRecDepth 100000 in
theorem sWithoutR_yes (n : Int) (p : Option Addr) (c m : Nat) (rs : List Rn) (k : Nat) (w : World) (h : Runs w p rs) (hn : nOk n rs = true) (hm : rs.length = m) (hk : k < m) (hmc : m ≤ c) :
    Calls Try.prog 40 #[.int .i64 n, .slice p m c, .int .i64 k] w fun e w' => ∃ v, e = .returned (.tuple #[v, .bool true]) ∧ NewRuns w (rs.eraseIdx k) v w' := by
  have hl12 : m ≤ 12 := by rw [← hm]; exact (nOk_true hn).2.2.1
  have c1 := fun w h => Lib.hid (sValid n p c rs true w h (by omega) hn)
  rw [hm] at c1
  have c2 := fun w => Lib.hid (nIn k 0 (m - 1) true w (by simp; omega))
  obtain ⟨B, o, rfl⟩ : ∃ B o, p = some ⟨B, o, none⟩ := by
    obtain ⟨B, o, _, e, _⟩ := h.at (i := k) (by omega)
    exact ⟨B, o, e⟩
  have hBw := h.lt (by intro e; rw [e] at hm; simp at hm; omega)
  have hjl : (k : Int) < (m : Int) := by omega
  have hTl : (flat (rs.take k)).length = k * 4 := by rw [flat_len, List.length_take]; omega
  have hDl : (flat (rs.drop (k + 1))).length = (m - (k + 1)) * 4 := by rw [flat_len, List.length_drop, hm]
  have hEl : (rs.eraseIdx k).length = m - 1 := by rw [List.length_eraseIdx, if_pos (by omega), hm]
  have hEf : flat (rs.take k) ++ flat (rs.drop (k + 1)) = flat (rs.eraseIdx k) := by rw [← flat_append, List.eraseIdx_eq_take_drop_succ]
  have hsum : k + (m - (k + 1)) = m - 1 := by omega
  have H := Lib.hid (And.intro h hm)
  clear h hn
  have hki' : (k : Int) + 1 ≤ (m : Int) := by omega
  have hkc : (k : Int) ≤ (c : Int) := by omega
  have hcs : c = k + 1 ∨ ¬ c = k + 1 := Classical.em _
  rcases hcs with hc | hc
  · obtain rfl : m = c := by omega
    have hk1 : k + 1 = m := by omega
    have hki : (k : Int) + 1 = (m : Int) := by omega
    have qw : IntKind.i64.wrap (m : Int) = (m : Int) := by rw [IntKind.wrap_i64]; omega
    have hm0 : (0 : Int) ≤ (m : Int) := by omega
    clear hm hc
    go_enter Try.func40, Try.ntmps40
    go_upto_region 3 with (first | (go_at_call 57; (with_reducible refine ((c1 _ ?_).out).mono ?_); (focus ((exact H.out.1); done)); rintro e wa ⟨rfl, hb_wa⟩; have hs_wa := hb_wa.size; (try simp at hs_wa)) | (go_at_call 68; (with_reducible refine ((c2 _).out).mono ?_); rintro e w' ⟨rfl, rfl⟩))
    have HB := Lib.hid hb_wa
    clear hb_wa
    have hwa := HB.out.size
    go_region_law (first
      | ((refine step_app0 _ (by rfl) _ _ _ (by rfl) 35 _ 4 32 Try.underlying23 info_run rfl (by decide) (by decide) _ 0 0 [] (by rfl) (Own.dr (Own.empty wa _ 4)) ⟨B, o, none⟩ k m (flat (rs.take k)) (by rfl) hTl (runs_cellsT k (Runs.dr ((H.out.1.below HB.out).alloc (.cells #[] 35)))) (by omega) ?_; intro g1 d1 w1 hown1 hg1 hloc1 hlt1; have HN1 := Lib.hid (And.intro hown1 (And.intro hg1 (And.intro hloc1 (H.out.1.below (HB.out.trans ((below_gr (below_drew ((Below.refl wa.heap.size wa).alloc (Nat.le_refl _) (.cells #[] 35))) hg1 (Nat.le_refl _) (show wa.heap.size ≤ (wa.alloc (.cells #[] 35)).heap.size by simp)).mono hwa)))))); clear hown1 hg1 hloc1; simp only [Nat.zero_add]))
      | ((refine step_app0 _ (by rfl) _ _ _ (by rfl) 35 _ 4 32 Try.underlying23 info_run rfl (by decide) (by decide) g1 k d1 (flat (rs.take k)) (by rfl) (by have := HN1.out.1; rw [Nat.zero_add, List.nil_append] at this; exact this) ⟨B, o, none⟩ 0 0 [] (by rfl) rfl (fun j z hz => by simp at hz) (by omega) ?_; intro g2 d2 w2 hown2 hg2 hloc2 hlt2; have HN2 := Lib.hid (And.intro hown2 (And.intro hg2 hloc2)); clear hown2 hg2 hloc2)))
    have hg1l : wa.heap.size ≤ g1 := by
      rcases HN1.out.2.2.1 with e | e
      · omega
      · rw [e]; show wa.heap.size ≤ (wa.alloc (.cells #[] 35)).heap.size; simp
    have hB1 : Below w.heap.size w w1 := HB.out.trans ((below_gr (below_drew ((Below.refl wa.heap.size wa).alloc (Nat.le_refl _) (.cells #[] 35))) HN1.out.2.1 (Nat.le_refl _) (show wa.heap.size ≤ (wa.alloc (.cells #[] 35)).heap.size by simp)).mono hwa)
    have hg2l : w.heap.size ≤ g2 := by
      have := hB1.size
      rcases HN2.out.2.2 with e | e <;> omega
    have hB2 : Below w.heap.size w w2 := below_gr hB1 HN2.out.2.1 (by omega) hB1.size
    have hO := HN2.out.1
    have hd : rs.drop (k + 1) = [] := List.drop_eq_nil_of_le (by rw [H.out.2]; omega)
    rw [hd] at hEf
    rw [show ([] : List Int) = flat [] from rfl, hEf, Nat.add_zero] at hO
    have hEk : (rs.eraseIdx k).length = k := by omega
    clear HN1 HN2
    go_wp2_with fail
    refine bodyPost_ret (v := .tuple #[.slice (some ⟨g2, 0, none⟩) k d2, .bool true]) (by simp [results, Try.results40, go_sem]) rfl ⟨_, rfl, g2, d2, by rw [hEk], hg2l, by rw [hEk]; exact hO, hB2⟩
  · have qw : IntKind.i64.wrap ((k : Int) + 1) = (k : Int) + 1 := by rw [IntKind.wrap_i64]; omega
    have hk0 : (0 : Int) ≤ (k : Int) + 1 := by omega
    clear hm
    go_enter Try.func40, Try.ntmps40
    go_upto_region 3 with (first | (go_at_call 57; (with_reducible refine ((c1 _ ?_).out).mono ?_); (focus ((exact H.out.1); done)); rintro e wa ⟨rfl, hb_wa⟩; have hs_wa := hb_wa.size; (try simp at hs_wa)) | (go_at_call 68; (with_reducible refine ((c2 _).out).mono ?_); rintro e w' ⟨rfl, rfl⟩))
    have HB := Lib.hid hb_wa
    clear hb_wa
    have hwa := HB.out.size
    go_region_law (first
      | ((refine step_app0 _ (by rfl) _ _ _ (by rfl) 35 _ 4 32 Try.underlying23 info_run rfl (by decide) (by decide) _ 0 0 [] (by rfl) (Own.dr (Own.empty wa _ 4)) ⟨B, o, none⟩ k c (flat (rs.take k)) (by rfl) hTl (runs_cellsT k (Runs.dr ((H.out.1.below HB.out).alloc (.cells #[] 35)))) (by omega) ?_; intro g1 d1 w1 hown1 hg1 hloc1 hlt1; have HN1 := Lib.hid (And.intro hown1 (And.intro hg1 (And.intro hloc1 (H.out.1.below (HB.out.trans ((below_gr (below_drew ((Below.refl wa.heap.size wa).alloc (Nat.le_refl _) (.cells #[] 35))) hg1 (Nat.le_refl _) (show wa.heap.size ≤ (wa.alloc (.cells #[] 35)).heap.size by simp)).mono hwa)))))); clear hown1 hg1 hloc1; simp only [Nat.zero_add]))
      | ((refine step_app0 _ (by rfl) _ _ _ (by rfl) 35 _ 4 32 Try.underlying23 info_run rfl (by decide) (by decide) g1 k d1 (flat (rs.take k)) (by rfl) (by have := HN1.out.1; rw [Nat.zero_add, List.nil_append] at this; exact this) ⟨B, o + (k + 1) * 4, none⟩ (m - (k + 1)) (c - (k + 1)) (flat (rs.drop (k + 1))) (by rfl) hDl (runs_cellsD (by rw [H.out.2]; omega) HN1.out.2.2.2) (by omega) ?_; intro g2 d2 w2 hown2 hg2 hloc2 hlt2; have HN2 := Lib.hid (And.intro hown2 (And.intro hg2 hloc2)); clear hown2 hg2 hloc2)))
    have hg1l : wa.heap.size ≤ g1 := by
      rcases HN1.out.2.2.1 with e | e
      · omega
      · rw [e]; show wa.heap.size ≤ (wa.alloc (.cells #[] 35)).heap.size; simp
    have hB1 : Below w.heap.size w w1 := HB.out.trans ((below_gr (below_drew ((Below.refl wa.heap.size wa).alloc (Nat.le_refl _) (.cells #[] 35))) HN1.out.2.1 (Nat.le_refl _) (show wa.heap.size ≤ (wa.alloc (.cells #[] 35)).heap.size by simp)).mono hwa)
    have hg2l : w.heap.size ≤ g2 := by
      have := hB1.size
      rcases HN2.out.2.2 with e | e <;> omega
    have hB2 : Below w.heap.size w w2 := below_gr hB1 HN2.out.2.1 (by omega) hB1.size
    have hO := HN2.out.1
    rw [hEf, hsum] at hO
    clear HN1 HN2
    go_wp2_with fail
    refine bodyPost_ret (v := .tuple #[.slice (some ⟨g2, 0, none⟩) (m - 1) d2, .bool true]) (by simp [results, Try.results40, go_sem]) rfl ⟨_, rfl, g2, d2, by rw [hEl], hg2l, by rw [hEl]; exact hO, hB2⟩
theorem sWithoutR_no (n k : Int) (p : Option Addr) (c m : Nat) (rs : List Rn) (w : World) (h : Runs w p rs) (hm : rs.length = m) (hl : m ≤ 4000000000000000000) (hno : ¬ (nOk n rs = true ∧ 0 ≤ k ∧ k < m)) :
    Calls Try.prog 40 #[.int .i64 n, .slice p m c, .int .i64 k] w fun e w' => (∃ q, e = .returned (.tuple #[.slice q 0 0, .bool false])) ∧ Below w.heap.size w w' := by
  have H := Lib.hid h
  cases hn : nOk n rs
  · have c1 := fun w h => Lib.hid (sValid n p c rs false w h (by omega) hn)
    rw [hm] at c1
    clear h hm hno hn
    go_enter Try.func40, Try.ntmps40
    go_wp2_with ((go_at_call 57; (with_reducible refine ((c1 _ ?_).out).mono ?_); (focus ((exact H.out); done)); rintro e wa ⟨rfl, hb_wa⟩; have hs_wa := hb_wa.size; (try simp at hs_wa)))
    refine bodyPost_ret (v := .tuple #[.slice (some ⟨wa.heap.size, 0, none⟩) 0 0, .bool false]) (by simp [results, Try.results40, go_sem]) rfl ⟨⟨_, rfl⟩, (by repeat (first | assumption | exact Below.refl _ _ | (refine below_chain ?_ (by assumption) (by first | omega | (simp <;> omega) | simp)) | (refine Below.alloc ?_ (by first | omega | (simp <;> omega) | simp) _) | (apply below_drewN) | (apply below_drew) | (refine Below.setCell ?_ (by first | omega | (simp <;> omega) | simp) _)))⟩
  · have c1 := fun w h => Lib.hid (sValid n p c rs true w h (by omega) hn)
    rw [hm] at c1
    have c2 := fun w => Lib.hid (nIn k 0 (m - 1) false w (decide_eq_false (fun hc => hno ⟨hn, by omega, by omega⟩)))
    clear h hm hno hn
    go_enter Try.func40, Try.ntmps40
    go_wp2_with (first | (go_at_call 57; (with_reducible refine ((c1 _ ?_).out).mono ?_); (focus ((exact H.out); done)); rintro e wa ⟨rfl, hb_wa⟩; have hs_wa := hb_wa.size; (try simp at hs_wa)) | (go_at_call 68; (with_reducible refine ((c2 _).out).mono ?_); rintro e w' ⟨rfl, rfl⟩))
    refine bodyPost_ret (v := .tuple #[.slice (some ⟨wa.heap.size, 0, none⟩) 0 0, .bool false]) (by simp [results, Try.results40, go_sem]) rfl ⟨⟨_, rfl⟩, (by repeat (first | assumption | exact Below.refl _ _ | (refine below_chain ?_ (by assumption) (by first | omega | (simp <;> omega) | simp)) | (refine Below.alloc ?_ (by first | omega | (simp <;> omega) | simp) _) | (apply below_drewN) | (apply below_drew) | (refine Below.setCell ?_ (by first | omega | (simp <;> omega) | simp) _)))⟩
theorem sSource_no (n : Int) (p : Option Addr) (c m : Nat) (rs : List Rn) (w : World) (h : Runs w p rs) (hm : rs.length = m) (hl : m ≤ 4000000000000000000) (hn : nOk n rs = false) :
    Calls Try.prog 36 #[.int .i64 n, .slice p m c] w fun e w' => (∃ q, e = .returned (.tuple #[.slice q 0 0, .bool false])) ∧ Below w.heap.size w w' := by
  have c1 := fun w h => Lib.hid (sValid n p c rs false w h (by omega) hn)
  rw [hm] at c1
  have H := Lib.hid h
  clear h hm hn
  go_enter Try.func36, Try.ntmps36
  go_wp2_with ((go_at_call 57; (with_reducible refine ((c1 _ ?_).out).mono ?_); (focus ((exact H.out); done)); rintro e wa ⟨rfl, hb_wa⟩; have hs_wa := hb_wa.size; (try simp at hs_wa)))
  refine bodyPost_ret (v := .tuple #[.slice (some ⟨wa.heap.size, 0, none⟩) 0 0, .bool false]) (by simp [results, Try.results36, go_sem]) rfl ⟨⟨_, rfl⟩, (by repeat (first | assumption | exact Below.refl _ _ | (refine below_chain ?_ (by assumption) (by first | omega | (simp <;> omega) | simp)) | (refine Below.alloc ?_ (by first | omega | (simp <;> omega) | simp) _) | (apply below_drewN) | (apply below_drew) | (refine Below.setCell ?_ (by first | omega | (simp <;> omega) | simp) _)))⟩
end Go.Proofs.Ytcfnlfldknadlaa
namespace Go.Proofs.Ytcfnlfldknadlaa
open Go.RowKit
set_option linter.unusedVariables false

theorem nNumber (i lo hi : Int) (w : World) (h1 : -1000 ≤ i) (h2 : i ≤ 1000) :
    Calls Try.prog 69 #[.int .i64 i, .int .i64 lo, .int .i64 hi] w fun e w' => e = .returned (.int .i64 (num2 lo hi i)) ∧ w = w' := by
  unfold num2
  by_cases e : i = hi
  · rw [if_pos e]
    subst e
    go_enter Try.func69, Try.ntmps69
    go_wp2_with fail
    go_ret
    exact ⟨rfl, rfl⟩
  · rw [if_neg e]
    by_cases h : hi < i
    · rw [if_pos h]
      go_enter Try.func69, Try.ntmps69
      go_wp2_with fail
      go_ret
      exact ⟨rfl, rfl⟩
    · rw [if_neg h]
      go_enter Try.func69, Try.ntmps69
      go_wp2_with fail
      go_ret
      exact ⟨rfl, rfl⟩
theorem mrg_take {rs : List Rn} {j : Nat} {r : Rn} (h : rs[j]? = some r) (lo hi : Int) : mrg lo hi (rs.take (j + 1)) = mrg lo hi (rs.take j) ++ (if (mv lo hi r).f = (mv lo hi r).t then [] else [mv lo hi r]) := by
  rw [List.take_add_one, h]
  show mrg lo hi (rs.take j ++ [r]) = _
  rw [mrg_append]
  congr 1
  unfold mrg
  by_cases e : (mv lo hi r).f = (mv lo hi r).t
  · rw [if_pos e]; simp [e]
  · rw [if_neg e]; simp [e]
theorem cells4_new (w : World) (a b c d : Int) (T : TypeId) : ∀ (j : Nat) (z : Int), [a, b, c, d][j]? = some z → (w.alloc (.cells #[.int .i64 a, .int .i64 b, .int .i64 c, .int .i64 d] T)).cell? ((⟨w.heap.size, 0, none⟩ : Addr).add j) = some (.int .i64 z) := by
  intro j z h
  rw [add_flat]
  match j, h with
  | 0, h => simp at h; subst h; simp [go_sem]
  | 1, h => simp at h; subst h; simp [go_sem]
  | 2, h => simp at h; subst h; simp [go_sem]
  | 3, h => simp at h; subst h; simp [go_sem]
  | j + 4, h => simp at h
set_option maxHeartbeats 4000000 in
set_option maxRecDepth 100000 in
theorem sMerge_yes (N n : Nat) (p : Option Addr) (c m : Nat) (rs : List Rn) (k : Nat) (r : Rn) (lo hi : Int) (w : World) (h : Runs w p rs) (hn : nOk (N : Int) rs = true) (hN3 : 3 ≤ N) (hNn : N = n + 1) (hm : rs.length = m) (hr : rs[k]? = some r) (hlh : lo < hi) (he : Ends2 r lo hi) :
    Calls Try.prog 27 #[.int .i64 N, .slice p m c, .int .i64 k] w fun e w' => ∃ v, e = .returned (.tuple #[.int .i64 n, v, .bool true]) ∧ NewRuns w (mrg lo hi rs) v w' := by
  have hk : k < m := by rw [← hm]; exact (List.getElem?_eq_some_iff.1 hr).1
  have hl12 : m ≤ 12 := by rw [← hm]; exact (nOk_true hn).2.2.1
  have hN6 : (N : Int) ≤ 6 := (nOk_true hn).2.1
  have hN6' : N ≤ 6 := by omega
  have c1 := fun w h => Lib.hid (sValid N p c rs true w h (by omega) hn)
  rw [hm] at c1
  have c2 := fun w => Lib.hid (nIn k 0 (m - 1) true w (by simp; omega))
  have hNi : (N : Int) - 1 = (n : Int) := by omega
  have hN3' : ¬ (N : Int) < 3 := by omega
  obtain ⟨B, o, r', rfl, hr', hB, e1, e2, e3, e4⟩ := h.at (i := k) (by omega)
  obtain rfl : r = r' := by rw [hr] at hr'; cases hr'; rfl
  have hjl : (k : Int) < (m : Int) := by omega
  have hro := rOk_true ((nOk_true hn).2.2.2 k r hr)
  have H := Lib.hid (And.intro h (And.intro hn hm))
  have hmin : (if r.t < r.f then r.t else r.f) = lo := by rcases he with ⟨a, b⟩ | ⟨a, b⟩ <;> split <;> omega
  have hmax : (if r.f < r.t then r.t else r.f) = hi := by rcases he with ⟨a, b⟩ | ⟨a, b⟩ <;> split <;> omega
  have hlo : 0 ≤ lo := by rcases he with ⟨a, b⟩ | ⟨a, b⟩ <;> omega
  have hhi : hi < (N : Int) := by rcases he with ⟨a, b⟩ | ⟨a, b⟩ <;> omega
  clear h hn hm hr hr' hNn he
  go_enter Try.func27, Try.ntmps27
  go_upto_region 3 with (first | (go_at_call 57; (with_reducible refine ((c1 _ ?_).out).mono ?_); (focus ((exact H.out.1); done)); rintro e wa ⟨rfl, hb_wa⟩; have hs_wa := hb_wa.size; (try simp at hs_wa)) | (go_at_call 68; (with_reducible refine ((c2 _).out).mono ?_); rintro e w' ⟨rfl, rfl⟩))
  have d1 := cell_below_keep hb_wa e1
  have d2 := cell_below_keep hb_wa e2
  go_region
  go_upto_region 4 with fail
  go_region
  go_upto_region 5 with fail
  have hd3 : decide ((N : Int) < 3) = false := by simpa using hN3'
  rw [hd3]
  have hB2 : Below w.heap.size w (wa.drew.drew) := below_drew (below_drew hb_wa)
  obtain ⟨wb, hwb⟩ : ∃ wb, wb = wa.drew.drew := ⟨_, rfl⟩
  rw [← hwb] at hB2 ⊢
  have hRb : Hid (Runs wb (some ⟨B, o, none⟩) rs) := Lib.hid (H.out.1.below hB2)
  have HBb := Lib.hid hB2
  have hswb := hB2.size
  have HE := Lib.hid (Own.empty wb 35 4)
  clear hwb d1 d2 hb_wa hB2 c1 c2 hN3'
  go_wp2_with fail
  go_loopw [11, 12] (fun v i wr => ∃ (j g cap : Nat), j ≤ m ∧ i = .int .i64 j ∧ v = .slice (some ⟨g, 0, none⟩) (mrg lo hi (rs.take j)).length cap ∧ w.heap.size ≤ g ∧ Own wr g 35 4 (mrg lo hi (rs.take j)).length cap (flat (mrg lo hi (rs.take j))) ∧ Below w.heap.size w wr) (fun _ i _ => m - (intOf i).toNat)
  case atStart => exact ⟨0, wb.heap.size, 0, Nat.zero_le _, rfl, rfl, hswb, HE.out, HBb.out.alloc hswb _⟩
  case round =>
    clear HE hRb HBb
    rename World => wr
    obtain ⟨j, g, cap, hj, rfl, rfl, hgl, ho, hb⟩ := hrel
    have hlo' := ho.lt
    have hbs := hb.size
    have hq12 : (mrg lo hi (rs.take j)).length ≤ 12 := by
      refine Nat.le_trans (List.length_filter_le _ _) ?_
      rw [List.length_map, List.length_take, H.out.2.2]; omega
    obtain ⟨q, hq⟩ : ∃ q, (mrg lo hi (rs.take j)).length = q := ⟨_, rfl⟩
    rw [hq] at ho hq12 ⊢
    by_cases hlt : j < m
    · have hlt' : (j : Int) < (m : Int) := by omega
      obtain ⟨B', o', x, heq, hx, hB', x1, x2, x3, x4⟩ := (H.out.1.below hb).at (i := j) (by rw [H.out.2.2]; exact hlt)
      cases heq
      have hxo := rOk_true ((nOk_true H.out.2.1).2.2.2 j x hx)
      have c3 := fun w => Lib.hid (nNumber x.f lo hi w (by omega) (by omega))
      have c4 := fun w => Lib.hid (nNumber x.t lo hi w (by omega) (by omega))
      have hmt := mrg_take hx lo hi
      obtain ⟨a, ha⟩ : ∃ a, num2 lo hi x.f = a := ⟨_, rfl⟩
      obtain ⟨b, hb'⟩ : ∃ b, num2 lo hi x.t = b := ⟨_, rfl⟩
      rw [ha] at c3
      rw [hb'] at c4
      have hmv : mv lo hi x = ⟨a, b, x.s, x.g⟩ := by unfold mv; rw [ha, hb']
      rw [hmv] at hmt
      dsimp only at hmt
      clear ha hb' hmv hx
      by_cases hab : a = b
      · subst hab
        rw [if_pos rfl, List.append_nil] at hmt
        have hq2 : (mrg lo hi (rs.take (j + 1))).length = q := by rw [hmt]; exact hq
        have HX2 := Lib.hid (And.intro ho (And.intro hb (And.intro hq2 hmt)))
        clear ho hb hq hmt hq2
        go_wp2_with (first | (go_at_call 69; (with_reducible refine ((c3 _).out).mono ?_); rintro e w' ⟨rfl, rfl⟩) | (go_at_call 69; (with_reducible refine ((c4 _).out).mono ?_); rintro e w' ⟨rfl, rfl⟩))
        exact ⟨⟨j + 1, g, cap, by omega, by go_num, by rw [HX2.out.2.2.1], hgl, by rw [HX2.out.2.2.1, HX2.out.2.2.2]; exact HX2.out.1.alloc _, HX2.out.2.1.alloc hbs _⟩, by simp [intOf]; omega⟩
      · have hab' : (a != b) = true := by simpa using hab
        rw [if_neg hab] at hmt
        have hq2 : (mrg lo hi (rs.take (j + 1))).length = q + 1 := by rw [hmt, List.length_append, hq]; rfl
        have HX2 := Lib.hid (And.intro ho (And.intro hb (And.intro hq2 hmt)))
        clear ho hb hq hmt hq2
        go_wp2_with (first | (go_at_call 69; (with_reducible refine ((c3 _).out).mono ?_); rintro e w' ⟨rfl, rfl⟩) | (go_at_call 69; (with_reducible refine ((c4 _).out).mono ?_); rintro e w' ⟨rfl, rfl⟩) | (at_builtin; refine wp_append _ rfl _ _ 23 rfl 35 _ 4 32 Try.underlying23 info_run rfl (by decide) (by decide) g q cap _ rfl ((HX2.out.1.alloc _).alloc _) _ 1 1 [a, b, x.s, x.g] rfl rfl (by have := cells4_new (wr.alloc (.cells #[.int .i64 a, .int .i64 b, .int .i64 x.s, .int .i64 x.g] 35)) a b x.s x.g 35; simpa using this) (by omega) ?_; intro g1 d1 w1 hown hg1 hloc hsz1; have HN := Lib.hid (And.intro hown (And.intro hg1 hloc)); clear hown hg1 hloc))
        obtain ⟨hown, hg1, hloc⟩ := HN.out
        have hg1l : w.heap.size ≤ g1 := by
          rcases hloc with e | e
          · omega
          · simp at e; omega
        have hf : flat (mrg lo hi (rs.take j)) ++ [a, b, x.s, x.g] = flat (mrg lo hi (rs.take (j + 1))) := by rw [HX2.out.2.2.2, flat_append]; rfl
        rw [hf] at hown
        exact ⟨⟨j + 1, g1, d1, by omega, by go_num, by rw [HX2.out.2.2.1], hg1l, by rw [HX2.out.2.2.1]; exact hown, below_gr ((HX2.out.2.1.alloc hbs _).alloc (by simp; omega) _) hg1 hgl (by simp; omega)⟩, by simp [intOf]; omega⟩
    · have e : j = m := by omega
      subst e
      rw [List.take_of_length_le (by rw [H.out.2.2]; exact Nat.le_refl _)] at ho hq
      have HX := Lib.hid (And.intro ho (And.intro hb hq))
      clear ho hb hq
      go_wp2_with fail
      refine bodyPost_ret (v := .tuple #[.int .i64 n, .slice (some ⟨g, 0, none⟩) q cap, .bool true]) (by simp [results, Try.results27, go_sem]) rfl ⟨_, rfl, g, cap, by rw [HX.out.2.2], hgl, by rw [HX.out.2.2]; exact HX.out.1, HX.out.2.1⟩
theorem sMerge_no (n k : Int) (p : Option Addr) (c m : Nat) (rs : List Rn) (w : World) (h : Runs w p rs) (hm : rs.length = m) (hl : m ≤ 4000000000000000000) (hno : ¬ (nOk n rs = true ∧ 0 ≤ k ∧ k < m ∧ 3 ≤ n)) :
    Calls Try.prog 27 #[.int .i64 n, .slice p m c, .int .i64 k] w fun e w' => (∃ q, e = .returned (.tuple #[.int .i64 0, .slice q 0 0, .bool false])) ∧ Below w.heap.size w w' := by
  have H := Lib.hid h
  cases hn : nOk n rs
  · have c1 := fun w h => Lib.hid (sValid n p c rs false w h (by omega) hn)
    rw [hm] at c1
    clear h hm hno hn
    go_enter Try.func27, Try.ntmps27
    go_wp2_with ((go_at_call 57; (with_reducible refine ((c1 _ ?_).out).mono ?_); (focus ((exact H.out); done)); rintro e wa ⟨rfl, hb_wa⟩; have hs_wa := hb_wa.size; (try simp at hs_wa)))
    refine bodyPost_ret (v := .tuple #[.int .i64 0, .slice (some ⟨wa.heap.size, 0, none⟩) 0 0, .bool false]) (by simp [results, Try.results27, go_sem]) rfl ⟨⟨_, rfl⟩, (by repeat (first | assumption | exact Below.refl _ _ | (refine below_chain ?_ (by assumption) (by first | omega | (simp <;> omega) | simp)) | (refine Below.alloc ?_ (by first | omega | (simp <;> omega) | simp) _) | (apply below_drewN) | (apply below_drew) | (refine Below.setCell ?_ (by first | omega | (simp <;> omega) | simp) _)))⟩
  · have c1 := fun w h => Lib.hid (sValid n p c rs true w h (by omega) hn)
    rw [hm] at c1
    by_cases hk : 0 ≤ k ∧ k < m
    · have c2 := fun w => Lib.hid (nIn k 0 (m - 1) true w (decide_eq_true (by omega)))
      have hn3 : n < 3 := by
        have : ¬ 3 ≤ n := fun e => hno ⟨hn, hk.1, hk.2, e⟩
        omega
      clear h hm hno hn hk
      go_enter Try.func27, Try.ntmps27
      go_wp2_with (first | (go_at_call 57; (with_reducible refine ((c1 _ ?_).out).mono ?_); (focus ((exact H.out); done)); rintro e wa ⟨rfl, hb_wa⟩; have hs_wa := hb_wa.size; (try simp at hs_wa)) | (go_at_call 68; (with_reducible refine ((c2 _).out).mono ?_); rintro e w' ⟨rfl, rfl⟩))
      refine bodyPost_ret (v := .tuple #[.int .i64 0, .slice (some ⟨wa.heap.size, 0, none⟩) 0 0, .bool false]) (by simp [results, Try.results27, go_sem]) rfl ⟨⟨_, rfl⟩, (by repeat (first | assumption | exact Below.refl _ _ | (refine below_chain ?_ (by assumption) (by first | omega | (simp <;> omega) | simp)) | (refine Below.alloc ?_ (by first | omega | (simp <;> omega) | simp) _) | (apply below_drewN) | (apply below_drew) | (refine Below.setCell ?_ (by first | omega | (simp <;> omega) | simp) _)))⟩
    · have c2 := fun w => Lib.hid (nIn k 0 (m - 1) false w (decide_eq_false (fun hc => hk (by omega))))
      clear h hm hno hn hk
      go_enter Try.func27, Try.ntmps27
      go_wp2_with (first | (go_at_call 57; (with_reducible refine ((c1 _ ?_).out).mono ?_); (focus ((exact H.out); done)); rintro e wa ⟨rfl, hb_wa⟩; have hs_wa := hb_wa.size; (try simp at hs_wa)) | (go_at_call 68; (with_reducible refine ((c2 _).out).mono ?_); rintro e w' ⟨rfl, rfl⟩))
      refine bodyPost_ret (v := .tuple #[.int .i64 0, .slice (some ⟨wa.heap.size, 0, none⟩) 0 0, .bool false]) (by simp [results, Try.results27, go_sem]) rfl ⟨⟨_, rfl⟩, (by repeat (first | assumption | exact Below.refl _ _ | (refine below_chain ?_ (by assumption) (by first | omega | (simp <;> omega) | simp)) | (refine Below.alloc ?_ (by first | omega | (simp <;> omega) | simp) _) | (apply below_drewN) | (apply below_drew) | (refine Below.setCell ?_ (by first | omega | (simp <;> omega) | simp) _)))⟩
end Go.Proofs.Ytcfnlfldknadlaa
