/-
  The reference model's NetWithout.
  The reference model's NetMerge.
-/
import Derived.Test.YtenllemaccacgaaZj
import Derived.Test.YtenllemaccacgaaZf
import Derived.Test.YtenllemaccacgaaZa
import Derived.Test.YtenllemaccacgaaZi
namespace Go.Proofs.Ytenllemaccacgaa
open Go.RowKit
set_option linter.unusedVariables false

theorem flat_takeC {rs : List Rn} (k : Nat) {j : Nat} {z : Int} (h : (flat (rs.take k))[j]? = some z) : (flat rs)[j]? = some z := by
  have e : flat rs = flat (rs.take k) ++ flat (rs.drop k) := by rw [← flat_append, List.take_append_drop]
  rw [e, List.getElem?_append_left (List.getElem?_eq_some_iff.1 h).1]; exact h
theorem flat_dropC {rs : List Rn} {k : Nat} (hk : k ≤ rs.length) {j : Nat} {z : Int} (h : (flat (rs.drop k))[j]? = some z) : (flat rs)[k * 4 + j]? = some z := by
  have e : flat rs = flat (rs.take k) ++ flat (rs.drop k) := by rw [← flat_append, List.take_append_drop]
  have hl : (flat (rs.take k)).length = k * 4 := by rw [flat_len, List.length_take]; omega
  rw [e, List.getElem?_append_right (by omega), hl, Nat.add_sub_cancel_left]; exact h
theorem runs_cellsT {w : World} {B o : Nat} {rs : List Rn} (k : Nat) (h : Runs w (some ⟨B, o, none⟩) rs) : ∀ (j : Nat) (z : Int), (flat (rs.take k))[j]? = some z → w.cell? ((⟨B, o, none⟩ : Addr).add j) = some (.int .i64 z) :=
  fun j z hz => runs_cells h j z (flat_takeC k hz)
theorem runs_cellsD {w : World} {B o : Nat} {rs : List Rn} {k : Nat} (hk : k ≤ rs.length) (h : Runs w (some ⟨B, o, none⟩) rs) : ∀ (j : Nat) (z : Int), (flat (rs.drop k))[j]? = some z → w.cell? ((⟨B, o + k * 4, none⟩ : Addr).add j) = some (.int .i64 z) := fun j z hz => by
  have := runs_cells h _ z (flat_dropC hk hz)
  rw [add_flat] at this
  rw [add_flat, Nat.add_assoc]; exact this
end Go.Proofs.Ytenllemaccacgaa
namespace Go.Proofs.Ytenllemaccacgaa
open Go.RowKit
set_option linter.unusedVariables false

theorem nNumber (i lo hi : Int) (w : World) (h1 : -1000 ≤ i) (h2 : i ≤ 1000) :
    Calls Try.prog 100 #[.int .i64 i, .int .i64 lo, .int .i64 hi] w fun e w' => e = .returned (.int .i64 (num2 lo hi i)) ∧ w = w' := by
  unfold num2
  by_cases e : i = hi
  · rw [if_pos e]
    subst e
    go_enter Try.func100, Try.ntmps100
    go_wp2_with fail
    go_ret
    exact ⟨rfl, rfl⟩
  · rw [if_neg e]
    by_cases h : hi < i
    · rw [if_pos h]
      go_enter Try.func100, Try.ntmps100
      go_wp2_with fail
      go_ret
      exact ⟨rfl, rfl⟩
    · rw [if_neg h]
      go_enter Try.func100, Try.ntmps100
      go_wp2_with fail
      go_ret
      exact ⟨rfl, rfl⟩
theorem mrg_take {rs : List Rn} {j : Nat} {r : Rn} (h : rs[j]? = some r) (lo hi : Int) : mrg lo hi (rs.take (j + 1)) = mrg lo hi (rs.take j) ++ (if (mv lo hi r).f = (mv lo hi r).t then [] else [mv lo hi r]) := by
  rw [List.take_add_one, h]
  show mrg lo hi (rs.take j ++ [r]) = _
  rw [mrg_append]
  congr 1
  unfold mrg
  by_cases e : (mv lo hi r).f = (mv lo hi r).t
  · rw [if_pos e]; simp [e]
  · rw [if_neg e]; simp [e]
theorem cells4_new (w : World) (a b c d : Int) (T : TypeId) : ∀ (j : Nat) (z : Int), [a, b, c, d][j]? = some z → (w.alloc (.cells #[.int .i64 a, .int .i64 b, .int .i64 c, .int .i64 d] T)).cell? ((⟨w.heap.size, 0, none⟩ : Addr).add j) = some (.int .i64 z) := by
  intro j z h
  rw [add_flat]
  match j, h with
  | 0, h => simp at h; subst h; simp [go_sem]
  | 1, h => simp at h; subst h; simp [go_sem]
  | 2, h => simp at h; subst h; simp [go_sem]
  | 3, h => simp at h; subst h; simp [go_sem]
  | j + 4, h => simp at h
set_option maxHeartbeats 4000000 in
set_option maxRecDepth 100000 in
theorem sMerge_yes (N n : Nat) (p : Option Addr) (c m : Nat) (rs : List Rn) (k : Nat) (r : Rn) (lo hi : Int) (w : World) (h : Runs w p rs) (hn : nOk (N : Int) rs = true) (hN3 : 3 ≤ N) (hNn : N = n + 1) (hm : rs.length = m) (hr : rs[k]? = some r) (hlh : lo < hi) (he : Ends2 r lo hi) :
    Calls Try.prog 55 #[.int .i64 N, .slice p m c, .int .i64 k] w fun e w' => ∃ v, e = .returned (.tuple #[.int .i64 n, v, .bool true]) ∧ NewRuns w (mrg lo hi rs) v w' := by
  have hk : k < m := by rw [← hm]; exact (List.getElem?_eq_some_iff.1 hr).1
  have hl12 : m ≤ 12 := by rw [← hm]; exact (nOk_true hn).2.2.1
  have hN6 : (N : Int) ≤ 6 := (nOk_true hn).2.1
  have hN6' : N ≤ 6 := by omega
  have c1 := fun w h => Lib.hid (sValid N p c rs true w h (by omega) hn)
  rw [hm] at c1
  have c2 := fun w => Lib.hid (nIn k 0 (m - 1) true w (by simp; omega))
  have hNi : (N : Int) - 1 = (n : Int) := by omega
  have hN3' : ¬ (N : Int) < 3 := by omega
  obtain ⟨B, o, r', rfl, hr', hB, e1, e2, e3, e4⟩ := h.at (i := k) (by omega)
  obtain rfl : r = r' := by rw [hr] at hr'; cases hr'; rfl
  have hjl : (k : Int) < (m : Int) := by omega
  have hro := rOk_true ((nOk_true hn).2.2.2 k r hr)
  have H := Lib.hid (And.intro h (And.intro hn hm))
  have hmin : (if r.t < r.f then r.t else r.f) = lo := by rcases he with ⟨a, b⟩ | ⟨a, b⟩ <;> split <;> omega
  have hmax : (if r.f < r.t then r.t else r.f) = hi := by rcases he with ⟨a, b⟩ | ⟨a, b⟩ <;> split <;> omega
  have hlo : 0 ≤ lo := by rcases he with ⟨a, b⟩ | ⟨a, b⟩ <;> omega
  have hhi : hi < (N : Int) := by rcases he with ⟨a, b⟩ | ⟨a, b⟩ <;> omega
  clear h hn hm hr hr' hNn he
  go_enter Try.func55, Try.ntmps55
  go_upto_region 3 with (first | (go_at_call 83; (with_reducible refine ((c1 _ ?_).out).mono ?_); (focus ((exact H.out.1); done)); rintro e wa ⟨rfl, hb_wa⟩; have hs_wa := hb_wa.size; (try simp at hs_wa)) | (go_at_call 67; (with_reducible refine ((c2 _).out).mono ?_); rintro e w' ⟨rfl, rfl⟩))
  have d1 := cell_below_keep hb_wa e1
  have d2 := cell_below_keep hb_wa e2
  go_region
  go_upto_region 4 with fail
  go_region
  go_upto_region 5 with fail
  have hd3 : decide ((N : Int) < 3) = false := by simpa using hN3'
  rw [hd3]
  have hB2 : Below w.heap.size w (wa.drew.drew) := below_drew (below_drew hb_wa)
  obtain ⟨wb, hwb⟩ : ∃ wb, wb = wa.drew.drew := ⟨_, rfl⟩
  rw [← hwb] at hB2 ⊢
  have hRb : Hid (Runs wb (some ⟨B, o, none⟩) rs) := Lib.hid (H.out.1.below hB2)
  have HBb := Lib.hid hB2
  have hswb := hB2.size
  have HE := Lib.hid (Own.empty wb 35 4)
  clear hwb d1 d2 hb_wa hB2 c1 c2 hN3'
  go_wp2_with fail
  go_loopw [11, 12] (fun v i wr => ∃ (j g cap : Nat), j ≤ m ∧ i = .int .i64 j ∧ v = .slice (some ⟨g, 0, none⟩) (mrg lo hi (rs.take j)).length cap ∧ w.heap.size ≤ g ∧ Own wr g 35 4 (mrg lo hi (rs.take j)).length cap (flat (mrg lo hi (rs.take j))) ∧ Below w.heap.size w wr) (fun _ i _ => m - (intOf i).toNat)
  case atStart => exact ⟨0, wb.heap.size, 0, Nat.zero_le _, rfl, rfl, hswb, HE.out, HBb.out.alloc hswb _⟩
  case round =>
    clear HE hRb HBb
    rename World => wr
    obtain ⟨j, g, cap, hj, rfl, rfl, hgl, ho, hb⟩ := hrel
    have hlo' := ho.lt
    have hbs := hb.size
    have hq12 : (mrg lo hi (rs.take j)).length ≤ 12 := by
      refine Nat.le_trans (List.length_filter_le _ _) ?_
      rw [List.length_map, List.length_take, H.out.2.2]; omega
    obtain ⟨q, hq⟩ : ∃ q, (mrg lo hi (rs.take j)).length = q := ⟨_, rfl⟩
    rw [hq] at ho hq12 ⊢
    by_cases hlt : j < m
    · have hlt' : (j : Int) < (m : Int) := by omega
      obtain ⟨B', o', x, heq, hx, hB', x1, x2, x3, x4⟩ := (H.out.1.below hb).at (i := j) (by rw [H.out.2.2]; exact hlt)
      cases heq
      have hxo := rOk_true ((nOk_true H.out.2.1).2.2.2 j x hx)
      have c3 := fun w => Lib.hid (nNumber x.f lo hi w (by omega) (by omega))
      have c4 := fun w => Lib.hid (nNumber x.t lo hi w (by omega) (by omega))
      have hmt := mrg_take hx lo hi
      obtain ⟨a, ha⟩ : ∃ a, num2 lo hi x.f = a := ⟨_, rfl⟩
      obtain ⟨b, hb'⟩ : ∃ b, num2 lo hi x.t = b := ⟨_, rfl⟩
      rw [ha] at c3
      rw [hb'] at c4
      have hmv : mv lo hi x = ⟨a, b, x.s, x.g⟩ := by unfold mv; rw [ha, hb']
      rw [hmv] at hmt
      dsimp only at hmt
      clear ha hb' hmv hx
      by_cases hab : a = b
      · subst hab
        rw [if_pos rfl, List.append_nil] at hmt
        have hq2 : (mrg lo hi (rs.take (j + 1))).length = q := by rw [hmt]; exact hq
        have HX2 := Lib.hid (And.intro ho (And.intro hb (And.intro hq2 hmt)))
        clear ho hb hq hmt hq2
        go_wp2_with (first | (go_at_call 100; (with_reducible refine ((c3 _).out).mono ?_); rintro e w' ⟨rfl, rfl⟩) | (go_at_call 100; (with_reducible refine ((c4 _).out).mono ?_); rintro e w' ⟨rfl, rfl⟩))
        exact ⟨⟨j + 1, g, cap, by omega, by go_num, by rw [HX2.out.2.2.1], hgl, by rw [HX2.out.2.2.1, HX2.out.2.2.2]; exact HX2.out.1.alloc _, HX2.out.2.1.alloc hbs _⟩, by simp [intOf]; omega⟩
      · have hab' : (a != b) = true := by simpa using hab
        rw [if_neg hab] at hmt
        have hq2 : (mrg lo hi (rs.take (j + 1))).length = q + 1 := by rw [hmt, List.length_append, hq]; rfl
        have HX2 := Lib.hid (And.intro ho (And.intro hb (And.intro hq2 hmt)))
        clear ho hb hq hmt hq2
        go_wp2_with (first | (go_at_call 100; (with_reducible refine ((c3 _).out).mono ?_); rintro e w' ⟨rfl, rfl⟩) | (go_at_call 100; (with_reducible refine ((c4 _).out).mono ?_); rintro e w' ⟨rfl, rfl⟩) | (at_builtin; refine wp_append _ rfl _ _ 23 rfl 35 _ 4 32 Try.underlying23 info_run rfl (by decide) (by decide) g q cap _ rfl ((HX2.out.1.alloc _).alloc _) _ 1 1 [a, b, x.s, x.g] rfl rfl (by have := cells4_new (wr.alloc (.cells #[.int .i64 a, .int .i64 b, .int .i64 x.s, .int .i64 x.g] 35)) a b x.s x.g 35; simpa using this) (by omega) ?_; intro g1 d1 w1 hown hg1 hloc hsz1; have HN := Lib.hid (And.intro hown (And.intro hg1 hloc)); clear hown hg1 hloc))
        obtain ⟨hown, hg1, hloc⟩ := HN.out
        have hg1l : w.heap.size ≤ g1 := by
          rcases hloc with e | e
          · omega
          · simp at e; omega
        have hf : flat (mrg lo hi (rs.take j)) ++ [a, b, x.s, x.g] = flat (mrg lo hi (rs.take (j + 1))) := by rw [HX2.out.2.2.2, flat_append]; rfl
        rw [hf] at hown
        exact ⟨⟨j + 1, g1, d1, by omega, by go_num, by rw [HX2.out.2.2.1], hg1l, by rw [HX2.out.2.2.1]; exact hown, below_gr ((HX2.out.2.1.alloc hbs _).alloc (by simp; omega) _) hg1 hgl (by simp; omega)⟩, by simp [intOf]; omega⟩
    · have e : j = m := by omega
      subst e
      rw [List.take_of_length_le (by rw [H.out.2.2]; exact Nat.le_refl _)] at ho hq
      have HX := Lib.hid (And.intro ho (And.intro hb hq))
      clear ho hb hq
      go_wp2_with fail
      refine bodyPost_ret (v := .tuple #[.int .i64 n, .slice (some ⟨g, 0, none⟩) q cap, .bool true]) (by simp [results, Try.results55, go_sem]) rfl ⟨_, rfl, g, cap, by rw [HX.out.2.2], hgl, by rw [HX.out.2.2]; exact HX.out.1, HX.out.2.1⟩
theorem sMerge_no (n k : Int) (p : Option Addr) (c m : Nat) (rs : List Rn) (w : World) (h : Runs w p rs) (hm : rs.length = m) (hl : m ≤ 4000000000000000000) (hno : ¬ (nOk n rs = true ∧ 0 ≤ k ∧ k < m ∧ 3 ≤ n)) :
    Calls Try.prog 55 #[.int .i64 n, .slice p m c, .int .i64 k] w fun e w' => (∃ q, e = .returned (.tuple #[.int .i64 0, .slice q 0 0, .bool false])) ∧ Below w.heap.size w w' := by
  have H := Lib.hid h
  cases hn : nOk n rs
  · have c1 := fun w h => Lib.hid (sValid n p c rs false w h (by omega) hn)
    rw [hm] at c1
    clear h hm hno hn
    go_enter Try.func55, Try.ntmps55
    go_wp2_with ((go_at_call 83; (with_reducible refine ((c1 _ ?_).out).mono ?_); (focus ((exact H.out); done)); rintro e wa ⟨rfl, hb_wa⟩; have hs_wa := hb_wa.size; (try simp at hs_wa)))
    refine bodyPost_ret (v := .tuple #[.int .i64 0, .slice (some ⟨wa.heap.size, 0, none⟩) 0 0, .bool false]) (by simp [results, Try.results55, go_sem]) rfl ⟨⟨_, rfl⟩, (by repeat (first | assumption | exact Below.refl _ _ | (refine below_chain ?_ (by assumption) (by first | omega | (simp <;> omega) | simp)) | (refine Below.alloc ?_ (by first | omega | (simp <;> omega) | simp) _) | (apply below_drewN) | (apply below_drew) | (refine Below.setCell ?_ (by first | omega | (simp <;> omega) | simp) _)))⟩
  · have c1 := fun w h => Lib.hid (sValid n p c rs true w h (by omega) hn)
    rw [hm] at c1
    by_cases hk : 0 ≤ k ∧ k < m
    · have c2 := fun w => Lib.hid (nIn k 0 (m - 1) true w (decide_eq_true (by omega)))
      have hn3 : n < 3 := by
        have : ¬ 3 ≤ n := fun e => hno ⟨hn, hk.1, hk.2, e⟩
        omega
      clear h hm hno hn hk
      go_enter Try.func55, Try.ntmps55
      go_wp2_with (first | (go_at_call 83; (with_reducible refine ((c1 _ ?_).out).mono ?_); (focus ((exact H.out); done)); rintro e wa ⟨rfl, hb_wa⟩; have hs_wa := hb_wa.size; (try simp at hs_wa)) | (go_at_call 67; (with_reducible refine ((c2 _).out).mono ?_); rintro e w' ⟨rfl, rfl⟩))
      refine bodyPost_ret (v := .tuple #[.int .i64 0, .slice (some ⟨wa.heap.size, 0, none⟩) 0 0, .bool false]) (by simp [results, Try.results55, go_sem]) rfl ⟨⟨_, rfl⟩, (by repeat (first | assumption | exact Below.refl _ _ | (refine below_chain ?_ (by assumption) (by first | omega | (simp <;> omega) | simp)) | (refine Below.alloc ?_ (by first | omega | (simp <;> omega) | simp) _) | (apply below_drewN) | (apply below_drew) | (refine Below.setCell ?_ (by first | omega | (simp <;> omega) | simp) _)))⟩
    · have c2 := fun w => Lib.hid (nIn k 0 (m - 1) false w (decide_eq_false (fun hc => hk (by omega))))
      clear h hm hno hn hk
      go_enter Try.func55, Try.ntmps55
      go_wp2_with (first | (go_at_call 83; (with_reducible refine ((c1 _ ?_).out).mono ?_); (focus ((exact H.out); done)); rintro e wa ⟨rfl, hb_wa⟩; have hs_wa := hb_wa.size; (try simp at hs_wa)) | (go_at_call 67; (with_reducible refine ((c2 _).out).mono ?_); rintro e w' ⟨rfl, rfl⟩))
      refine bodyPost_ret (v := .tuple #[.int .i64 0, .slice (some ⟨wa.heap.size, 0, none⟩) 0 0, .bool false]) (by simp [results, Try.results55, go_sem]) rfl ⟨⟨_, rfl⟩, (by repeat (first | assumption | exact Below.refl _ _ | (refine below_chain ?_ (by assumption) (by first | omega | (simp <;> omega) | simp)) | (refine Below.alloc ?_ (by first | omega | (simp <;> omega) | simp) _) | (apply below_drewN) | (apply below_drew) | (refine Below.setCell ?_ (by first | omega | (simp <;> omega) | simp) _)))⟩
end Go.Proofs.Ytenllemaccacgaa
