/-
  The program's NetMerge.
  The program's matrices of nets, by contract: iMatrix_yes/_no, iTrees_yes/_no (XKj), iSource_yes/_no (XKk), iWithout_yes/_no (XKn), iMerge_yes/_no (XKo).
-/
import Derived.Test.YtenllemaccacgaaZm
import Derived.Test.YtenllemaccacgaaZk
namespace Go.Proofs.Ytenllemaccacgaa
open Go.RowKit
set_option linter.unusedVariables false

theorem iMergedNode (i lo hi : Int) (w : World) (h1 : -1000 ≤ i) (h2 : i ≤ 1000) :
    Calls Try.prog 93 #[.int .i64 i, .int .i64 lo, .int .i64 hi] w fun e w' => e = .returned (.int .i64 (num2 lo hi i)) ∧ w = w' := by
  unfold num2
  by_cases e : i = hi
  · rw [if_pos e]
    subst e
    go_enter Try.func93, Try.ntmps93
    go_wp2_with fail
    go_ret
    exact ⟨rfl, rfl⟩
  · rw [if_neg e]
    by_cases h : hi < i
    · rw [if_pos h]
      go_enter Try.func93, Try.ntmps93
      go_wp2_with fail
      go_ret
      exact ⟨rfl, rfl⟩
    · rw [if_neg h]
      go_enter Try.func93, Try.ntmps93
      go_wp2_with fail
      go_ret
      exact ⟨rfl, rfl⟩
theorem NewV.alloc {w wr : World} {L : List Rn} {v : Value} (h : NewV w L v wr) (hs : w.heap.size ≤ wr.heap.size) (o : Obj) : NewV w L v (wr.alloc o) := by
  rcases h with ⟨h1, h2, h3⟩ | ⟨h1, g, cap, h2, hg, ho, h3⟩
  · exact .inl ⟨h1, h2, h3.alloc hs o⟩
  · exact .inr ⟨h1, g, cap, h2, hg, ho.alloc o, h3.alloc hs o⟩
theorem NewV.len12 {lo hi : Int} {rs : List Rn} {j : Nat} (h : rs.length ≤ 12) : (mrg lo hi (rs.take j)).length ≤ 12 := by
  refine Nat.le_trans (List.length_filter_le _ _) ?_
  rw [List.length_map, List.length_take]; omega
set_option maxHeartbeats 4000000 in
set_option maxRecDepth 100000 in
theorem iMerge_yes (N n : Nat) (p : Option Addr) (c m : Nat) (rs : List Rn) (k : Nat) (r : Rn) (lo hi : Int) (w : World) (h : Runs w p rs) (hn : nOk (N : Int) rs = true) (hN3 : 3 ≤ N) (hNn : N = n + 1) (hm : rs.length = m) (hr : rs[k]? = some r) (hlh : lo < hi) (he : Ends2 r lo hi) :
    Calls Try.prog 40 #[.int .i64 N, .slice p m c, .int .i64 k] w fun e w' => ∃ v, e = .returned (.tuple #[.int .i64 n, v, .bool true]) ∧ NewV w (mrg lo hi rs) v w' := by
  have hk : k < m := by rw [← hm]; exact (List.getElem?_eq_some_iff.1 hr).1
  have hl12 : m ≤ 12 := by rw [← hm]; exact (nOk_true hn).2.2.1
  have hN6 : (N : Int) ≤ 6 := (nOk_true hn).2.1
  have hN6' : N ≤ 6 := by omega
  have c1 := fun w h => Lib.hid (iValid N p c rs true w h (by omega) hn)
  rw [hm] at c1
  have c2 := fun w => Lib.hid (nHasRun p m c k true w (by simp; omega))
  have hNi : (N : Int) - 1 = (n : Int) := by omega
  have hN2 : ((N : Int) == 2) = false := by rw [beq_eq_false_iff_ne]; omega
  have hN2' : ¬ (N : Int) = 2 := by omega
  have hN2n : ¬ N = 2 := by omega
  obtain ⟨B, o, r', rfl, hr', hB, e1, e2, e3, e4⟩ := h.at (i := k) (by omega)
  obtain rfl : r = r' := by rw [hr] at hr'; cases hr'; rfl
  have hjl : (k : Int) < (m : Int) := by omega
  have hro := rOk_true ((nOk_true hn).2.2.2 k r hr)
  have H := Lib.hid (And.intro h (And.intro hn hm))
  have hmin : (if r.t < r.f then r.t else r.f) = lo := by rcases he with ⟨a, b⟩ | ⟨a, b⟩ <;> split <;> omega
  have hmax : (if r.f < r.t then r.t else r.f) = hi := by rcases he with ⟨a, b⟩ | ⟨a, b⟩ <;> split <;> omega
  have hlo : 0 ≤ lo := by rcases he with ⟨a, b⟩ | ⟨a, b⟩ <;> omega
  have hhi : hi < (N : Int) := by rcases he with ⟨a, b⟩ | ⟨a, b⟩ <;> omega
  clear h hn hm hr hr' hNn he
  go_enter Try.func40, Try.ntmps40
  go_upto_region 3 with (first | (go_at_call 57; (with_reducible refine ((c1 _ ?_).out).mono ?_); (focus ((exact H.out.1); done)); rintro e wa ⟨rfl, hb_wa⟩; have hs_wa := hb_wa.size; (try simp at hs_wa)) | (go_at_call 79; (with_reducible refine ((c2 _).out).mono ?_); rintro e w' ⟨rfl, rfl⟩))
  have d1 := cell_below_keep hb_wa e1
  have d2 := cell_below_keep hb_wa e2
  go_region
  go_upto_region 4 with fail
  have hB2 : Below w.heap.size w wa.drew := below_drew hb_wa
  obtain ⟨wb, hwb⟩ : ∃ wb, wb = wa.drew := ⟨_, rfl⟩
  rw [← hwb] at hB2 ⊢
  have HBb := Lib.hid hB2
  clear hwb d1 d2 hb_wa hB2 c1 c2
  go_wp2_with fail
  go_loopw [11, 52] (fun v i wr => ∃ j : Nat, j ≤ m ∧ i = .int .i64 j ∧ NewV w (mrg lo hi (rs.take j)) v wr) (fun _ i _ => m - (intOf i).toNat)
  case atStart => exact ⟨0, Nat.zero_le _, rfl, .inl ⟨rfl, rfl, HBb.out⟩⟩
  case round =>
    clear HBb
    rename World => wr
    obtain ⟨j, hj, rfl, hv⟩ := hrel
    by_cases hlt : j < m
    · have hlt' : (j : Int) < (m : Int) := by omega
      have hb : Below w.heap.size w wr := by rcases hv with ⟨_, _, h⟩ | ⟨_, _, _, _, _, _, h⟩ <;> exact h
      have hbs := hb.size
      obtain ⟨B', o', x, heq, hx, hB', x1, x2, x3, x4⟩ := (H.out.1.below hb).at (i := j) (by rw [H.out.2.2]; exact hlt)
      cases heq
      have hxo := rOk_true ((nOk_true H.out.2.1).2.2.2 j x hx)
      have c3 := fun w => Lib.hid (iMergedNode x.f lo hi w (by omega) (by omega))
      have c4 := fun w => Lib.hid (iMergedNode x.t lo hi w (by omega) (by omega))
      have hmt := mrg_take hx lo hi
      have hq12 : (mrg lo hi (rs.take j)).length ≤ 12 := NewV.len12 (by rw [H.out.2.2]; exact hl12)
      obtain ⟨a, ha⟩ : ∃ a, num2 lo hi x.f = a := ⟨_, rfl⟩
      obtain ⟨b, hb'⟩ : ∃ b, num2 lo hi x.t = b := ⟨_, rfl⟩
      rw [ha] at c3
      rw [hb'] at c4
      have hmv : mv lo hi x = ⟨a, b, x.s, x.g⟩ := by unfold mv; rw [ha, hb']
      rw [hmv] at hmt
      dsimp only at hmt
      clear ha hb' hmv hx
      obtain ⟨L, hL⟩ : ∃ L, mrg lo hi (rs.take j) = L := ⟨_, rfl⟩
      rw [hL] at hmt hv hq12
      by_cases hab : a = b
      · subst hab
        rw [if_pos rfl, List.append_nil] at hmt
        have HX := Lib.hid (And.intro hv hmt)
        rcases hv with ⟨h1, rfl, h3⟩ | ⟨h1, g, cap, rfl, hg, ho, h3⟩
        · clear hmt hb h3 h1
          go_wp2_with (first | (go_at_call 93; (with_reducible refine ((c3 _).out).mono ?_); rintro e w' ⟨rfl, rfl⟩) | (go_at_call 93; (with_reducible refine ((c4 _).out).mono ?_); rintro e w' ⟨rfl, rfl⟩))
          exact ⟨⟨j + 1, by omega, by go_num, by rw [HX.out.2]; exact HX.out.1.alloc hbs _⟩, by simp [intOf]; omega⟩
        · clear hmt hb h3 h1 ho
          go_wp2_with (first | (go_at_call 93; (with_reducible refine ((c3 _).out).mono ?_); rintro e w' ⟨rfl, rfl⟩) | (go_at_call 93; (with_reducible refine ((c4 _).out).mono ?_); rintro e w' ⟨rfl, rfl⟩))
          exact ⟨⟨j + 1, by omega, by go_num, by rw [HX.out.2]; exact HX.out.1.alloc hbs _⟩, by simp [intOf]; omega⟩
      · have hab' : (a != b) = true := by simpa using hab
        rw [if_neg hab] at hmt
        have hne : L ++ [⟨a, b, x.s, x.g⟩] ≠ [] := by simp
        have hf : flat (L ++ [⟨a, b, x.s, x.g⟩]) = flat L ++ [a, b, x.s, x.g] := by rw [flat_append]; rfl
        rcases hv with ⟨rfl, rfl, h3⟩ | ⟨h1, g, cap, rfl, hg, ho, h3⟩
        · have HX := Lib.hid (And.intro hmt (And.intro hf (And.intro hb hne)))
          clear hmt hf hb h3 hne
          go_wp2_with (first | (go_at_call 93; (with_reducible refine ((c3 _).out).mono ?_); rintro e w' ⟨rfl, rfl⟩) | (go_at_call 93; (with_reducible refine ((c4 _).out).mono ?_); rintro e w' ⟨rfl, rfl⟩) | (at_builtin; refine wp_append_nil _ rfl _ _ 23 rfl 35 _ 4 32 Try.underlying23 info_run rfl (by decide) (by decide) rfl _ 1 1 [a, b, x.s, x.g] rfl (by decide) rfl (by have := cells4_new (wr.alloc (.cells #[.int .i64 a, .int .i64 b, .int .i64 x.s, .int .i64 x.g] 35)) a b x.s x.g 35; simpa using this) (by omega) ?_; intro d1 w1 hown hb1 hlt1; have HN := Lib.hid (And.intro hown hb1); clear hown hb1))
          obtain ⟨hown, hb1⟩ := HN.out
          have hB1 : Below w.heap.size w w1 := ((HX.out.2.2.1.alloc hbs (.cells #[.int .i64 a, .int .i64 b, .int .i64 x.s, .int .i64 x.g] 35)).alloc (by simp; omega) (.cells #[.int .i64 a, .int .i64 b, .int .i64 x.s, .int .i64 x.g] 35)).trans (hb1.mono (by simp; omega))
          exact ⟨⟨j + 1, by omega, by go_num, by rw [HX.out.1]; exact .inr ⟨HX.out.2.2.2, wr.heap.size + 1 + 1, d1, rfl, by omega, by simpa [flat] using hown, hB1⟩⟩, by simp [intOf]; omega⟩
        · obtain ⟨q, hq⟩ : ∃ q, L.length = q := ⟨_, rfl⟩
          rw [hq] at ho hq12 ⊢
          have HX := Lib.hid (And.intro hmt (And.intro hf (And.intro hb (And.intro hne (And.intro ho hq)))))
          clear hmt hf hb h3 h1 hne ho hq
          go_wp2_with (first | (go_at_call 93; (with_reducible refine ((c3 _).out).mono ?_); rintro e w' ⟨rfl, rfl⟩) | (go_at_call 93; (with_reducible refine ((c4 _).out).mono ?_); rintro e w' ⟨rfl, rfl⟩) | (at_builtin; refine wp_append _ rfl _ _ 23 rfl 35 _ 4 32 Try.underlying23 info_run rfl (by decide) (by decide) g q cap _ rfl ((HX.out.2.2.2.2.1.alloc _).alloc _) _ 1 1 [a, b, x.s, x.g] rfl rfl (by have := cells4_new (wr.alloc (.cells #[.int .i64 a, .int .i64 b, .int .i64 x.s, .int .i64 x.g] 35)) a b x.s x.g 35; simpa using this) (by omega) ?_; intro g1 d1 w1 hown hg1 hloc hsz1; have HN := Lib.hid (And.intro hown (And.intro hg1 hloc)); clear hown hg1 hloc))
          obtain ⟨hown, hg1, hloc⟩ := HN.out
          have hg1l : w.heap.size ≤ g1 := by
            rcases hloc with e | e
            · omega
            · simp at e; omega
          rw [← HX.out.2.1] at hown
          have hl2 : (L ++ [(⟨a, b, x.s, x.g⟩ : Rn)]).length = q + 1 := by rw [List.length_append, HX.out.2.2.2.2.2]; rfl
          exact ⟨⟨j + 1, by omega, by go_num, by rw [HX.out.1]; exact .inr ⟨HX.out.2.2.2.1, g1, d1, by rw [hl2], hg1l, by rw [hl2]; exact hown, below_gr ((HX.out.2.2.1.alloc hbs _).alloc (by simp; omega) _) hg1 hg (by simp; omega)⟩⟩, by simp [intOf]; omega⟩
    · have e : j = m := by omega
      subst e
      rw [List.take_of_length_le (by rw [H.out.2.2]; exact Nat.le_refl _)] at hv
      have HX := Lib.hid hv
      rcases hv with ⟨h1, rfl, h3⟩ | ⟨h1, g, cap, rfl, hg, ho, h3⟩
      · clear h1 h3
        go_wp2_with fail
        refine bodyPost_ret (v := .tuple #[.int .i64 n, .slice none 0 0, .bool true]) (by simp [results, Try.results40, go_sem]) rfl ⟨_, rfl, HX.out⟩
      · obtain ⟨q, hq⟩ : ∃ q, (mrg lo hi rs).length = q := ⟨_, rfl⟩
        rw [hq] at HX ⊢
        clear h1 h3 ho
        go_wp2_with fail
        refine bodyPost_ret (v := .tuple #[.int .i64 n, .slice (some ⟨g, 0, none⟩) q cap, .bool true]) (by simp [results, Try.results40, go_sem]) rfl ⟨_, rfl, HX.out⟩
theorem iMerge_no (n k : Int) (p : Option Addr) (c m : Nat) (rs : List Rn) (w : World) (h : Runs w p rs) (hm : rs.length = m) (hl : m ≤ 4000000000000000000) (hno : ¬ (nOk n rs = true ∧ 0 ≤ k ∧ k < m ∧ 3 ≤ n)) :
    Calls Try.prog 40 #[.int .i64 n, .slice p m c, .int .i64 k] w fun e w' => (∃ q d, e = .returned (.tuple #[.int .i64 0, .slice q 0 d, .bool false])) ∧ Below w.heap.size w w' := by
  have H := Lib.hid h
  cases hn : nOk n rs
  · have c1 := fun w h => Lib.hid (by have := iValid n p c rs false w h (by omega) hn; rw [hm] at this; exact this)
    clear h hm hno hn
    go_enter Try.func40, Try.ntmps40
    go_wp2_with ((go_at_call 57; (with_reducible refine ((c1 _ ?_).out).mono ?_); (focus ((exact H.out); done)); rintro e wa ⟨rfl, hb_wa⟩; have hs_wa := hb_wa.size; (try simp at hs_wa)))
    refine bodyPost_ret (v := .tuple #[.int .i64 0, .slice none 0 0, .bool false]) (by simp [results, Try.results40, go_sem]) rfl ⟨⟨_, _, rfl⟩, (by repeat (first | assumption | exact Below.refl _ _ | (refine below_chain ?_ (by assumption) (by first | omega | (simp <;> omega) | simp)) | (refine Below.alloc ?_ (by first | omega | (simp <;> omega) | simp) _) | (apply below_drewN) | (apply below_drew) | (refine Below.setCell ?_ (by first | omega | (simp <;> omega) | simp) _)))⟩
  · have c1 := fun w h => Lib.hid (by have := iValid n p c rs true w h (by omega) hn; rw [hm] at this; exact this)
    by_cases hk : 0 ≤ k ∧ k < m
    · have c2 := fun w => Lib.hid (nHasRun p m c k true w (decide_eq_true hk))
      have hn2 : n = 2 := by
        have h2 := (nOk_true hn).1
        have : ¬ 3 ≤ n := fun e => hno ⟨hn, hk.1, hk.2, e⟩
        omega
      subst hn2
      clear h hm hno hn hk
      go_enter Try.func40, Try.ntmps40
      go_wp2_with (first | (go_at_call 57; (with_reducible refine ((c1 _ ?_).out).mono ?_); (focus ((exact H.out); done)); rintro e wa ⟨rfl, hb_wa⟩; have hs_wa := hb_wa.size; (try simp at hs_wa)) | (go_at_call 79; (with_reducible refine ((c2 _).out).mono ?_); rintro e w' ⟨rfl, rfl⟩))
      refine bodyPost_ret (v := .tuple #[.int .i64 0, .slice none 0 0, .bool false]) (by simp [results, Try.results40, go_sem]) rfl ⟨⟨_, _, rfl⟩, (by repeat (first | assumption | exact Below.refl _ _ | (refine below_chain ?_ (by assumption) (by first | omega | (simp <;> omega) | simp)) | (refine Below.alloc ?_ (by first | omega | (simp <;> omega) | simp) _) | (apply below_drewN) | (apply below_drew) | (refine Below.setCell ?_ (by first | omega | (simp <;> omega) | simp) _)))⟩
    · have c2 := fun w => Lib.hid (nHasRun p m c k false w (decide_eq_false hk))
      clear h hm hno hn hk
      go_enter Try.func40, Try.ntmps40
      go_wp2_with (first | (go_at_call 57; (with_reducible refine ((c1 _ ?_).out).mono ?_); (focus ((exact H.out); done)); rintro e wa ⟨rfl, hb_wa⟩; have hs_wa := hb_wa.size; (try simp at hs_wa)) | (go_at_call 79; (with_reducible refine ((c2 _).out).mono ?_); rintro e w' ⟨rfl, rfl⟩))
      refine bodyPost_ret (v := .tuple #[.int .i64 0, .slice none 0 0, .bool false]) (by simp [results, Try.results40, go_sem]) rfl ⟨⟨_, _, rfl⟩, (by repeat (first | assumption | exact Below.refl _ _ | (refine below_chain ?_ (by assumption) (by first | omega | (simp <;> omega) | simp)) | (refine Below.alloc ?_ (by first | omega | (simp <;> omega) | simp) _) | (apply below_drewN) | (apply below_drew) | (refine Below.setCell ?_ (by first | omega | (simp <;> omega) | simp) _)))⟩
end Go.Proofs.Ytenllemaccacgaa
namespace Go.Proofs.Ytenllemaccacgaa
open Go.RowKit
set_option linter.unusedVariables false
theorem Runs.runs {w : World} {p : Option Addr} {rs : List Rn} (h : Runs w p rs) : Runs w p rs := h
theorem NewP.q {w w' : World} {q : Nat} {rs : List Rn} {v : Value} (h : NewP w q rs v w') : ∃ p cap, v = .slice p q cap ∧ Runs w' p rs ∧ Below w.heap.size w w' := h
end Go.Proofs.Ytenllemaccacgaa
