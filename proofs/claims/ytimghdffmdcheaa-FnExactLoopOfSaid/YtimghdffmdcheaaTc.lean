/-
  The program's TreeFirst.
-/
import Derived.Test.YtimghdffmdcheaaTb
namespace Go.Proofs.Ytimghdffmdcheaa
open Go.RowKit
set_option linter.unusedVariables false

/-- the list begun: none yet, or in a block of its own behind b -/
def Begun (w : World) (b : Nat) (T : List Int) (v : Value) : Prop :=
  (T = [] ∧ v = .slice none 0 0) ∨ ∃ g cap k : Nat, v = .slice (some ⟨g, 0, none⟩) k cap ∧ T.length = k ∧ b < g ∧ Own w g 3 1 k cap T

set_option maxHeartbeats 4000000 in
theorem iFirst_yes (N m : Nat) (p : Option Addr) (c : Nat) (rs : List Rn) (w : World) (h : Runs w p rs) (hm : rs.length = m) (hw : nWhole N rs = true) :
    Calls Try.prog 28 #[.int .i64 N, .slice p m c] w fun e w' => ∃ (g cap k : Nat), e = .returned (.tuple #[.slice (some ⟨g, 0, none⟩) k cap, .bool true]) ∧ (firstT N rs rs.length).length = k ∧ w.heap.size ≤ g ∧ Own w' g 3 1 k cap (firstT N rs rs.length) ∧ Below w.heap.size w w' := by
  have hn : nOk N rs = true := (whole_iff.1 hw).1
  obtain ⟨hn2, hn6, hl12, -⟩ := nOk_true hn
  have hok : Hid (EndsIn N rs) := Lib.hid (nOk_ends hn)
  have hm12 : m ≤ 12 := by omega
  have HW := Lib.hid hw
  have H := Lib.hid (And.intro h (And.intro hm hn))
  have c1 := fun w h => Lib.hid (iWhole_n (p := p) (c := c) w hm h (by omega) hw)
  have c2 := fun w => Lib.hid (iGroups N w (by omega))
  clear h hm hw hn hl12
  go_enter Try.func28, Try.ntmps28
  go_wp2_with (first | (go_at_call 38; (with_reducible refine ((c1 _ ?_).out).mono ?_); (focus ((exact H.out.1.below (by repeat (first | assumption | exact Below.refl _ _ | (refine below_chain ?_ (by assumption) (by first | omega | (simp <;> omega) | simp)) | (refine Below.alloc ?_ (by first | omega | (simp <;> omega) | simp) _) | (apply below_drewN) | (apply below_drew) | (refine Below.setCell ?_ (by first | omega | (simp <;> omega) | simp) _)))); done)); rintro e wa ⟨rfl, hb_wa⟩; have hs_wa := hb_wa.size; (try simp at hs_wa)) | (go_at_call 67; (with_reducible refine ((c2 _).out).mono ?_); rintro e wo ⟨rfl, ho, hb_wo⟩; have hs_wo := hb_wo.size; have HO0 := Lib.hid ho; clear ho))
  have hB : Below w.heap.size w wo := (by repeat (first | assumption | exact Below.refl _ _ | (refine below_chain ?_ (by assumption) (by first | omega | (simp <;> omega) | simp)) | (refine Below.alloc ?_ (by first | omega | (simp <;> omega) | simp) _) | (apply below_drewN) | (apply below_drew) | (refine Below.setCell ?_ (by first | omega | (simp <;> omega) | simp) _)))
  have h0 : Hid (Own wo wa.heap.size 3 1 N N (iota N) ∧ Below w.heap.size w wo) := Lib.hid ⟨HO0.out, hB⟩
  clear c1 c2 HO0 hb_wa hb_wo hs_wo hB
  go_loopw [7, 18] (fun v i wr => ∃ (j : Nat) (T G : List Int), j ≤ m ∧ i = .int .i64 j ∧ Begun wr wa.heap.size T v ∧ firstT N rs j = T ∧ Grp N (sub rs T) G ∧ Own wr wa.heap.size 3 1 N N G ∧ Below w.heap.size w wr) (fun _ i _ => m - (intOf i).toNat)
  case atStart => exact ⟨0, [], _, Nat.zero_le _, rfl, .inl ⟨rfl, rfl⟩, rfl, Grp.start N, h0.out.1, h0.out.2⟩
  case round =>
    clear h0
    obtain ⟨j, T, G, hj, rfl, hv, hTf, hG, how, hbr⟩ := hrel
    have hF : First N rs j T := by rw [← hTf]; exact firstT_is hok.out j (by have := H.out.2.1; omega)
    have hbs := hbr.size
    have hlo := how.lt
    have hT6 : T.length ≤ 6 := by have := hF.cnt; omega
    by_cases hlt : j < m
    · obtain ⟨D, o, r, rfl, hr, hD, x0, x1, x2, x3⟩ := (H.out.1.below hbr).at (i := j) (by have := H.out.2.1; omega)
      obtain ⟨q0, q1, q2, q3⟩ := hok.out r (List.mem_of_getElem? hr)
      obtain ⟨rf, rt, rg, rw⟩ := r
      simp only at x0 x1 x2 x3 q0 q1 q2 q3
      obtain ⟨a, rfl⟩ : ∃ a : Nat, rf = (a : Int) := ⟨rf.toNat, by omega⟩
      obtain ⟨b, rfl⟩ : ∃ b : Nat, rt = (b : Int) := ⟨rt.toNat, by omega⟩
      obtain ⟨x, hx⟩ : ∃ x, G[a]? = some x := ⟨_, List.getElem?_eq_getElem (by have := hG.len; omega)⟩
      obtain ⟨y, hy⟩ : ∃ y, G[b]? = some y := ⟨_, List.getElem?_eq_getElem (by have := hG.len; omega)⟩
      obtain ⟨ok, hok'⟩ : ∃ ok, (x != y) = ok := ⟨_, rfl⟩
      have cj := fun wz ho => Lib.hid (iJoin N wa.heap.size a b rg rw x y (sub rs T) G ok wz (by omega) hG ho hx hy hok')
      have hlink := hG.link (r := ⟨a, b, rg, rw⟩) rfl rfl hx hy
      have hs := sub_snoc rs T j hr
      have hnext : firstT N rs (j + 1) = if ok = true then T ++ [(j : Int)] else T := by
        cases ok
        · rw [firstT_skip hr (by rw [hTf]; exact hlink.1 (by simpa using hok'))]; exact hTf
        · rw [firstT_take hr (by rw [hTf]; intro e; have := hlink.2 e; subst this; simp at hok'), hTf]; rfl
      have HJ := Lib.hid (And.intro hs (And.intro hnext hTf))
      have HO := Lib.hid (And.intro how hbr)
      have hDs : D < wr.heap.size := hD
      clear hr hF hTf hG how hx hy hok' hlink hs hnext q0 q1 q2 q3
      rcases hv with ⟨rfl, rfl⟩ | ⟨g, cap, k, rfl, hTk, hgb, hot⟩
      · cases ok
        · go_wp2_with (go_at_call 68; (with_reducible refine ((cj _ ?_).out).mono ?_); (focus (exact HO.out.1.alloc _; done)); rintro e wj ⟨rfl, G', hG', ho', hgr⟩; have HN := Lib.hid (And.intro hG' (And.intro ho' hgr)); clear hG' ho' hgr)
          go_roundw
          case rel =>
            obtain ⟨hG', ho', hgr⟩ := HN.out
            exact ⟨j + 1, [], G', by omega, by go_num, .inl ⟨rfl, rfl⟩, by rw [HJ.out.2.1]; rfl, by simpa using hG', ho', below_gr (hbr.alloc hbs _) hgr hs_wa (by simp; omega)⟩
          case measure => simp [intOf]; omega
        · go_wp2_with (first | (go_at_call 68; (with_reducible refine ((cj _ ?_).out).mono ?_); (focus (exact HO.out.1.alloc _; done)); rintro e wj ⟨rfl, G', hG', ho', hgr⟩; have hs_wj := hgr.size; (try simp at hs_wj); have hlj := ho'.lt; have HN := Lib.hid (And.intro hG' (And.intro ho' hgr)); clear hG' ho' hgr) | (at_builtin; refine wp_append_nil _ rfl _ _ 24 rfl 3 _ 1 8 Try.underlying24 info_int rfl (by decide) (by decide) rfl _ _ _ [(j : Int)] rfl (by decide) rfl (one_cell _ _ _) (by omega) ?_; intro cap' w' hown hbe hlt; have HA := Lib.hid (And.intro hown (And.intro hbe hlt)); clear hown hbe hlt))
          go_roundw
          case rel =>
            obtain ⟨hG', ho', hgr⟩ := HN.out
            obtain ⟨hown, hbe, hlt⟩ := HA.out
            have hb1 := below_gr (hbr.alloc hbs (.cells #[.int .i64 a, .int .i64 b, .int .i64 rg, .int .i64 rw] 42)) hgr hs_wa (by simp; omega)
            have hb2 := hb1.alloc (by have := hb1.size; omega) (.cells #[.int .i64 j] 3)
            refine ⟨j + 1, [(j : Int)], G', by omega, by go_num, .inr ⟨_, cap', 1, rfl, rfl, ?_, by simpa using hown⟩, by rw [HJ.out.2.1]; rfl, by have := HJ.out.1; rw [List.nil_append] at this; rw [this]; simpa using hG', (ho'.alloc _).below hbe, hb2.trans (hbe.mono (by simp; have := hb1.size; omega))⟩
            omega
          case measure => simp [intOf]; omega
      · have hgw := hot.lt
        have hk6 : k ≤ 6 := by omega
        have HT := Lib.hid (And.intro hot hTk)
        clear hot hTk
        cases ok
        · go_wp2_with (go_at_call 68; (with_reducible refine ((cj _ ?_).out).mono ?_); (focus (exact HO.out.1.alloc _; done)); rintro e wj ⟨rfl, G', hG', ho', hgr⟩; have HN := Lib.hid (And.intro hG' (And.intro ho' hgr)); clear hG' ho' hgr)
          go_roundw
          case rel =>
            obtain ⟨hG', ho', hgr⟩ := HN.out
            exact ⟨j + 1, T, G', by omega, by go_num, .inr ⟨g, cap, k, rfl, HT.out.2, hgb, (HT.out.1.alloc _).grown hgr (by omega)⟩, by rw [HJ.out.2.1]; rfl, by simpa using hG', ho', below_gr (hbr.alloc hbs _) hgr hs_wa (by simp; omega)⟩
          case measure => simp [intOf]; omega
        · go_wp2_with (first | (go_at_call 68; (with_reducible refine ((cj _ ?_).out).mono ?_); (focus (exact HO.out.1.alloc _; done)); rintro e wj ⟨rfl, G', hG', ho', hgr⟩; have hs_wj := hgr.size; (try simp at hs_wj); have hlj := ho'.lt; have HT2 := Lib.hid ((HT.out.1.alloc _).grown hgr (by omega)); have HN := Lib.hid (And.intro hG' (And.intro ho' hgr)); clear hG' ho' hgr) | (at_builtin; refine wp_append _ rfl _ _ 24 rfl 3 _ 1 8 Try.underlying24 info_int rfl (by decide) (by decide) _ k cap T rfl (HT2.out.alloc _) _ _ _ [(j : Int)] rfl rfl (one_cell _ _ _) (by omega) ?_; intro g' cap' w' hown hgr2 hloc hsz; have HA := Lib.hid (And.intro hown (And.intro hgr2 hloc)); clear hown hgr2 hloc))
          go_roundw
          case rel =>
            obtain ⟨hG', ho', hgr⟩ := HN.out
            obtain ⟨hown, hgr2, hloc⟩ := HA.out
            have hb1 := below_gr (hbr.alloc hbs (.cells #[.int .i64 a, .int .i64 b, .int .i64 rg, .int .i64 rw] 42)) hgr hs_wa (by simp; omega)
            have hb2 := hb1.alloc (by have := hb1.size; omega) (.cells #[.int .i64 j] 3)
            have hg' : wa.heap.size < g' := by
              rcases hloc with rfl | rfl
              · exact hgb
              · simp; omega
            exact ⟨j + 1, T ++ [(j : Int)], G', by omega, by go_num, .inr ⟨g', cap', k + 1, rfl, by simp [HT.out.2], hg', hown⟩, by rw [HJ.out.2.1]; rfl, by rw [HJ.out.1]; simpa using hG', (ho'.alloc _).grown hgr2 (by omega), below_gr hb2 hgr2 (by omega) (by simp; have := hb1.size; omega)⟩
          case measure => simp [intOf]; omega
    · have e : j = m := by omega
      subst e
      have htree := first_tree HW.out
      have hlen := htree.len
      rw [H.out.2.1, hTf] at hlen
      rcases hv with ⟨rfl, rfl⟩ | ⟨g, cap, k, rfl, hTk, hgb, hot⟩
      · simp at hlen; omega
      · have HT := Lib.hid (And.intro hot (And.intro hTk hTf))
        clear how hF hTf hG hot hTk htree hlen
        go_wp2_with fail
        exact bodyPost_ret (v := .tuple #[.slice (some ⟨g, 0, none⟩) k cap, .bool true]) (by simp [results, Try.results28, go_sem]) rfl ⟨g, cap, k, rfl, by rw [H.out.2.1, HT.out.2.2]; exact HT.out.2.1, by omega, by rw [H.out.2.1, HT.out.2.2]; exact HT.out.1, hbr⟩

set_option maxHeartbeats 1000000 in
theorem iFirst_no (n : Int) (m : Nat) (p : Option Addr) (c : Nat) (rs : List Rn) (w : World) (h : Runs w p rs) (hm : rs.length = m) (hl : m ≤ 4000000000000000000) (hw : nWhole n rs = false) :
    Calls Try.prog 28 #[.int .i64 n, .slice p m c] w fun e w' => e = .returned (.tuple #[.slice none 0 0, .bool false]) ∧ Below w.heap.size w w' := by
  have H := Lib.hid h
  have c1 := fun w h => Lib.hid (iWhole_n (p := p) (c := c) w hm h hl hw)
  clear h hw
  go_enter Try.func28, Try.ntmps28
  go_wp2_with ((go_at_call 38; (with_reducible refine ((c1 _ ?_).out).mono ?_); (focus ((exact H.out.below (by repeat (first | assumption | exact Below.refl _ _ | (refine below_chain ?_ (by assumption) (by first | omega | (simp <;> omega) | simp)) | (refine Below.alloc ?_ (by first | omega | (simp <;> omega) | simp) _) | (apply below_drewN) | (apply below_drew) | (refine Below.setCell ?_ (by first | omega | (simp <;> omega) | simp) _)))); done)); rintro e wa ⟨rfl, hb_wa⟩; have hs_wa := hb_wa.size; (try simp at hs_wa)))
  exact bodyPost_ret (v := .tuple #[.slice none 0 0, .bool false]) (by simp [results, Try.results28, go_sem]) rfl ⟨rfl, (by repeat (first | assumption | exact Below.refl _ _ | (refine below_chain ?_ (by assumption) (by first | omega | (simp <;> omega) | simp)) | (refine Below.alloc ?_ (by first | omega | (simp <;> omega) | simp) _) | (apply below_drewN) | (apply below_drew) | (refine Below.setCell ?_ (by first | omega | (simp <;> omega) | simp) _)))⟩
end Go.Proofs.Ytimghdffmdcheaa
