/-
  For every code the law FnTravelLength returns true: impl.TravelLength answers as the reference model does; the steps in the opposite order have the same gap and the same length, and the length is no less than the gap's. No condition: every list of bytes is taken.
-/
import Derived.Test.YtgncjpakclbegaaHe
import Derived.Test.YtgncjpakclbegaaHh
import Derived.Test.YtgncjpakclbegaaHi
import Derived.Test.YtgncjpakclbegaaHj
import Derived.Test.YtgncjpakclbegaaCode
namespace Go.Proofs.Ytgncjpakclbegaa.fnTravelLength
open Go.ChangeShapes Go.WideShapes Go.ChangeAt Go.RowKit Poly
set_option linter.unusedVariables false

theorem rev_take {L : List P2} {m j : Nat} (h : m + j + 1 = L.length) : L.reverse.take (j + 1) = L.reverse.take j ++ [cy L m] := by
  rw [List.take_add_one, List.getElem?_reverse (by omega), show L.length - 1 - j = m by omega, cy_lt (by omega)]; rfl
/-- a point in a block -/
def At (W : World) (X : Nat) (z : P2) : Prop := X < W.heap.size ∧ W.cell? ⟨X, 0, none⟩ = some (.int .i64 z.1) ∧ W.cell? ⟨X, 1, none⟩ = some (.int .i64 z.2)
theorem At.below {W W' : World} {X : Nat} {z : P2} {b : Nat} (h : At W X z) (hx : X < b) (hb : Below b W W') : At W' X z :=
  ⟨Nat.lt_of_lt_of_le h.1 hb.size, (hb.cell (p := ⟨X, 0, none⟩) hx).trans h.2.1, (hb.cell (p := ⟨X, 1, none⟩) hx).trans h.2.2⟩
theorem At.new (W : World) (x y : Int) (T : TypeId) : At (W.alloc (.cells #[.int .i64 x, .int .i64 y] T)) W.heap.size (x, y) :=
  ⟨by simp, World.cell?_alloc_new _ _ _ 0, World.cell?_alloc_new _ _ _ 1⟩

set_option maxHeartbeats 8000000 in
set_option maxRecDepth 100000 in
theorem walk (len cap : Nat) (p : Option Addr) (w : World) (hl : len ≤ 1048576) (h : Hid (Code' w (.slice p len cap))) :
    Calls Try.prog 8 #[.slice p len cap] w fun e w' => e = .returned (.bool true) ∧ Below w.heap.size w w' := by
  have hl' : ¬ (1048576 : Int) < (len : Int) := by omega
  go_enter Try.func8, Try.ntmps8
  go_upto_region 4 with (go_at_call 41; (with_reducible refine (drawTravelLength_is _ _ h).mono ?_); rintro e wd ⟨L, q, c, rfl, hc, h12, hI, hne, hb_wd⟩; have hs_wd := hb_wd.size)
  clear h hne
  obtain ⟨n, hn⟩ : ∃ n, L.length = n := ⟨_, rfl⟩
  rw [hn] at hc h12 ⊢
  have H := Lib.hid (And.intro hI hn)
  cases ht : tvV L
  · have c1 := fun w h => Lib.hid (iTravelLength_no (p := q) (n := n) (c := c) (L := L) (w := w) h hn ht)
    have c2 := fun w h => Lib.hid (sTravelLength_no (p := q) (n := n) (c := c) (L := L) (w := w) h hn (by omega) ht)
    clear hI hn ht
    go_wp2_with (first | (go_at_call 42; (with_reducible refine ((c1 _ ?_).out).mono ?_); (focus ((exact H.out.1); done)); rintro e wi ⟨rfl, hb_wi⟩; have hs_wi := hb_wi.size; (try simp at hs_wi)) | (go_at_call 43; (with_reducible refine ((c2 _ ?_).out).mono ?_); (focus ((exact H.out.1.below hb_wi); done)); rintro e ws ⟨rfl, hb_ws⟩; have hs_ws := hb_ws.size; (try simp at hs_ws)))
    go_ret
    exact ⟨rfl, (by repeat (first | assumption | exact Below.refl _ _ | (refine below_chain ?_ (by assumption) (by first | omega | (simp <;> omega) | simp)) | (refine Below.alloc ?_ (by first | omega | (simp <;> omega) | simp) _) | (apply below_drewN) | (apply below_drew) | (refine Below.setCell ?_ (by first | omega | (simp <;> omega) | simp) _)))⟩
  · have hn1 := (tvV_len ht).1
    rw [hn] at hn1
    obtain ⟨v, hv⟩ : ∃ v, tot (lensT L) = v := ⟨_, rfl⟩
    obtain ⟨g, hg⟩ : ∃ g, gapT L = g := ⟨_, rfl⟩
    have hv0 : ¬ v < 0 := by have := lens_nn L; omega
    have hgl : ((g.1.natAbs : Int)) + ((g.2.natAbs : Int)) ≤ v := by rw [← hg, ← hv]; exact gap_le L
    have hgb := gapT_bd ht
    rw [hg] at hgb
    have HR : Hid (L.reverse.length = n ∧ tvV L.reverse = true ∧ gapT L.reverse = g ∧ tot (lensT L.reverse) = v) := Lib.hid ⟨by rw [List.length_reverse]; exact hn, tvV_rev ht, by rw [gapT_rev]; exact hg, by rw [lens_rev]; exact hv⟩
    obtain ⟨B, o, rfl, hB, -, -⟩ := hI.pt (i := 0) (by omega)
    have c1 := fun w h => Lib.hid (iTravelLength_yes (p := some ⟨B, o, none⟩) (n := n) (c := c) (L := L) (w := w) h hn ht hv)
    have c2 := fun w h => Lib.hid (sTravelLength_yes (p := some ⟨B, o, none⟩) (n := n) (c := c) (L := L) (w := w) h hn ht hv)
    have c3 := fun w h => Lib.hid (iTravelGap_yes (p := some ⟨B, o, none⟩) (n := n) (c := c) (L := L) (w := w) h hn ht hg)
    have c4 := fun p d w h => Lib.hid (iTravelGap_yes (p := p) (n := n) (c := d) (L := L.reverse) (w := w) h HR.out.1 HR.out.2.1 HR.out.2.2.1)
    have c5 := fun p d w h => Lib.hid (iTravelLength_yes (p := p) (n := n) (c := d) (L := L.reverse) (w := w) h HR.out.1 HR.out.2.1 HR.out.2.2.2)
    clear hI hn ht hv hg HR
    go_upto_region 9 with (first | (go_at_call 42; (with_reducible refine ((c1 _ ?_).out).mono ?_); (focus ((exact H.out.1); done)); rintro e wi ⟨rfl, hb_wi⟩; have hs_wi := hb_wi.size; (try simp at hs_wi)) | (go_at_call 43; (with_reducible refine ((c2 _ ?_).out).mono ?_); (focus ((exact H.out.1.below hb_wi); done)); rintro e ws ⟨rfl, hb_ws⟩; have hs_ws := hb_ws.size; (try simp at hs_ws)) | (go_at_call 35; (with_reducible refine ((c3 _ ?_).out).mono ?_); (focus ((exact (H.out.1.below hb_wi).below hb_ws); done)); rintro e wg ⟨rfl, hb_wg⟩; have hs_wg := hb_wg.size; (try simp at hs_wg)))
    have hA0 := At.new wg g.1 g.2 31
    have hb0 : Below wd.heap.size wd wg := (by repeat (first | assumption | exact Below.refl _ _ | (refine below_chain ?_ (by assumption) (by first | omega | (simp <;> omega) | simp)) | (refine Below.alloc ?_ (by first | omega | (simp <;> omega) | simp) _) | (apply below_drewN) | (apply below_drew) | (refine Below.setCell ?_ (by first | omega | (simp <;> omega) | simp) _)))
    obtain ⟨X, hX⟩ : ∃ X, X = wg.heap.size := ⟨_, rfl⟩
    rw [← hX] at hA0 ⊢
    refine gen_world (fun W => At W X g ∧ Below wd.heap.size wd W) ⟨hA0, hb0.alloc hb0.size _⟩ (fun we hp => ?_)
    have HE : Hid (At we X g ∧ Ints we (some ⟨B, o, none⟩) (Poly.fl L) ∧ Below w.heap.size w we) := Lib.hid ⟨hp.1, H.out.1.below hp.2, hb_wd.trans (hp.2.mono hs_wd)⟩
    have hXl := hp.1.1
    have hBl : B < we.heap.size := Nat.lt_of_lt_of_le hB hp.2.size
    have hwe := HE.out.2.2.size
    have hLn := H.out.2
    clear hp hA0 hX hb0 hb_wi hb_ws hb_wg hs_wi hs_ws hs_wg c1 c2 c3 hb_wd hs_wd H hB
    have H0 := Lib.hid (Own.empty we 31 2)
    go_wp2_with fail
    go_loopw [8, 9] (fun l i wr => ∃ (k j g1 cap : Nat) (z : Int), k + j = n ∧ i = .int .i64 z ∧ z + 1 = k ∧ l = .slice (some ⟨g1, 0, none⟩) j cap ∧ we.heap.size ≤ g1 ∧ Own wr g1 31 2 j cap (Poly.fl (L.reverse.take j)) ∧ Below we.heap.size we wr) (fun _ i _ => (intOf i + 1).toNat)
    case atStart => exact ⟨n, 0, we.heap.size, 0, _, rfl, rfl, by (try rw [IntKind.wrap_i64]); omega, rfl, Nat.le_refl _, H0.out, (by repeat (first | assumption | exact Below.refl _ _ | (refine below_chain ?_ (by assumption) (by first | omega | (simp <;> omega) | simp)) | (refine Below.alloc ?_ (by first | omega | (simp <;> omega) | simp) _) | (apply below_drewN) | (apply below_drew) | (refine Below.setCell ?_ (by first | omega | (simp <;> omega) | simp) _)))⟩
    case round =>
      clear H0
      obtain ⟨k, j, g1, cp, z, hkj, rfl, hz, rfl, hg1, ho, hb⟩ := hrel
      have hbs := hb.size
      cases k with
      | zero =>
        obtain rfl : j = n := by omega
        obtain rfl : z = -1 := by omega
        have ho' := ho
        rw [List.take_of_length_le (by rw [List.length_reverse, hLn]; exact Nat.le_refl _)] at ho'
        have HO := Lib.hid (And.intro ho' hb)
        have hlg := ho.lt
        obtain ⟨-, x0, x1⟩ := HE.out.1.below hXl hb
        have hXr : X < wr.heap.size := by omega
        clear ho ho' hb
        go_upto_region 15 with (go_at_call 35; (with_reducible refine ((c4 _ _ _ ?_).out).mono ?_); (focus ((exact HO.out.1.pts); done)); rintro e wh ⟨rfl, hb_wh⟩; have hs_wh := hb_wh.size; (try simp at hs_wh))
        obtain ⟨Y, hY⟩ : ∃ Y, Y = wh.heap.size := ⟨_, rfl⟩
        have hAY := At.new wh g.1 g.2 31
        rw [← hY] at hAY ⊢
        have hbh : Below wr.heap.size wr (wh.alloc (.cells #[.int .i64 g.1, .int .i64 g.2] 31)) := (by repeat (first | assumption | exact Below.refl _ _ | (refine below_chain ?_ (by assumption) (by first | omega | (simp <;> omega) | simp)) | (refine Below.alloc ?_ (by first | omega | (simp <;> omega) | simp) _) | (apply below_drewN) | (apply below_drew) | (refine Below.setCell ?_ (by first | omega | (simp <;> omega) | simp) _)))
        refine gen_world (fun W => At W Y g ∧ Below wr.heap.size wr W) ⟨hAY, hbh⟩ (fun wq hp => ?_)
        obtain ⟨⟨-, z0, z1⟩, hq⟩ := hp
        have y0 := (hq.cell (p := ⟨X, 0, none⟩) hXr).trans x0
        have y1 := (hq.cell (p := ⟨X, 1, none⟩) hXr).trans x1
        have HQ : Hid (Own wq g1 31 2 j cp (Poly.fl L.reverse) ∧ Below w.heap.size w wq) := Lib.hid ⟨HO.out.1.below hq, HE.out.2.2.trans ((HO.out.2.trans (hq.mono hbs)).mono hwe)⟩
        clear hAY hbh hY hb_wh hs_wh hq
        have hN1 : max g.1 (IntKind.i64.wrap (0 - g.1)) = (g.1.natAbs : Int) := by rw [IntKind.wrap_i64]; omega
        have hN2 : max g.2 (IntKind.i64.wrap (0 - g.2)) = (g.2.natAbs : Int) := by rw [IntKind.wrap_i64]; omega
        have hN3 : IntKind.i64.wrap ((g.1.natAbs : Int) + (g.2.natAbs : Int)) = (g.1.natAbs : Int) + (g.2.natAbs : Int) := by rw [IntKind.wrap_i64]; omega
        clear x0 x1 c4 HO
        go_wp2_with (go_at_call 42; (with_reducible refine ((c5 _ _ _ ?_).out).mono ?_); (focus ((exact HQ.out.1.pts); done)); rintro e wj ⟨rfl, hb_wj⟩; have hs_wj := hb_wj.size; (try simp at hs_wj))
        all_goals first
          | (go_ret; exact ⟨rfl, HQ.out.2.trans (hb_wj.mono HQ.out.2.size)⟩)
          | (exfalso; omega)
      | succ m =>
        obtain rfl : z = (m : Int) := by omega
        have hmL : m < L.length := by omega
        obtain ⟨B0, o0, e0, -, c0, c1⟩ := (HE.out.2.1.below hb).pt (i := m) hmL
        simp only [Option.some.injEq, Addr.mk.injEq] at e0
        obtain ⟨rfl, rfl, -⟩ := e0
        have HT := Lib.hid (rev_take (L := L) (m := m) (j := j) (by omega))
        have HO := Lib.hid (And.intro ho hb)
        have hlg := ho.lt
        have hm0 : (0 : Int) ≤ (m : Int) := by omega
        have hmn : (m : Int) < (n : Int) := by omega
        have hj12 : j ≤ 12 := by omega
        clear ho hb
        go_wp2_with (at_builtin; refine wp_append _ rfl _ _ 23 rfl 31 _ 2 16 Try.underlying23 info_point rfl (by decide) (by decide) g1 j cp _ rfl (HO.out.1.alloc _) _ 1 1 [(cy L m).1, (cy L m).2] rfl rfl (two_cellsS _ _ _ _ _ rfl) (by omega) ?_; intro g' cap' w' hown hgr hloc hsz'; have HN := Lib.hid (And.intro hown (And.intro hgr hloc)); clear hown hgr hloc hsz')
        have hm : we.heap.size ≤ g' := by
          rcases HN.out.2.2 with h | h
          · omega
          · simp at h; omega
        refine ⟨⟨m, j + 1, g', cap', (m : Int) - 1, by omega, rfl, by omega, rfl, hm, by rw [HT.out, fl_append]; exact HN.out.1, ?_⟩, by (try simp [intOf]); (try omega)⟩
        exact (HO.out.2.alloc hbs (.cells #[.int .i64 (cy L m).1, .int .i64 (cy L m).2] 31)).grown HN.out.2.1 (by simp; omega) (fun k e => by injection e with e; omega)

set_option maxRecDepth 100000 in
theorem walk_long (len cap : Nat) (p : Option Addr) (w : World) (hl : 1048576 < len) :
    Calls Try.prog 8 #[.slice p len cap] w fun e w' => e = .returned (.bool true) ∧ Below w.heap.size w w' := by
  have hl' : (1048576 : Int) < (len : Int) := by omega
  go_enter Try.func8, Try.ntmps8
  go_wp2
  go_ret
  exact ⟨rfl, Below.refl _ _⟩

set_option maxRecDepth 100000 in
theorem lifted (os : Os) (started : os.Started) (H : Type) (enc : TypeId × Value → H) :
    ReturnsInHanded {} Try.checked os 8 .any (Rows.fnTravelLengthSpec.pre6 enc Try.prog Try.f8 Rows.fnTravelLengthRow.domain false) (Rows.fnTravelLengthSpec.post enc Try.prog Try.f8 false true false false) := by
  refine returnsInHanded_of_change (C := Try.checked) own started (by kernel_rfl) Try.func8
    (ChangeSpec.witness6 (enc := enc) (C := Try.checked) false ⟨#[], #[.slice none 0 0], []⟩ 8 (by kernel_rfl) (by kernel_rfl) (by kernel_rfl) (by kernel_rfl)) ?_
  intro W base args ds gs before hval0 hW hcnd _
  have hval : ∀ (j : Nat) t v, Try.f8.params[j]? = some t → args[j]? = some v → Value.okWide Try.prog W .any base t v := hval0
  have hW' := hW
  obtain ⟨p, q, hA0, hV, rfl, hfz, hnd⟩ := hW
  have hA : DataW.TrodAll enc Try.prog W 0 (fun _ => true) true Try.f8.params.toList args.toList ds p := hA0
  rw [Try.params8] at hA hval
  obtain ⟨v0, vs0, d0, ds0, p0, q0, hargs, rfl, rfl, h0, r0⟩ := trodAll_cons hA
  obtain ⟨rfl, rfl, rfl⟩ := trodAll_nil r0
  obtain rfl : args = #[v0] := by cases args; simp_all
  obtain ⟨rfl, rfl⟩ := trodVars_none hV
  obtain ⟨a0, len0, cap0, rfl⟩ := okWide_slice Try.underlying22 (hval 0 22 v0 rfl rfl)
  have k0 := h0
  have lt0 : ∀ x ∈ p0, x.block < W.heap.size := by obtain ⟨m, hm⟩ := k0; exact DataW.trod_lt m _ _ _ hm
  obtain ⟨z0, w0⟩ : ∃ zs, IsRow .u8 W a0 len0 cap0 zs := by
    obtain ⟨fuel, hf⟩ := h0
    rcases open_ints Try.underlying22 Try.underlying5 (by kernel_rfl) hf with ⟨hcs, _⟩ | ⟨x, l, c, zs, hcs, _, hl, hm, hz, _, hcell, hwz⟩
    · simp [Value.cells] at hcs
      obtain ⟨rfl, rfl, rfl⟩ := hcs
      exact ⟨[], .inl ⟨rfl, rfl, rfl, rfl⟩⟩
    · simp [Value.cells] at hcs
      obtain ⟨rfl, rfl, rfl⟩ := hcs
      exact ⟨zs, .inr ⟨_, rfl, hl, hm, by simpa using hz, hcell, hwz⟩⟩
  clear hA0 hval0
  have hw : Calls Try.prog 8 #[.slice a0 len0 cap0] W fun e w' => e = .returned (.bool true) ∧ Below W.heap.size W w' := by
    by_cases hl : len0 ≤ 1048576
    · exact walk len0 cap0 a0 W hl (Lib.hid (code_of_row w0 hl))
    · exact walk_long len0 cap0 a0 W (by omega)
  refine hw.mono fun e W' ⟨he, bel⟩ => ?_
  subst he
  exact ⟨_, rfl, _, _, _, [], _, [], hW', trodAll_mk1 (shut_bool Try.underlying4 _), (trodAll_cons_mk (Below.trod laidOut (by kernel_rfl) (of_decide_eq_true (by kernel_rfl)) k0 bel lt0) trodAll_mk0), rfl, bel.frame _, fun h => by cases h⟩

theorem over : Rows.fnTravelLengthRow.holds Try.pinned (OpenSpec.ofChange Rows.fnTravelLengthSpec) :=
  OpenClaim.holds_of_wide 8 Try.f8 rfl rfl rfl rfl rfl rfl rfl ⟨rfl, rfl, rfl, rfl, rfl⟩ rfl rfl rfl rfl rfl (by kernel_rfl) Try.func8 (by unfold joinedFacts; rw [seat_enter, seat_lift, seat_make]; kernel_rfl)
    (of_decide_eq_true (by kernel_rfl)) (by unfold Func.isWrapper; first | (rw [if_pos (by decide +kernel)]; kernel_rfl) | (rw [if_neg (by decide +kernel)]; exact ⟨rfl, rfl⟩))
    (fun os started H enc _ => lifted os started H enc)

theorem proved : Rows.FnTravelLengthSaid := over
end Go.Proofs.Ytgncjpakclbegaa.fnTravelLength

