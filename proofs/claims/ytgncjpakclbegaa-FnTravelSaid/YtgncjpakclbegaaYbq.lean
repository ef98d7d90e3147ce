/-
  The corners the other way round, by both programs.
-/
import Derived.Test.YtgncjpakclbegaaYip
import Derived.Test.YtgncjpakclbegaaYsp
namespace Go.Proofs.Ytgncjpakclbegaa
open Go.RowKit Poly
set_option linter.unusedVariables false

section
variable {p : Option Addr} {c : Nat} {L : List P2} {w : World}
theorem iPolyBack_no (h : Ints w p (fl L)) (hl : L.length ≤ 4000000000000000000) (hok : okP L = false) :
    Calls Try.prog 20 #[.slice p L.length c] w fun e w' => e = .returned (.tuple #[.slice none 0 0, .bool false]) ∧ Below w.heap.size w w' := by
  have H := Lib.hid h
  have c1 := fun w h => Lib.hid (iOf_no p c L w h hl hok)
  clear h hok
  go_enter Try.func20, Try.ntmps20
  go_wp2_with ((go_at_call 65; (with_reducible refine ((c1 _ ?_).out).mono ?_); (focus ((exact H.out); done)); rintro e wa ⟨rfl, hb_wa⟩; have hs_wa := hb_wa.size; (try simp at hs_wa)))
  exact bodyPost_ret (v := .tuple #[.slice none 0 0, .bool false]) (by simp [results, Try.results20, go_sem]) rfl ⟨rfl, (by repeat (first | assumption | exact Below.refl _ _ | (refine below_chain ?_ (by assumption) (by first | omega | (simp <;> omega) | simp)) | (refine Below.alloc ?_ (by first | omega | (simp <;> omega) | simp) _) | (apply below_drewN) | (apply below_drew) | (refine Below.setCell ?_ (by first | omega | (simp <;> omega) | simp) _)))⟩
set_option maxHeartbeats 2000000 in
theorem iPolyBack_yes (h : Ints w p (fl L)) (hc : L.length ≤ c) (hok : okP L = true) :
    Calls Try.prog 20 #[.slice p L.length c] w fun e w' => ∃ g cap : Nat, e = .returned (.tuple #[.slice (some ⟨g, 0, none⟩) L.length cap, .bool true]) ∧ w.heap.size ≤ g ∧ Own w' g 31 2 L.length cap (fl (backL L)) ∧ Below w.heap.size w w' := by
  have H := Lib.hid h
  have c1 := fun w h => Lib.hid (iOf_yes p c L w h hc hok)
  have c2 := fun (A : Nat → Nat) (n₀ : Nat) w h hn => Lib.hid (iBack (n₀ := n₀) (A := A) (L := L) (w := w) h hn hok)
  have c3 := fun (A : Nat → Nat) (n₀ : Nat) w h hn => Lib.hid (iPoints (n₀ := n₀) (A := A) (L := backL L) (w := w) h hn (okP_back hok))
  rw [back_len] at c3
  clear h hok
  go_enter Try.func20, Try.ntmps20
  go_wp2_with (first | (go_at_call 65; (with_reducible refine ((c1 _ ?_).out).mono ?_); (focus ((exact H.out); done)); rintro e wa ⟨A, ⟨rfl, hR⟩, hb_wa⟩; have hs_wa := hb_wa.size; (try simp at hs_wa)) | (go_at_call 66; (with_reducible refine ((c2 A wa.heap.size _ ?_ ?_).out).mono ?_); (focus ((exact hR.below ((Below.refl _ _).alloc (Nat.le_refl _) _)); done)); (focus (((simp <;> omega)); done)); rintro e wb ⟨A', ⟨rfl, hR'⟩, hb_wb⟩; have hs_wb := hb_wb.size; (try simp at hs_wb)) | (go_at_call 67; (with_reducible refine ((c3 A' wb.heap.size _ ?_ ?_).out).mono ?_); (focus ((exact hR'); done)); (focus ((exact Nat.le_refl _); done)); rintro e wd ⟨g, cap, rfl, hg, ho, hb_wd⟩; have hs_wd := hb_wd.size; (try simp at hs_wd)))
  exact bodyPost_ret (v := .tuple #[.slice (some ⟨g, 0, none⟩) L.length cap, .bool true]) (by simp [results, Try.results20, go_sem]) rfl ⟨g, cap, rfl, by omega, ho, (by repeat (first | assumption | exact Below.refl _ _ | (refine below_chain ?_ (by assumption) (by first | omega | (simp <;> omega) | simp)) | (refine Below.alloc ?_ (by first | omega | (simp <;> omega) | simp) _) | (apply below_drewN) | (apply below_drew) | (refine Below.setCell ?_ (by first | omega | (simp <;> omega) | simp) _)))⟩
theorem sPolyBack_no (h : Ints w p (fl L)) (hl : L.length ≤ 4000000000000000000) (hok : okP L = false) :
    Calls Try.prog 103 #[.slice p L.length c] w fun e w' => ∃ g : Nat, e = .returned (.tuple #[.slice (some ⟨g, 0, none⟩) 0 0, .bool false]) ∧ g < w'.heap.size ∧ Below w.heap.size w w' := by
  have c1 := fun w h => Lib.hid (sPoints (p := p) (c := c) (L := L) (w := w) h hl)
  rw [hok] at c1
  have H := Lib.hid h
  clear h hok
  go_enter Try.func103, Try.ntmps103
  go_wp2_with ((go_at_call 62; (with_reducible refine ((c1 _ ?_).out).mono ?_); (focus ((exact H.out); done)); rintro e wa ⟨rfl, hb_wa⟩; have hs_wa := hb_wa.size; (try simp at hs_wa)))
  exact bodyPost_ret (v := .tuple #[.slice (some ⟨wa.heap.size, 0, none⟩) 0 0, .bool false]) (by simp [results, Try.results103, go_sem]) rfl ⟨wa.heap.size, rfl, by simp, (by repeat (first | assumption | exact Below.refl _ _ | (refine below_chain ?_ (by assumption) (by first | omega | (simp <;> omega) | simp)) | (refine Below.alloc ?_ (by first | omega | (simp <;> omega) | simp) _) | (apply below_drewN) | (apply below_drew) | (refine Below.setCell ?_ (by first | omega | (simp <;> omega) | simp) _)))⟩
theorem back_take {i : Nat} (hi : i < L.length) (h0 : 0 < i) : (backL L).take (L.length - (i - 1)) = (backL L).take (L.length - i) ++ [cy L i] := by
  have h1 : (backL L)[L.length - i]? = some (cy L i) := by
    have h2 : L.length - i < (backL L).length := by rw [back_len]; omega
    rw [cy_lt h2, cy_back L (by omega), Nat.mod_eq_of_lt (show L.length - i < L.length by omega), show L.length - (L.length - i) = i by omega]
  rw [show L.length - (i - 1) = L.length - i + 1 by omega, List.take_add_one, h1]
  rfl
set_option maxHeartbeats 4000000 in
theorem sPolyBack_yes (h : Ints w p (fl L)) (hl : L.length ≤ 4000000000000000000) (hok : okP L = true) :
    Calls Try.prog 103 #[.slice p L.length c] w fun e w' => ∃ g cap : Nat, e = .returned (.tuple #[.slice (some ⟨g, 0, none⟩) L.length cap, .bool true]) ∧ w.heap.size ≤ g ∧ Own w' g 31 2 L.length cap (fl (backL L)) ∧ Below w.heap.size w w' := by
  have c1 := fun w h => Lib.hid (sPoints (p := p) (c := c) (L := L) (w := w) h hl)
  rw [hok] at c1
  obtain ⟨hl3, hl12⟩ := okP_len hok
  have H := Lib.hid (And.intro h hok)
  obtain ⟨B, o, rfl, hB, e0, e1⟩ := h.pt (i := 0) (by omega)
  simp only [Nat.zero_mul, Nat.add_zero] at e0 e1
  clear h hok
  go_enter Try.func103, Try.ntmps103
  go_upto_region 3 with ((go_at_call 62; (with_reducible refine ((c1 _ ?_).out).mono ?_); (focus ((exact H.out.1); done)); rintro e wa ⟨rfl, hb_wa⟩; have hs_wa := hb_wa.size; (try simp at hs_wa)))
  have d0 := (hb_wa.cell (p := ⟨B, o, none⟩) hB).trans e0
  have d1 := (hb_wa.cell (p := ⟨B, o + 1, none⟩) hB).trans e1
  have hBa : B < wa.heap.size := by omega
  have HA := Lib.hid hb_wa
  clear hb_wa e0 e1 c1
  go_wp2_with fail
  have ho0 : Own (wa.alloc (.cells #[.int .i64 (cy L 0).1, .int .i64 (cy L 0).2] 31)) wa.heap.size 31 2 1 1 (fl ((backL L).take 1)) := by
    have e : (backL L).take 1 = [cy L 0] := by
      have h2 : 0 < (backL L).length := by rw [back_len]; omega
      have := cy_lt h2
      rw [cy_back L (by omega), Nat.zero_mod, Nat.sub_zero, show cy L L.length = cy L 0 by have := cy_add (L := L) 0; rw [Nat.zero_add] at this; exact this] at this
      rw [List.take_add_one, this]; rfl
    rw [e]
    exact .of (Deep.blk_alloc_new _ _) (by omega) (by unfold maxLen; omega) (by simp) (by simp [ivs, fl]) (by simp [fl])
  have HO := Lib.hid ho0
  clear ho0 d0 d1
  have hS : ∃ S, S = wa.heap.size := ⟨_, rfl⟩
  go_loopw [4, 5] (fun s i wr => ∃ q g cap : Nat, q < L.length ∧ i = .int .i64 q ∧ s = .slice (some ⟨g, 0, none⟩) (L.length - q : Nat) cap ∧ wa.heap.size ≤ g ∧ Own wr g 31 2 (L.length - q) cap (fl ((backL L).take (L.length - q))) ∧ Below wa.heap.size wa wr) (fun _ i _ => (intOf i).toNat)
  case atStart => exact ⟨L.length - 1, wa.heap.size, 1, by omega, by rw [show ((L.length - 1 : Nat) : Int) = (L.length : Int) - 1 by omega], by rw [show L.length - (L.length - 1) = 1 by omega], Nat.le_refl _, by rw [show L.length - (L.length - 1) = 1 by omega]; exact HO.out, (Below.refl _ _).alloc (Nat.le_refl _) _⟩
  case round =>
    clear HO
    obtain ⟨q, g, cap, hq, rfl, rfl, hg, ho, hb⟩ := hrel
    have hbs := hb.size
    by_cases h0 : 0 < q
    · obtain ⟨B', o', e', hB', c0, c1⟩ := ((H.out.1.below HA.out).below hb).pt hq
      simp at e'
      obtain ⟨rfl, rfl⟩ := e'
      have h0' : (0 : Int) < (q : Int) := by omega
      have hq' : (q : Int) < (L.length : Int) := by omega
      obtain ⟨m, hm⟩ : ∃ m, L.length - q = m := ⟨_, rfl⟩
      rw [hm] at ho ⊢
      have hm12 : m ≤ 12 := by omega
      have hgl := ho.lt
      have hO : Own (wr.alloc (.cells #[.int .i64 (cy L q).1, .int .i64 (cy L q).2] 31)) g 31 2 m cap (fl ((backL L).take m)) := ho.alloc _
      have HK := Lib.hid (And.intro hO (And.intro hm hb))
      clear ho hO hm hb
      go_wp2_with (at_builtin; refine wp_append _ rfl _ _ 23 rfl 31 _ 2 16 Try.underlying23 info_point rfl (by decide) (by decide) g m cap _ rfl HK.out.1 _ 1 1 [(cy L q).1, (cy L q).2] rfl rfl (two_cells wr _ _ _) (by omega) ?_; intro g' cap' w' hown hgr hloc hlt; have HN := Lib.hid (And.intro hown (And.intro hgr (And.intro hloc hlt))); clear hown hgr hloc hlt)
      go_roundw
      case rel =>
        have hloc := HN.out.2.2.1
        have hgr := HN.out.2.1
        have hbA := HK.out.2.2.alloc hbs (.cells #[.int .i64 (cy L q).1, .int .i64 (cy L q).2] 31)
        refine ⟨q - 1, g', cap', by omega, by rw [show ((q - 1 : Nat) : Int) = (q : Int) - 1 by omega], by rw [show L.length - (q - 1) = m + 1 by have := HK.out.2.1; omega], ?_, ?_, ?_⟩
        · rcases hloc with h | h <;> (rw [h]; first | omega | (simp; omega))
        · rw [back_take hq h0, HK.out.2.1, fl_append, show L.length - (q - 1) = m + 1 by have := HK.out.2.1; omega]
          exact HN.out.1
        · exact below_gr hbA hgr hg (by simp; omega)
      case measure => simp [intOf]; omega
    · have e : q = 0 := by omega
      subst e
      have h0' : ¬ (0 : Int) < ((0 : Nat) : Int) := by omega
      have HK := Lib.hid (And.intro ho hb)
      clear ho hb
      go_wp2_with fail
      refine bodyPost_ret (v := .tuple #[.slice (some ⟨g, 0, none⟩) L.length cap, .bool true]) (by simp [results, Try.results103, go_sem]) rfl ⟨g, cap, rfl, by omega, ?_, HA.out.trans (HK.out.2.mono hs_wa)⟩
      have := HK.out.1
      rw [Nat.sub_zero, List.take_of_length_le (by rw [back_len]; exact Nat.le_refl _)] at this
      exact this
end
end Go.Proofs.Ytgncjpakclbegaa
