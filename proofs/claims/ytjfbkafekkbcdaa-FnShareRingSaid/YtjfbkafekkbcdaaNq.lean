/-
  The nodes that are linked with a node, collected by impl.linked.
-/
import Derived.Test.YtjfbkafekkbcdaaNn
import Derived.Test.YtjfbkafekkbcdaaNBfs
import Derived.Test.YtjfbkafekkbcdaaNLs
namespace Go.Proofs.Ytjfbkafekkbcdaa
open Go.RowKit
set_option linter.unusedVariables false

def inV (F : List Int) (i : Int) : Value := .bool (decide (i ∈ F))
theorem inV_add (F : List Int) (y : Int) : upd (inV F) y (.bool true) = inV (F ++ [y]) := by
  funext i
  by_cases e : i = y
  · subst e; simp [upd, inV]
  · simp [upd, inV, e]
theorem inV_one (y : Int) : upd (fun _ => Value.bool false) y (.bool true) = inV [y] := by
  funext i
  by_cases e : i = y
  · subst e; simp [upd, inV]
  · simp [upd, inV, e]

set_option maxHeartbeats 4000000 in
theorem linked_is (n : Int) (rs : List Rn) (B cnt : Nat) (f : Int → Value) (node : Int) (w w0 : World) (hn : nOk n rs = true) (h : Near w0 w cnt B B f (nb rs)) (h0 : 0 ≤ node) (h1 : node < n) :
    Calls Try.prog 80 #[.map (some B), .int .i64 node] w fun e w' => ∃ F v, e = .returned v ∧ NewInts w F v w' ∧ Cls n rs node F ∧ F.length ≤ 6 := by
  obtain ⟨hn2, hn6, hl12, hall⟩ := nOk_true hn
  have hok : Hid (∀ r ∈ rs, 0 ≤ r.f ∧ r.f < n ∧ 0 ≤ r.t ∧ r.t < n) := Lib.hid (fun r hr => by
    obtain ⟨i, hi⟩ := List.getElem?_of_mem hr
    obtain ⟨a1, a2, a3, a4, _⟩ := rOk_true (hall i r hi)
    exact ⟨a1, a2, a3, a4⟩)
  have HN := Lib.hid h
  have hBl := h.map.lt
  have hwn := wf_node h0 (by omega : node < 100)
  have HF := Lib.hid (Own.lit w 3 [node] (by simp [maxLen]))
  have HB := Lib.hid (Bfs.first (rs := rs) h0 h1)
  obtain ⟨w2, hins, hM2, hg2⟩ := (MapV.made (w.alloc (.cells #[.int .i64 node] 3)) Try.prog 3 (.bool false)).update (t := 98) (e := 4) keyInt Try.underlying3 Try.underlying98 (by unfold maxLen; omega) hwn (.bool true)
  rw [inV_one] at hM2
  have hs2 := hg2.size
  simp at hins hs2
  have H2 := Lib.hid (And.intro hM2 hg2)
  have hmm := @run_makeMap Try.prog
  clear h hall hn hM2 hg2
  go_enter Try.func80, Try.ntmps80
  go_wp2_with fail
  clear hmm hins
  have hB2 : Below w.heap.size w w2 := below_own (((Below.refl _ _).alloc (Nat.le_refl _) _).alloc (by simp) _) H2.out.2 (fun g e => by simp at e; omega)
  have hO2 := Lib.hid ((HF.out.alloc (.map #[] 0)).grown H2.out.2 (by simp))
  clear HF
  go_loopw [5, 7] (fun v i wr => ∃ (a g cap : Nat) (F : List Int), i = .int .i64 a ∧ v = .slice (some ⟨g, 0, none⟩) F.length cap ∧ a ≤ F.length ∧ (w.heap.size ≤ g ∧ g ≠ w.heap.size + 1) ∧ Own wr g 3 1 F.length cap F ∧ MapV Try.prog 3 wr (w.heap.size + 1) F.length (.bool false) (inV F) ∧ Bfs n rs node a 0 F ∧ Below w.heap.size w wr) (fun _ i _ => 7 - (intOf i).toNat)
  case atStart => exact ⟨0, _, _, [node], rfl, rfl, by simp, ⟨Nat.le_refl _, by omega⟩, hO2.out, by simpa using H2.out.1, HB.out, hB2⟩
  case round =>
    clear HB hO2 H2 hB2 hs2
    obtain ⟨a, g, cap, F, rfl, rfl, ha, ⟨hg, hgS⟩, how, hmv, hbf, hbr⟩ := hrel
    have hbs := hbr.size
    have hlo := how.lt
    have hFl : F.length ≤ 6 := by have := hbf.len (by omega); omega
    have HO := Lib.hid (And.intro how (And.intro hmv hbf))
    by_cases hlt : a < F.length
    · obtain ⟨x, hx⟩ : ∃ x, F[a]? = some x := ⟨_, List.getElem?_eq_getElem hlt⟩
      have e0 := how.cells hx
      obtain ⟨hx0, hx1⟩ := hbf.rng x (List.mem_of_getElem? hx)
      have hwx := wf_node hx0 (by omega : x < 100)
      have hlk := (HN.out.map.below (hbr.mono (Nat.le_refl _))).lookup (t := 94) keyInt Try.underlying3 Try.underlying94 (zeroInts wr) hwx
      obtain ⟨q, qc, hv, hq⟩ := HN.out.nbs.ints x
      rw [hv] at hlk
      have hql := nb_len rs x
      have HX := Lib.hid (And.intro hx hq)
      clear how hmv hbf hx hv hq
      go_wp2_with fail
      go_loopw [5, 28] (fun v i wr => ∃ (k g cap : Nat) (F' : List Int), i = .int .i64 k ∧ v = .slice (some ⟨g, 0, none⟩) F'.length cap ∧ k ≤ (nb rs x).length ∧ (w.heap.size ≤ g ∧ g ≠ w.heap.size + 1) ∧ F'[a]? = some x ∧ Own wr g 3 1 F'.length cap F' ∧ MapV Try.prog 3 wr (w.heap.size + 1) F'.length (.bool false) (inV F') ∧ Bfs n rs node a k F' ∧ Below w.heap.size w wr) (fun _ i _ => (nb rs x).length - (intOf i).toNat)
      case atStart => exact ⟨0, g, cap, F, rfl, rfl, Nat.zero_le _, ⟨hg, hgS⟩, HX.out.1, HO.out.1, HO.out.2.1, HO.out.2.2, hbr⟩
      case round =>
        have HQ := Lib.hid (HX.out.2)
        have ha6 : a < 6 := by omega
        clear HX HO hlk e0 hlo hFl hlt ha
        have HBR := Lib.hid hbr
        clear hbr hbs
        rename World => wq
        obtain ⟨k, g, cap, F', rfl, rfl, hk, ⟨hg, hgS⟩, hx, how, hmv, hbf, hbr⟩ := hrel
        have hbs := hbr.size
        have hlo := how.lt
        have hFl : F'.length ≤ 6 := by have := hbf.len (by omega); omega
        have HO := Lib.hid (And.intro how (And.intro hmv (And.intro hbf hx)))
        by_cases hlt : k < (nb rs x).length
        · obtain ⟨y, hy⟩ : ∃ y, (nb rs x)[k]? = some y := ⟨_, List.getElem?_eq_getElem hlt⟩
          obtain ⟨D, o, y', rfl, hy', hD, e1⟩ := (HQ.out.below hbr).at hlt
          obtain rfl : y = y' := by rw [hy] at hy'; cases hy'; rfl
          clear hy'
          obtain ⟨r, hr, hry⟩ := nb_mem (List.mem_of_getElem? hy)
          have hy0 : 0 ≤ y ∧ y < n := by
            obtain ⟨q0, q1, q2, q3⟩ := hok.out r hr
            rcases hry with ⟨_, rfl⟩ | ⟨_, rfl⟩ <;> exact ⟨by assumption, by assumption⟩
          have hwy := wf_node hy0.1 (by omega : y < 100)
          have hls := hmv.lookup (t := 98) (e := 4) keyInt Try.underlying3 Try.underlying98 (zeroBool _) hwy
          by_cases hm : y ∈ F'
          · have hin : inV F' y = .bool true := by simp [inV, hm]
            rw [hin] at hls
            have HY := Lib.hid (And.intro hy hm)
            clear how hmv hbf hx hy hm hin hr hry
            go_wp2_with fail
            go_roundw
            case rel => exact ⟨k + 1, g, cap, F', by go_num, rfl, by omega, ⟨hg, hgS⟩, HO.out.2.2.2, HO.out.1, HO.out.2.1, HO.out.2.2.1.seen HO.out.2.2.2 HY.out.1 HY.out.2, hbr⟩
            case measure => simp [intOf]; omega
          · have hin : inV F' y = .bool false := by simp [inV, hm]
            rw [hin] at hls
            obtain ⟨w1, hup, hM1, hg1⟩ := hmv.update (t := 98) (e := 4) keyInt Try.underlying3 Try.underlying98 (by unfold maxLen; omega) hwy (.bool true)
            rw [inV_add] at hM1
            have hs1 := hg1.size
            have hB1 : Below w.heap.size w w1 := below_own hbr hg1 (fun g e => by simp at e; omega)
            have hO1 := how.grown hg1 hgS
            have hSl := hM1.lt
            have HY := Lib.hid (And.intro hy (And.intro hm (And.intro hM1 (And.intro hB1 hO1))))
            clear how hmv hbf hx hy hm hin hr hry hM1 hg1 hB1 hO1
            go_wp2_with (at_builtin; refine wp_append _ rfl _ _ 23 rfl 3 _ 1 8 Try.underlying23 info_int rfl (by decide) (by decide) _ F'.length cap F' rfl (HY.out.2.2.2.2.alloc _) _ _ _ [y] rfl rfl (one_cell _ _ _) (by omega) ?_; intro g' cap' w' hown hgr hloc hsz; have HN := Lib.hid (And.intro hown (And.intro hgr hloc)); clear hown hgr hloc)
            go_roundw
            case rel =>
              obtain ⟨hy, hm, hM1, hB1, hO1⟩ := HY.out
              obtain ⟨hown, hgr, hloc⟩ := HN.out
              have hx := HO.out.2.2.2
              have hlen : (F' ++ [y]).length = F'.length + 1 := by simp
              refine ⟨k + 1, g', cap', F' ++ [y], by go_num, by rw [hlen], by omega, ?_, ?_, ?_, ?_, HO.out.2.2.1.add hok.out hx hy hm, ?_⟩
              · rcases hloc with rfl | rfl
                · exact ⟨hg, hgS⟩
                · simp; omega
              · rw [List.getElem?_append_left (List.getElem?_eq_some_iff.1 hx).1]; exact hx
              · rw [hlen]; exact hown
              · rw [hlen]; exact (hM1.alloc _).kept hgr (by simp; omega)
              · exact below_gr (hB1.alloc hB1.size _) hgr hg (by simp; have := hB1.size; omega)
            case measure => simp [intOf]; omega
        · have e : k = (nb rs x).length := by omega
          subst e
          clear how hmv hbf hx
          go_wp2_with fail
          go_roundw
          case rel => exact ⟨a + 1, g, cap, F', by go_num, rfl, by have := (List.getElem?_eq_some_iff.1 HO.out.2.2.2).1; omega, ⟨hg, hgS⟩, HO.out.1, HO.out.2.1, HO.out.2.2.1.next HO.out.2.2.2 (Nat.le_refl _), hbr⟩
          case measure => simp [intOf]; omega
    · clear how hmv hbf
      go_wp2_with fail
      go_ret
      exact ⟨F, .slice (some ⟨g, 0, none⟩) F.length cap, rfl, ⟨g, cap, rfl, hg, HO.out.1, hbr⟩, HO.out.2.2.cls (by omega), hFl⟩
end Go.Proofs.Ytjfbkafekkbcdaa
