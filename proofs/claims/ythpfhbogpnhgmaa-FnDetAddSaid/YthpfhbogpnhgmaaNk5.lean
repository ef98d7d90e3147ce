/-
  How the laws on draws copy a matrix.
-/
import Derived.Test.YthpfhbogpnhgmaaNk4
import Derived.Test.YthpfhbogpnhgmaaMv
namespace Go.Proofs.Ythpfhbogpnhgmaa
open Go.RowKit
set_option linter.unusedVariables false

set_option maxHeartbeats 4000000 in
set_option maxRecDepth 100000 in
theorem copyG (k lo g0 cap0 : Nat) (bs0 : List (Nat × Nat)) (L : List (List Int)) (w : World) (h : GridO w 3 29 lo g0 cap0 bs0 L) (hk : L.length = k) (hl : k ≤ 8) (hr : ∀ r ∈ L, r.length ≤ 8) :
    Calls Try.prog 18 #[.slice (some ⟨g0, 0, none⟩) k cap0] w fun e w' => ∃ (bs : List (Nat × Nat)) (g cap : Nat), e = .returned (.slice (some ⟨g, 0, none⟩) k cap) ∧ GridO w' 3 29 w.heap.size g cap bs L ∧ Below w.heap.size w w' := by
  have H := Lib.hid (And.intro h (And.intro hk hr))
  have HE := Lib.hid (GridO.empty w 3 29 w.heap.size (Nat.le_refl _))
  have hlw := h.lt
  clear h hk hr
  go_enter Try.func18, Try.ntmps18
  go_wp2_with fail
  go_loopw [3, 4] (fun v i wr => ∃ (j g cap : Nat) (bs : List (Nat × Nat)), j ≤ k ∧ i = .int .i64 j ∧ v = .slice (some ⟨g, 0, none⟩) j cap ∧ GridO wr 3 29 w.heap.size g cap bs (L.take j) ∧ Below w.heap.size w wr) (fun _ i _ => k - (intOf i).toNat)
  case atStart => exact ⟨0, _, _, _, Nat.zero_le _, rfl, rfl, HE.out, (by repeat (first | assumption | exact Below.refl _ _ | (refine below_chain ?_ (by assumption) (by first | omega | (simp <;> omega) | simp)) | (refine Below.alloc ?_ (by first | omega | (simp <;> omega) | simp) _) | (apply below_drewN) | (apply below_drew) | (refine Below.setCell ?_ (by first | omega | (simp <;> omega) | simp) _)))⟩
  case round =>
    clear HE
    rename World => wr
    obtain ⟨j, g, cap, bs, hj, rfl, rfl, hg, hbr⟩ := hrel
    have hbs := hbr.size
    have hlg := hg.lt
    have hlow := hg.low
    have hzb := hg.z
    have HG := Lib.hid (And.intro hg (And.intro hbr hzb))
    clear hg hbr hzb
    by_cases hlt : j < k
    · have hlt' : (j : Int) < (k : Int) := by omega
      have hlg0 : g0 < wr.heap.size := by omega
      obtain ⟨b, c, r, hb, hr, e0, ho, hlb, hbg⟩ := (H.out.1.below HG.out.2.1).at (i := j) (by rw [H.out.2.1]; exact hlt)
      have hrl := H.out.2.2 r (List.mem_of_getElem? hr)
      obtain ⟨n, hn⟩ : ∃ n, r.length = n := ⟨_, rfl⟩
      rw [hn] at e0 ho hrl
      have HE := Lib.hid (Own.empty wr 3 1)
      have hxl : (L.take j).length = j := by rw [List.length_take, H.out.2.1]; omega
      have HB := Lib.hid (And.intro hr (And.intro ho (And.intro hn hxl)))
      clear hb hr ho hn hxl
      go_wp2_with (first | (at_builtin; refine wp_append _ rfl _ _ 29 rfl 3 _ 1 8 Try.underlying29 info_int rfl (by decide) (by decide) wr.heap.size 0 0 [] rfl HE.out ⟨b, 0, none⟩ n c r rfl (by rw [HB.out.2.2.1, Nat.mul_one]) (ints_cellsA ((HB.out.2.1.alloc (.cells #[] 3)).ints)) (by omega) ?_; intro g1 d1 w1 hown hg1 hloc hsz1; have HN := Lib.hid (And.intro hown (And.intro hg1 hloc)); have hB1 := Lib.hid (below_gr ((Below.refl _ wr).alloc (Nat.le_refl _) (.cells #[] 3)) hg1 (Nat.le_refl _) (by simp)); have hT := Lib.hid (HG.out.1.below hB1.out); clear hown hg1 hloc) | (at_builtin; refine wp_appendV _ rfl _ _ 23 rfl 29 _ 24 Try.underlying23 info_ints rfl (by decide) g j cap (rowVs bs (L.take j)) rfl (by have := (hT.out.alloc (.cells #[.slice (some ⟨g1, 0, none⟩) (0 + n) d1] 29)).top; rw [HB.out.2.2.2] at this; simpa using this) ⟨w1.heap.size, 0, none⟩ 1 1 [.slice (some ⟨g1, 0, none⟩) n d1] rfl rfl (cell_one_new w1 _ _) (by intro u hu; simp at hu; subst hu; rfl) (by omega) ?_; intro g3 d3 w3 hown3 hg3 hloc3 hsz3; have HN3 := Lib.hid (And.intro hown3 (And.intro hg3 hloc3)); clear hown3 hg3 hloc3))
      obtain ⟨hown, hg1, hloc⟩ := HN.out
      obtain ⟨hown3, hg3, hloc3⟩ := HN3.out
      rw [Nat.zero_add, List.nil_append] at hown
      have hl1 : wr.heap.size ≤ g1 := by
        rcases hloc with e | e
        · omega
        · simp at e; omega
      have hsz0 : wr.heap.size ≤ w1.heap.size := hB1.out.size
      have hgg := (hT.out.alloc (.cells #[.slice (some ⟨g1, 0, none⟩) n d1] 29)).push HB.out.2.2.2 (row := r) HB.out.2.2.1 hg3 hloc3 hown3 (hown.alloc _) ⟨by omega, by omega⟩ (fun i b' c' hb' e => by have := HG.out.2.2 i b' c' hb'; omega)
      have htk : L.take j ++ [r] = L.take (j + 1) := by rw [List.take_add_one, HB.out.1]; rfl
      rw [htk] at hgg
      exact ⟨⟨j + 1, g3, d3, _, by omega, by go_num, rfl, hgg, below_gr ((HG.out.2.1.trans (hB1.out.mono hbs)).alloc (by omega) _) hg3 hlow (by simp; omega)⟩, by simp [intOf]; omega⟩
    · have e : j = k := by omega
      subst e
      go_wp2_with fail
      have h3 := HG.out.1
      rw [List.take_of_length_le (by rw [H.out.2.1]; exact Nat.le_refl _)] at h3
      exact bodyPost_ret (v := .slice (some ⟨g, 0, none⟩) j cap) (by simp [results, Try.results18, go_sem]) rfl ⟨bs, g, cap, rfl, h3, HG.out.2.1⟩
end Go.Proofs.Ythpfhbogpnhgmaa
