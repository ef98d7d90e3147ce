/-
  How the laws copy, mark and look at lists of lists of integers.
-/
import Derived.Test.YthpfhbogpnhgmaaNj
namespace Go.Proofs.Ythpfhbogpnhgmaa
open Go.RowKit
set_option linter.unusedVariables false

set_option maxHeartbeats 2000000 in
set_option maxRecDepth 100000 in
theorem toG (k c : Nat) (p : Option Addr) (L : List (List Int)) (w : World) (h : GRead w p L) (hk : L.length = k) (hl : k ≤ 1048576) (hr : ∀ r ∈ L, r.length ≤ 1048576) :
    Calls Try.prog 32 #[.slice p k c] w fun e w' => ∃ bs, e = .returned (.slice (some ⟨w.heap.size, 0, none⟩) k k) ∧ GridO w' 3 29 w.heap.size w.heap.size k bs L ∧ Below w.heap.size w w' := by
  have hm := fun w => made_rows w k hl
  have H0 := Lib.hid (GridT.made w 3 29 k hl)
  have H := Lib.hid (And.intro h (And.intro hk hr))
  clear h hk hr
  go_enter Try.func32, Try.ntmps32
  go_wp2_with fail
  clear hm
  go_loopw [4] (fun i wr => ∃ (j : Nat) (bs : List (Nat × Nat)), j ≤ k ∧ i = .int .i64 j ∧ GridT wr 3 29 w.heap.size w.heap.size k bs (L.take j) ∧ Below w.heap.size w wr) (fun i _ => k - (intOf i).toNat)
  case atStart => exact ⟨0, [], Nat.zero_le _, rfl, by simpa using H0.out, (by repeat (first | assumption | exact Below.refl _ _ | (refine below_chain ?_ (by assumption) (by first | omega | (simp <;> omega) | simp)) | (refine Below.alloc ?_ (by first | omega | (simp <;> omega) | simp) _) | (apply below_drewN) | (apply below_drew) | (refine Below.setCell ?_ (by first | omega | (simp <;> omega) | simp) _)))⟩
  case round =>
    clear H0
    obtain ⟨j, bs, hj, rfl, hg, hbr⟩ := hrel
    have hbs := hbr.size
    have hlg := hg.top.lt
    by_cases hlt : j < k
    · obtain ⟨B, o, r, q, cq, rfl, hr, hB, e0, hcq, hi⟩ := (H.out.1.below hbr).at (i := j) (by rw [H.out.2.1]; exact hlt)
      have hrl := H.out.2.2 r (List.mem_of_getElem? hr)
      have hlt' : (j : Int) < (k : Int) := by omega
      have htl : (L.take j).length = j := by rw [List.length_take, H.out.2.1]; omega
      have hz := hg.z
      have htop : ∃ v, wr.cell? ⟨w.heap.size, j, none⟩ = some v := by
        have h1 := hg.top.cells (i := j) (v := .slice none 0 0) (by
          rw [List.getElem?_append_right (by rw [rowVs_len hg.len, htl]; exact Nat.le_refl _), rowVs_len hg.len, htl, Nat.sub_self, List.getElem?_replicate, if_pos (by omega)])
        exact ⟨_, h1⟩
      obtain ⟨v0, hv0⟩ := htop
      have hf0 := hg.top.frozen j
      have HG := Lib.hid (And.intro hg (And.intro hbr (And.intro htl hz)))
      have HR := Lib.hid (And.intro hr hrl)
      obtain ⟨n, hn⟩ : ∃ n, r.length = n := ⟨_, rfl⟩
      have c1 := fun w h => Lib.hid (toInts q cq r w h (by omega))
      rw [hn] at e0 c1
      have HI := Lib.hid (And.intro hi hn)
      clear hg hbr htl hz hr hrl hi hn hcq
      go_wp2_with (go_at_call 38; (with_reducible refine ((c1 _ ?_).out).mono ?_); (focus (exact HI.out.1; done)); rintro e w2 ⟨rfl, ho, hb_w2⟩; have hv2 := (hb_w2.cell (p := ⟨w.heap.size, j, none⟩) hlg).trans hv0; have hf2 := (hb_w2.frozen (p := ⟨w.heap.size, j, none⟩) hlg).trans hf0; have HO := Lib.hid (And.intro ho hb_w2); clear ho hb_w2)
      obtain ⟨hg, hbr, htl, hz⟩ := HG.out
      have h2 := hg.below HO.out.2
      have h3 := h2.next (r := r) (b := wr.heap.size) (c := n) (by rw [htl]; exact hlt) (by rw [HI.out.2]; exact HO.out.1) ⟨hbs, by omega⟩ (fun i b' c' hb' e => by have := hz i b' c' hb'; omega)
      rw [htl, HI.out.2, ← show L.take (j + 1) = L.take j ++ [r] by rw [List.take_add_one, HR.out.1]; rfl] at h3
      exact ⟨⟨j + 1, _, by omega, by go_num, h3, (hbr.trans (HO.out.2.mono hbs)).setCell (Nat.le_refl _) _⟩, by simp [intOf]; omega⟩
    · have e : j = k := by omega
      subst e
      rw [List.take_of_length_le (by rw [H.out.2.1]; omega)] at hg
      have HX := Lib.hid (And.intro (hg.done H.out.2.1) hbr)
      clear hg hbr
      go_wp2_with fail
      go_ret
      exact ⟨bs, rfl, HX.out.1, HX.out.2⟩
theorem grew.betw {w w' : World} {g lo hi : Nat} (h : grew w w' g) (h1 : lo ≤ g) (h2 : g < hi) : Betw lo hi w w' :=
  ⟨h.2.symm, h.1.os, h.1.tape, h.1.output, fun b hb hh => h.1.block b hb (by simp; omega)⟩
/-- the length of what a mark has come to -/
theorem gsum_small {L : List (List Int)} (hl : L.length ≤ 1048576) (hr : ∀ r ∈ L, r.length ≤ 1048576) (j : Nat) : gsum (L.take j) ≤ 1099511627776 := by
  have := gsum_low (L := L.take j) (k := 1048576) (e := 1048576) (by rw [List.length_take]; omega) (fun r h => hr r (List.mem_of_mem_take h))
  omega
set_option maxHeartbeats 2000000 in
set_option maxRecDepth 100000 in
theorem markG (lo hi k g cap : Nat) (bs : List (Nat × Nat)) (L : List (List Int)) (w : World) (h : GridO w 3 29 lo g cap bs L) (hk : L.length = k) (hl : k ≤ 1048576) (hr : ∀ r ∈ L, r.length ≤ 1048576) (hh : ∀ (i b c : Nat), bs[i]? = some (b, c) → b < hi) :
    Calls Try.prog 36 #[.slice (some ⟨g, 0, none⟩) k cap, .int .i64 1] w fun e w' => e = .returned (.int .i64 (1 + gsum L)) ∧ GridO w' 3 29 lo g cap bs (mkG 1 L) ∧ Betw lo hi w w' := by
  have H := Lib.hid (And.intro h (And.intro hk (And.intro hr hh)))
  clear h hk hr hh
  go_enter Try.func36, Try.ntmps36
  go_wp2_with fail
  go_loopw [1, 5] (fun s i wr => ∃ j : Nat, j ≤ k ∧ i = .int .i64 j ∧ s = .int .i64 (1 + gsum (L.take j)) ∧ GridO wr 3 29 lo g cap bs (mkGt 1 j L) ∧ Betw lo hi w wr) (fun _ i _ => k - (intOf i).toNat)
  case atStart => exact ⟨0, Nat.zero_le _, rfl, by simp [gsum], by rw [mkGt_zero]; exact H.out.1, Betw.refl _ _ _⟩
  case round =>
    obtain ⟨j, hj, rfl, rfl, hg, hbr⟩ := hrel
    have hsm := gsum_small (by rw [H.out.2.1]; exact hl) H.out.2.2.1 j
    obtain ⟨s, hs⟩ : ∃ s, gsum (L.take j) = s := ⟨_, rfl⟩
    rw [hs] at hsm ⊢
    by_cases hlt : j < k
    · have hlt' : (j : Int) < (k : Int) := by omega
      obtain ⟨b, c, r, hb, hr, e0, ho, hbl, hbg⟩ := hg.at (i := j) (by rw [mkGt_len (by rw [H.out.2.1]; omega), H.out.2.1]; exact hlt)
      have hrL : L[j]? = some r := by
        obtain ⟨r', hr'⟩ : ∃ r', L[j]? = some r' := ⟨_, List.getElem?_eq_getElem (by rw [H.out.2.1]; exact hlt)⟩
        rw [mkGt_at hr'] at hr; rw [hr', ← hr]
      have hrl := H.out.2.2.1 r (List.mem_of_getElem? hrL)
      obtain ⟨n, hn⟩ : ∃ n, r.length = n := ⟨_, rfl⟩
      rw [hn] at e0 hrl
      have c1 := fun w h => Lib.hid (markIntsS b n c (1 + (s : Int)) r w h hrl (by omega) (by omega))
      have hlg := hg.lt
      have HG := Lib.hid (And.intro hg (And.intro hbr (And.intro hb (And.intro hr (And.intro ho (And.intro hs (And.intro hrL hn)))))))
      clear hg hbr hb hr ho hs hrL hn
      go_wp2_with (go_at_call 40; (with_reducible refine ((c1 _ ?_).out).mono ?_); (focus (have := HG.out.2.2.2.2.1; rw [HG.out.2.2.2.2.2.2.2] at this; exact this; done)); rintro e w2 ⟨rfl, ho2, hg2⟩; have HO := Lib.hid (And.intro ho2 hg2); clear ho2 hg2)
      obtain ⟨hg, hbr, hb, hr, ho, hs, hrL, hn⟩ := HG.out
      have h3 := hg.setRow hb hr (r' := seqI (1 + (s : Int)) n) (by rw [seqI_len, hn]) (by rw [seqI_len]; exact HO.out.1) HO.out.2.1
      have h4 : (mkGt 1 j L).set j (seqI (1 + (s : Int)) n) = mkGt 1 (j + 1) L := by
        have := mkGt_set (s := 1) hrL
        rw [hn, hs] at this
        exact this
      rw [h4] at h3
      have h5 : gsum (L.take (j + 1)) = s + n := by rw [gsum_take hrL, hs, hn]
      exact ⟨⟨j + 1, by omega, by go_num, by rw [h5]; go_num, h3, hbr.trans (HO.out.2.betw hbl (H.out.2.2.2 j b c hb))⟩, by simp [intOf]; omega⟩
    · have e : j = k := by omega
      subst e
      have h6 : Hid (gsum L = s) := Lib.hid (by rw [← hs, List.take_of_length_le (by rw [H.out.2.1]; omega)])
      have HX : Hid (GridO wr 3 29 lo g cap bs (mkG 1 L) ∧ Betw lo hi w wr) := Lib.hid ⟨by rw [← H.out.2.1, mkGt_all] at hg; exact hg, hbr⟩
      clear hg hbr hs
      go_wp2_with fail
      go_ret
      exact ⟨ret_int (by rw [h6.out]), HX.out.1, HX.out.2⟩
set_option maxHeartbeats 2000000 in
set_option maxRecDepth 100000 in
theorem heldG (k c : Nat) (p : Option Addr) (L : List (List Int)) (w : World) (h : GRead w p (mkG 1 L)) (hk : L.length = k) (hl : k ≤ 1048576) (hr : ∀ r ∈ L, r.length ≤ 1048576) :
    Calls Try.prog 37 #[.slice p k c, .int .i64 1] w fun e w' => e = .returned (.int .i64 (1 + gsum L)) ∧ w = w' := by
  have H := Lib.hid (And.intro h (And.intro hk hr))
  clear h hk hr
  go_enter Try.func37, Try.ntmps37
  go_wp2_with fail
  go_loopw [1, 5] (fun s i wr => ∃ j : Nat, j ≤ k ∧ i = .int .i64 j ∧ s = .int .i64 (1 + gsum (L.take j)) ∧ w = wr) (fun _ i _ => k - (intOf i).toNat)
  case atStart => exact ⟨0, Nat.zero_le _, rfl, by simp [gsum], rfl⟩
  case round =>
    obtain ⟨j, hj, rfl, rfl, rfl⟩ := hrel
    have hsm := gsum_small (by rw [H.out.2.1]; exact hl) H.out.2.2 j
    obtain ⟨s, hs⟩ : ∃ s, gsum (L.take j) = s := ⟨_, rfl⟩
    rw [hs] at hsm ⊢
    by_cases hlt : j < k
    · have hlt' : (j : Int) < (k : Int) := by omega
      obtain ⟨B, o, r, q, cq, rfl, hr, hB, e0, hcq, hi⟩ := H.out.1.at (i := j) (by rw [mkG_len, H.out.2.1]; exact hlt)
      obtain ⟨r', hr'⟩ : ∃ r', L[j]? = some r' := ⟨_, List.getElem?_eq_getElem (by rw [H.out.2.1]; exact hlt)⟩
      rw [mkG_at hr'] at hr
      cases hr
      have hrl := H.out.2.2 r' (List.mem_of_getElem? hr')
      obtain ⟨n, hn⟩ : ∃ n, r'.length = n := ⟨_, rfl⟩
      rw [hn, hs] at hi e0 hcq
      rw [List.length_map, List.length_range] at e0
      rw [hn] at hrl
      have c1 := fun w h => Lib.hid (heldIntsS n cq q (1 + (s : Int)) w h hrl (by omega) (by omega))
      have HI : Hid (Ints w q (seqI (1 + (s : Int)) n)) := Lib.hid hi
      have h5 : Hid (gsum (L.take (j + 1)) = s + n) := Lib.hid (by rw [gsum_take hr', hs, hn])
      clear hi hr' hn hs hcq
      have hpos : ¬ (1 + (s : Int) + (n : Int) < 0) := by omega
      go_wp2_with (go_at_call 41; (with_reducible refine ((c1 _ ?_).out).mono ?_); (focus (exact HI.out; done)); rintro e w' ⟨rfl, rfl⟩)
      go_roundw
      case rel => exact ⟨j + 1, by omega, by go_num, by rw [h5.out]; go_num, by first | trivial | rfl⟩
      case measure => simp [intOf]; omega
    · have e : j = k := by omega
      subst e
      have h6 : Hid (gsum L = s) := Lib.hid (by rw [← hs, List.take_of_length_le (by rw [H.out.2.1]; omega)])
      clear hs
      go_wp2_with fail
      go_ret
      exact ⟨ret_int (by rw [h6.out]), rfl⟩
theorem eqG_nil (p q : Option Addr) (c d : Nat) (w : World) :
    Calls Try.prog 34 #[.slice p 0 c, .slice q 0 d] w fun e w' => e = .returned (.bool true) ∧ Below w.heap.size w w' := eqG p q c d [] w (.inl rfl) (.inl rfl) (by simp) (by simp)
theorem markG_nil (p : Option Addr) (c : Nat) (w : World) :
    Calls Try.prog 36 #[.slice p 0 c, .int .i64 1] w fun e w' => e = .returned (.int .i64 1) ∧ w = w' := by
  go_enter Try.func36, Try.ntmps36
  go_wp2_with fail
  go_loopw [1, 5] (fun s i wr => s = .int .i64 1 ∧ i = .int .i64 0 ∧ w = wr) (fun _ _ _ => 0)
  case atStart => exact ⟨rfl, rfl, rfl⟩
  case round =>
    obtain ⟨rfl, rfl, rfl⟩ := hrel
    go_wp2_with fail
    go_ret
    exact ⟨rfl, rfl⟩
theorem heldG_nil (p : Option Addr) (c : Nat) (w : World) :
    Calls Try.prog 37 #[.slice p 0 c, .int .i64 1] w fun e w' => e = .returned (.int .i64 1) ∧ w = w' := by
  have := heldG 0 c p [] w (.inl rfl) rfl (by omega) (by simp)
  simpa [gsum] using this
theorem eqG_at {k : Nat} {M : List (List Int)} (hm : M.length = k) (p q : Option Addr) (c d : Nat) (w : World) (h : GRead w p M) (hq : GRead w q M) (hl : k ≤ 1048576) (hr : ∀ r ∈ M, r.length ≤ 1048576) :
    Calls Try.prog 34 #[.slice p k c, .slice q k d] w fun e w' => e = .returned (.bool true) ∧ Below w.heap.size w w' := by subst hm; exact eqG p q c d M w h hq hl hr
theorem toI_at {n : Nat} {zs : List Int} (hn : zs.length = n) (p : Option Addr) (c : Nat) (w : World) (hp : Ints w p zs) (hl : n ≤ 1048576) :
    Calls Try.prog 38 #[.slice p n c] w fun e w' => e = .returned (.slice (some ⟨w.heap.size, 0, none⟩) n n) ∧ Own w' w.heap.size 3 1 n n zs ∧ Below w.heap.size w w' := by subst hn; exact toInts p c zs w hp hl
theorem eqI_at {n : Nat} {zs : List Int} (hn : zs.length = n) (p q : Option Addr) (c d : Nat) (w : World) (hp : Ints w p zs) (hq : Ints w q zs) (hl : n ≤ 4000000000000000000) :
    Calls Try.prog 39 #[.slice p n c, .slice q n d] w fun e w' => e = .returned (.bool true) ∧ Below w.heap.size w w' := by subst hn; exact eqInts p q c d zs w hp hq hl
theorem eqI_nil (p q : Option Addr) (c d : Nat) (w : World) :
    Calls Try.prog 39 #[.slice p 0 c, .slice q 0 d] w fun e w' => e = .returned (.bool true) ∧ Below w.heap.size w w' := eqInts p q c d [] w (.inl rfl) (.inl rfl) (by simp)
theorem markI_nil (p : Option Addr) (c : Nat) (w : World) :
    Calls Try.prog 40 #[.slice p 0 c, .int .i64 1] w fun e w' => e = .returned (.int .i64 1) ∧ w = w' := by
  go_enter Try.func40, Try.ntmps40
  go_wp2_with fail
  go_loopw [1, 5] (fun m i wr => m = .int .i64 1 ∧ i = .int .i64 0 ∧ w = wr) (fun _ i _ => 0)
  case atStart => exact ⟨rfl, rfl, rfl⟩
  case round =>
    obtain ⟨rfl, rfl, rfl⟩ := hrel
    go_wp2_with fail
    go_ret
    exact ⟨rfl, rfl⟩
theorem heldI_nil (p : Option Addr) (c : Nat) (w : World) :
    Calls Try.prog 41 #[.slice p 0 c, .int .i64 1] w fun e w' => e = .returned (.int .i64 1) ∧ w = w' := by
  have := heldIntsS 0 c p 1 w (.inl (by simp [seqI])) (by omega) (by omega) (by omega)
  simpa using this
theorem szG_at {k : Nat} {L : List (List Int)} (hk : L.length = k) (c : Nat) (p : Option Addr) (v : Int) (w : World) (h : GRead w p L) (hl : k ≤ 9223372036854775807) (hr : ∀ r ∈ L, r.length ≤ 9223372036854775807) (h0 : 0 ≤ v) (h1 : v ≤ 1048576) :
    Calls Try.prog 30 #[.slice p k c, .int .i64 v] w fun e w' => ∃ u : Int, e = .returned (.int .i64 u) ∧ w = w' ∧ u ≤ 1048576 ∧ (0 ≤ u → k ≤ 1048576 ∧ ∀ r ∈ L, r.length ≤ 1048576) := by subst hk; exact szG c p L v w h hl hr h0 h1
theorem Own.betw {w w' : World} {g lo hi sz n cap : Nat} {T : TypeId} {xs : List Int} (h : Own w g T sz n cap xs) (hb : Betw lo hi w w') (hg : hi ≤ g) : Own w' g T sz n cap xs := h.block (hb.2.2.2.2 g h.lt (.inr hg))
end Go.Proofs.Ythpfhbogpnhgmaa
