/-
  How the laws mark a list of lists of integers from any number on.
-/
import Derived.Test.YthpfhbogpnhgmaaNk2
namespace Go.Proofs.Ythpfhbogpnhgmaa
open Go.RowKit
set_option linter.unusedVariables false

set_option maxHeartbeats 2000000 in
set_option maxRecDepth 100000 in
theorem markGs (s0 : Int) (h0 : 0 ≤ s0) (h1 : s0 ≤ 2199023255552) (lo hi k g cap : Nat) (bs : List (Nat × Nat)) (L : List (List Int)) (w : World) (h : GridO w 3 29 lo g cap bs L) (hk : L.length = k) (hl : k ≤ 1048576) (hr : ∀ r ∈ L, r.length ≤ 1048576) (hh : ∀ (i b c : Nat), bs[i]? = some (b, c) → b < hi) :
    Calls Try.prog 36 #[.slice (some ⟨g, 0, none⟩) k cap, .int .i64 s0] w fun e w' => e = .returned (.int .i64 (s0 + gsum L)) ∧ GridO w' 3 29 lo g cap bs (mkG s0 L) ∧ Betw lo hi w w' := by
  have H := Lib.hid (And.intro h (And.intro hk (And.intro hr hh)))
  clear h hk hr hh
  go_enter Try.func36, Try.ntmps36
  go_wp2_with fail
  go_loopw [1, 5] (fun s i wr => ∃ j : Nat, j ≤ k ∧ i = .int .i64 j ∧ s = .int .i64 (s0 + gsum (L.take j)) ∧ GridO wr 3 29 lo g cap bs (mkGt s0 j L) ∧ Betw lo hi w wr) (fun _ i _ => k - (intOf i).toNat)
  case atStart => exact ⟨0, Nat.zero_le _, rfl, by simp [gsum], by rw [mkGt_zero]; exact H.out.1, Betw.refl _ _ _⟩
  case round =>
    obtain ⟨j, hj, rfl, rfl, hg, hbr⟩ := hrel
    have hsm := gsum_small (by rw [H.out.2.1]; exact hl) H.out.2.2.1 j
    obtain ⟨s, hs⟩ : ∃ s, gsum (L.take j) = s := ⟨_, rfl⟩
    rw [hs] at hsm ⊢
    by_cases hlt : j < k
    · have hlt' : (j : Int) < (k : Int) := by omega
      obtain ⟨b, c, r, hb, hr, e0, ho, hbl, hbg⟩ := hg.at (i := j) (by rw [mkGt_len (by rw [H.out.2.1]; omega), H.out.2.1]; exact hlt)
      have hrL : L[j]? = some r := by
        obtain ⟨r', hr'⟩ : ∃ r', L[j]? = some r' := ⟨_, List.getElem?_eq_getElem (by rw [H.out.2.1]; exact hlt)⟩
        rw [mkGt_at hr'] at hr; rw [hr', ← hr]
      have hrl := H.out.2.2.1 r (List.mem_of_getElem? hrL)
      obtain ⟨n, hn⟩ : ∃ n, r.length = n := ⟨_, rfl⟩
      rw [hn] at e0 hrl
      have c1 := fun w h => Lib.hid (markIntsS b n c (s0 + (s : Int)) r w h hrl (by omega) (by omega))
      have hlg := hg.lt
      have HG := Lib.hid (And.intro hg (And.intro hbr (And.intro hb (And.intro hr (And.intro ho (And.intro hs (And.intro hrL hn)))))))
      clear hg hbr hb hr ho hs hrL hn
      go_wp2_with (go_at_call 40; (with_reducible refine ((c1 _ ?_).out).mono ?_); (focus (have := HG.out.2.2.2.2.1; rw [HG.out.2.2.2.2.2.2.2] at this; exact this; done)); rintro e w2 ⟨rfl, ho2, hg2⟩; have HO := Lib.hid (And.intro ho2 hg2); clear ho2 hg2)
      obtain ⟨hg, hbr, hb, hr, ho, hs, hrL, hn⟩ := HG.out
      have h3 := hg.setRow hb hr (r' := seqI (s0 + (s : Int)) n) (by rw [seqI_len, hn]) (by rw [seqI_len]; exact HO.out.1) HO.out.2.1
      have h4 : (mkGt s0 j L).set j (seqI (s0 + (s : Int)) n) = mkGt s0 (j + 1) L := by
        have := mkGt_set (s := s0) hrL
        rw [hn, hs] at this
        exact this
      rw [h4] at h3
      have h5 : gsum (L.take (j + 1)) = s + n := by rw [gsum_take hrL, hs, hn]
      exact ⟨⟨j + 1, by omega, by go_num, by rw [h5]; go_num, h3, hbr.trans (HO.out.2.betw hbl (H.out.2.2.2 j b c hb))⟩, by simp [intOf]; omega⟩
    · have e : j = k := by omega
      subst e
      have h6 : Hid (gsum L = s) := Lib.hid (by rw [← hs, List.take_of_length_le (by rw [H.out.2.1]; omega)])
      have HX : Hid (GridO wr 3 29 lo g cap bs (mkG s0 L) ∧ Betw lo hi w wr) := Lib.hid ⟨by rw [← H.out.2.1, mkGt_all] at hg; exact hg, hbr⟩
      clear hg hbr hs
      go_wp2_with fail
      go_ret
      exact ⟨ret_int (by rw [h6.out]), HX.out.1, HX.out.2⟩
end Go.Proofs.Ythpfhbogpnhgmaa
