/-
  The program's LoopIs, for any list.
-/
import Derived.Test.YtimghdffmdcheaaVa
import Derived.Test.YtimghdffmdcheaaTb
import Derived.Test.YtimghdffmdcheaaNLs
namespace Go.Proofs.Ytimghdffmdcheaa
open Go.RowKit
set_option linter.unusedVariables false

theorem chain_last {rs : List Rn} : ∀ {L : List Int} {a b y : Int}, Chain rs a L b → L[L.length - 1]? = some y → b = en rs y
  | [], _, _, _, _, h => by simp at h
  | [z], a, b, y, ⟨_, h⟩, hy => by simp at hy; subst hy; exact h.symm
  | z :: x :: L, a, b, y, ⟨_, h⟩, hy => chain_last (L := x :: L) h (by simpa using hy)
theorem chain_take {rs : List Rn} {L : List Int} {l : Nat} {e d z : Int} (h : Chain rs e (L.take l) d) (hz : L[l]? = some z) (hb : bg rs z = d) : Chain rs e (L.take (l + 1)) (en rs z) := by
  rw [take_succ_of hz]
  exact chain_append.2 ⟨d, h, hb, rfl⟩
theorem chain_not {rs : List Rn} {L : List Int} {l : Nat} {d y z : Int} (h : Chain rs (en rs y) (L.take l) d) (hy : L[L.length - 1]? = some y) (hz : L[l]? = some z) (hb : bg rs z ≠ d) : ¬ ∃ c, Chain rs c L c := by
  rintro ⟨c, hc⟩
  obtain rfl := chain_last hc hy
  have hl := (List.getElem?_eq_some_iff.1 hz).1
  rw [← List.take_append_drop l L] at hc
  obtain ⟨d', h1, h2⟩ := chain_append.1 hc
  have := chain_end h h1
  subst this
  have e : L.drop l = z :: L.drop (l + 1) := by
    rw [List.drop_eq_getElem_cons hl]
    rw [List.getElem?_eq_getElem hl] at hz
    cases hz; rfl
  rw [e] at h2
  exact hb h2.1
theorem IsL.small {n : Int} {rs : List Rn} {L : List Int} {z : Int} (hn : nOk n rs = true) (h : z ≠ 0 ∧ -(rs.length : Int) ≤ z ∧ z ≤ rs.length) : (0 ≤ ix z ∧ ix z < rs.length) ∧ (-100000 ≤ er rs z ∧ er rs z ≤ 100000) := by
  have h0 : 0 ≤ ix z ∧ ix z < rs.length := by unfold ix; omega
  refine ⟨h0, ?_⟩
  obtain ⟨-, -, -, -, -, a, b, -, -⟩ := rOk_true ((nOk_true hn).2.2.2 _ _ (runOf_at h0.1 h0.2))
  unfold er; split <;> omega

set_option maxHeartbeats 4000000 in
set_option maxRecDepth 100000 in
theorem iLoopIs (n : Int) (m k : Nat) (p q : Option Addr) (c d : Nat) (rs : List Rn) (L : List Int) (b : Bool) (w : World) (h : Runs w p rs) (hq : Ints w q L) (hm : rs.length = m) (hk : L.length = k) (hl : m ≤ 4000000000000000000) (hl2 : k ≤ 4000000000000000000) (hb : isL n rs L = b) :
    Calls Try.prog 16 #[.int .i64 n, .slice p m c, .slice q k d] w fun e w' => e = .returned (.bool b) ∧ Below w.heap.size w w' := by
  obtain ⟨v, hv⟩ : ∃ v, nOk n rs = v := ⟨_, rfl⟩
  have c1 := fun w h => Lib.hid (iValid_n (p := p) (c := c) w hm h hl hv)
  have H := Lib.hid (And.intro h (And.intro hq (And.intro hm hk)))
  cases v
  · obtain rfl : b = false := by rw [← hb]; exact isL_false.2 (fun ht => by rw [ht.ok] at hv; cases hv)
    clear h hq hm hk hb hv
    go_enter Try.func16, Try.ntmps16
    go_wp2_with ((go_at_call 39; (with_reducible refine ((c1 _ ?_).out).mono ?_); (focus ((exact H.out.1); done)); rintro e wa ⟨rfl, hb_wa⟩; have hs_wa := hb_wa.size; (try simp at hs_wa)))
    go_ret
    exact ⟨rfl, (by repeat (first | assumption | exact Below.refl _ _ | (refine below_chain ?_ (by assumption) (by first | omega | (simp <;> omega) | simp)) | (refine Below.alloc ?_ (by first | omega | (simp <;> omega) | simp) _) | (apply below_drewN) | (apply below_drew) | (refine Below.setCell ?_ (by first | omega | (simp <;> omega) | simp) _)))⟩
  · by_cases hk1 : 1 ≤ k
    case neg =>
      obtain rfl : b = false := by rw [← hb]; exact isL_false.2 (fun ht => hk1 (by have := ht.one; omega))
      clear h hq hm hk hb hv
      go_enter Try.func16, Try.ntmps16
      go_wp2_with ((go_at_call 39; (with_reducible refine ((c1 _ ?_).out).mono ?_); (focus ((exact H.out.1); done)); rintro e wa ⟨rfl, hb_wa⟩; have hs_wa := hb_wa.size; (try simp at hs_wa)))
      go_ret
      exact ⟨rfl, (by repeat (first | assumption | exact Below.refl _ _ | (refine below_chain ?_ (by assumption) (by first | omega | (simp <;> omega) | simp)) | (refine Below.alloc ?_ (by first | omega | (simp <;> omega) | simp) _) | (apply below_drewN) | (apply below_drew) | (refine Below.setCell ?_ (by first | omega | (simp <;> omega) | simp) _)))⟩
    case pos =>
    by_cases hk12 : k ≤ 12
    case neg =>
      obtain rfl : b = false := by rw [← hb]; exact isL_false.2 (fun ht => hk12 (by have := ht.most; omega))
      clear h hq hm hk hb hv
      go_enter Try.func16, Try.ntmps16
      go_wp2_with ((go_at_call 39; (with_reducible refine ((c1 _ ?_).out).mono ?_); (focus ((exact H.out.1); done)); rintro e wa ⟨rfl, hb_wa⟩; have hs_wa := hb_wa.size; (try simp at hs_wa)))
      go_ret
      exact ⟨rfl, (by repeat (first | assumption | exact Below.refl _ _ | (refine below_chain ?_ (by assumption) (by first | omega | (simp <;> omega) | simp)) | (refine Below.alloc ?_ (by first | omega | (simp <;> omega) | simp) _) | (apply below_drewN) | (apply below_drew) | (refine Below.setCell ?_ (by first | omega | (simp <;> omega) | simp) _)))⟩
    case pos =>
    have hm12 : m ≤ 12 := by have := (nOk_true hv).2.2.1; omega
    have HB := Lib.hid (And.intro hb hv)
    clear h hq hm hk hb hv
    go_enter Try.func16, Try.ntmps16
    go_wp2_with ((go_at_call 39; (with_reducible refine ((c1 _ ?_).out).mono ?_); (focus ((exact H.out.1); done)); rintro e wa ⟨rfl, hb_wa⟩; have hs_wa := hb_wa.size; (try simp at hs_wa)))
    clear c1
    go_loopw [29] (fun i wr => ∃ j : Nat, j ≤ k ∧ i = .int .i64 j ∧ (∀ z ∈ L.take j, z ≠ 0 ∧ -(rs.length : Int) ≤ z ∧ z ≤ rs.length) ∧ wa = wr) (fun i _ => k - (intOf i).toNat)
    case atStart => exact ⟨0, Nat.zero_le _, rfl, by simp, rfl⟩
    case round =>
      obtain ⟨j, hj, rfl, hz, rfl⟩ := hrel
      have HZ := Lib.hid hz
      clear hz
      by_cases hlt : j < k
      · obtain ⟨B, o, z, rfl, hz, hB, e0⟩ := (H.out.2.1.below hb_wa).at (i := j) (by have := H.out.2.2.2; omega)
        have HJ := Lib.hid hz
        by_cases hin : z ≠ 0 ∧ -(m : Int) ≤ z ∧ z ≤ (m : Int)
        · have ci := fun w => Lib.hid (iNumValid p m c z true w (by omega) (by simpa using hin))
          have HX : Hid (∀ y ∈ L.take (j + 1), y ≠ 0 ∧ -(rs.length : Int) ≤ y ∧ y ≤ rs.length) := Lib.hid (fun y hy => by
            rw [take_succ_of HJ.out] at hy
            rcases List.mem_append.1 hy with h | h
            · exact HZ.out y h
            · simp at h; subst h; rw [H.out.2.2.1]; exact hin)
          clear hin hz
          go_wp2_with ((go_at_call 51; (with_reducible refine ((ci _).out).mono ?_); rintro e w' ⟨rfl, rfl⟩))
          go_roundw
          case rel => exact ⟨j + 1, by omega, by go_num, HX.out, by first | trivial | rfl⟩
          case measure => simp [intOf]; omega
        · have ci := fun w => Lib.hid (iNumValid p m c z false w (by omega) (decide_eq_false hin))
          have HF : Hid (false = b) := Lib.hid (by rw [← HB.out.1]; exact (isL_false.2 (fun ht => hin (by have := ht.rng z (List.mem_of_getElem? hz); rw [H.out.2.2.1] at this; exact this))).symm)
          clear hin hz
          go_wp2_with ((go_at_call 51; (with_reducible refine ((ci _).out).mono ?_); rintro e w' ⟨rfl, rfl⟩))
          go_ret
          exact ⟨ret_bool HF.out, hb_wa⟩
      · have e : j = k := by omega
        subst e
        have HR : Hid (∀ z ∈ L, z ≠ 0 ∧ -(rs.length : Int) ≤ z ∧ z ≤ rs.length) := Lib.hid (by have := HZ.out; rwa [List.take_of_length_le (Nat.le_of_eq H.out.2.2.2)] at this)
        obtain ⟨u, rfl⟩ : ∃ u, j = u + 1 := ⟨j - 1, by omega⟩
        obtain ⟨B, o, y, rfl, hy, hB, e0⟩ := (H.out.2.1.below hb_wa).at (i := u) (by have := H.out.2.2.2; omega)
        have HY : Hid (L[L.length - 1]? = some y) := Lib.hid (by rw [H.out.2.2.2]; exact hy)
        have hsm := IsL.small (L := L) HB.out.2 (HR.out y (List.mem_of_getElem? hy))
        have c2 := fun w h => Lib.hid (iAlong m c p rs y w h H.out.2.2.1 hm12 hsm.1.1 hsm.1.2 hsm.2)
        have hu1 : (((u + 1 : Nat) : Int) - 1) = (u : Int) := by omega
        have hu2 : (u : Int) < ((u + 1 : Nat) : Int) := by omega
        have hf1 := run_f1
        clear hlt hj HZ hy hsm
        go_upto_region 11 with ((go_at_call 52; (with_reducible refine ((c2 _ ?_).out).mono ?_); (focus ((exact H.out.1.below hb_wa); done)); rintro e wx ⟨rfl, hb_wx⟩; have hs_wx := hb_wx.size; (try simp at hs_wx)))
        clear e0 hu1 hu2 c2 hB
        have HB0 : Hid (Below w.heap.size w wx) := Lib.hid (hb_wa.trans (hb_wx.mono hs_wa))
        clear hb_wx hs_wx hb_wa hs_wa
        obtain ⟨en0, he0⟩ : ∃ v, en rs y = v := ⟨_, rfl⟩
        rw [he0]
        have HE0 := Lib.hid he0
        clear he0
        go_loopw [49, 9] (fun i v wr => ∃ (l : Nat) (d : Int), l ≤ u + 1 ∧ i = .int .i64 l ∧ v = .int .i64 d ∧ Chain rs en0 (L.take l) d ∧ Below w.heap.size w wr) (fun i _ _ => u + 1 - (intOf i).toNat)
        case atStart => exact ⟨0, en0, Nat.zero_le _, rfl, rfl, rfl, HB0.out⟩
        case round =>
          obtain ⟨l, d, hll, rfl, rfl, hch, hbr⟩ := hrel
          have hbs := hbr.size
          have HC := Lib.hid (And.intro hch hbr)
          clear hch
          by_cases hlt : l < u + 1
          · have hs : Hid (Runs wr p rs ∧ Ints wr (some ⟨B, o, none⟩) L) := Lib.hid ⟨H.out.1.below hbr, H.out.2.1.below hbr⟩
            obtain ⟨B', o', x, e, hx, hB0, e0⟩ := hs.out.2.at (i := l) (by have := H.out.2.2.2; omega)
            cases e
            have HX := Lib.hid hx
            have hsm := IsL.small (L := L) HB.out.2 (HR.out x (List.mem_of_getElem? hx))
            have c2 := fun w h => Lib.hid (iAlong m c p rs x w h H.out.2.2.1 hm12 hsm.1.1 hsm.1.2 hsm.2)
            have hlu : (l : Int) < ((u + 1 : Nat) : Int) := by omega
            clear hx hsm hbr
            obtain ⟨bx, hbx⟩ : ∃ v, bg rs x = v := ⟨_, rfl⟩
            obtain ⟨ex, hex⟩ : ∃ v, en rs x = v := ⟨_, rfl⟩
            have HE := Lib.hid (And.intro hbx hex)
            rw [hbx, hex] at c2
            clear hbx hex
            by_cases hxd : bx = d
            · subst hxd
              go_wp2_with ((go_at_call 52; (with_reducible refine ((c2 _ ?_).out).mono ?_); (focus ((exact hs.out.1); done)); rintro e wx ⟨rfl, hb_wx⟩; have hs_wx := hb_wx.size; (try simp at hs_wx)))
              go_roundw
              case rel => exact ⟨l + 1, ex, by omega, by go_num, rfl, by rw [← HE.out.2]; exact chain_take HC.out.1 HX.out HE.out.1, HC.out.2.trans (by repeat (first | assumption | exact Below.refl _ _ | (refine below_chain ?_ (by assumption) (by first | omega | (simp <;> omega) | simp)) | (refine Below.alloc ?_ (by first | omega | (simp <;> omega) | simp) _) | (apply below_drewN) | (apply below_drew) | (refine Below.setCell ?_ (by first | omega | (simp <;> omega) | simp) _)))⟩
              case measure => simp [intOf]; omega
            · have hxd' : (bx == d) = false := by simpa using hxd
              have HF : Hid (false = b) := Lib.hid (by
                rw [← HB.out.1]
                exact (isL_false.2 (fun ht => chain_not (by rw [HE0.out]; exact HC.out.1) HY.out HX.out (by rw [HE.out.1]; exact hxd) ht.loop)).symm)
              go_wp2_with ((go_at_call 52; (with_reducible refine ((c2 _ ?_).out).mono ?_); (focus ((exact hs.out.1); done)); rintro e wx ⟨rfl, hb_wx⟩; have hs_wx := hb_wx.size; (try simp at hs_wx)))
              go_ret
              exact ⟨ret_bool HF.out, HC.out.2.trans (by repeat (first | assumption | exact Below.refl _ _ | (refine below_chain ?_ (by assumption) (by first | omega | (simp <;> omega) | simp)) | (refine Below.alloc ?_ (by first | omega | (simp <;> omega) | simp) _) | (apply below_drewN) | (apply below_drew) | (refine Below.setCell ?_ (by first | omega | (simp <;> omega) | simp) _)))⟩
          · have e : l = u + 1 := by omega
            subst e
            have HF : Hid (true = b) := Lib.hid (by
              rw [← HB.out.1]
              have h1 := HC.out.1
              rw [List.take_of_length_le (Nat.le_of_eq H.out.2.2.2)] at h1
              have h2 := chain_last h1 HY.out
              rw [HE0.out] at h2
              rw [h2] at h1
              exact (isL_true.2 ⟨HB.out.2, by have := H.out.2.2.2; omega, by have := H.out.2.2.2; omega, HR.out, _, h1⟩).symm)
            go_wp2_with fail
            go_ret
            exact ⟨ret_bool HF.out, HC.out.2⟩
end Go.Proofs.Ytimghdffmdcheaa
