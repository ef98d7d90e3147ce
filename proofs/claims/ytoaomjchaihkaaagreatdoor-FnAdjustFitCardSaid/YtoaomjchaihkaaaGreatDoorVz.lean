/-
  The program's loops: whether a number is that of a run, the run as a number goes through it, the number from a node on.
  The program's LoopIs, for any list.
  The program's stack of numbers: the top, what push and pop leave, and the search for a run that is left at a node.
  The program's search for a run that is left at a node.
  The program's closed way: the run and the way back along the tree.
  The program's LoopOf: the loop of a run beside the first tree.
  The program's LoopError, LoopErrors and LoopCloses.
  The program's LoopErrors where there are none, and its LoopCloses.
  The program's LoopBack: a clone of a list of numbers, the same from behind, and with opposite signs.
-/
import Derived.Test.YtoaomjchaihkaaaGreatDoorLz
import Derived.Test.YtoaomjchaihkaaaGreatDoorZa
import Derived.Test.YtoaomjchaihkaaaGreatDoorZf
import Derived.Test.YtoaomjchaihkaaaGreatDoorTv
import Derived.Test.YtoaomjchaihkaaaGreatDoorZg
import Derived.Test.YtoaomjchaihkaaaGreatDoorTrz
import Derived.Deep.LoopGhost
import Derived.Test.YtoaomjchaihkaaaGreatDoorLw
namespace Go.Proofs.YtoaomjchaihkaaaGreatDoor
open Go.RowKit
set_option linter.unusedVariables false

theorem run_f1 (a b c d : Value) (w : World) : (Instr.field 42 (.agg #[a, b, c, d]) 1).run Tryz.prog w = .ok b w := by
  simp [Instr.field, asAgg, part, go_sem, Tryz.underlying42]
theorem run_f2 (a b c d : Value) (w : World) : (Instr.field 42 (.agg #[a, b, c, d]) 2).run Tryz.prog w = .ok c w := by
  simp [Instr.field, asAgg, part, go_sem, Tryz.underlying42]
theorem iNumValid (p : Option Addr) (m c : Nat) (z : Int) (b : Bool) (w : World) (hl : m ≤ 4000000000000000000) (h : decide (z ≠ 0 ∧ -(m : Int) ≤ z ∧ z ≤ m) = b) :
    Calls Tryz.prog 128 #[.slice p m c, .int .i64 z] w fun e w' => e = .returned (.bool b) ∧ w = w' := by
  by_cases h0 : z = 0
  · subst h0
    obtain rfl : b = false := by rw [← h]; simp
    clear h
    go_enter Tryz.func128, Tryz.ntmps128
    go_wp2_with fail
    go_ret
    simp
  · have h0' : (z != 0) = true := by simpa using h0
    have h0'' : (z == 0) = false := by simpa using h0
    have ci := fun w => Lib.hid (nWithin z m b w (by omega) (by omega) (by rw [← h]; simp [h0]))
    clear h
    go_enter Tryz.func128, Tryz.ntmps128
    go_wp2_with ((go_at_call 62; (with_reducible refine ((ci _).out).mono ?_); rintro e w' ⟨rfl, rfl⟩))
    go_ret
    exact ⟨rfl, rfl⟩

set_option maxHeartbeats 1000000 in
theorem iAlong (m c : Nat) (p : Option Addr) (rs : List Rn) (z : Int) (w : World) (h : Runs w p rs) (hm : rs.length = m) (hl : m ≤ 12) (h0 : 0 ≤ ix z) (h1 : ix z < rs.length) (hs : -100000 ≤ er rs z ∧ er rs z ≤ 100000) :
    Calls Tryz.prog 94 #[.slice p m c, .int .i64 z] w fun e w' => e = .returned (.agg #[.int .i64 (bg rs z), .int .i64 (en rs z), .int .i64 (er rs z), .int .i64 (runOf rs (ix z)).g]) ∧ Below w.heap.size w w' := by
  obtain ⟨u, hu⟩ : ∃ u : Nat, ix z = u := ⟨(ix z).toNat, by omega⟩
  have hz : (z.natAbs : Int) = (u : Int) + 1 := by unfold ix at hu; omega
  have hum : (u : Int) < (m : Int) := by omega
  obtain ⟨B, o, r, rfl, hr, hB, x0, x1, x2, x3⟩ := h.at (i := u) (by omega)
  have er' : runOf rs (u : Int) = r := by unfold runOf; simp [hr]
  by_cases hz0 : z < 0
  · have hs' : -100000 ≤ r.s ∧ r.s ≤ 100000 := by
      unfold er at hs; rw [if_pos hz0, hu, er'] at hs; omega
    have HX := Lib.hid (show (bg rs z = r.t ∧ en rs z = r.f) ∧ er rs z = -r.s ∧ (runOf rs (ix z)).g = r.g by unfold bg en er; rw [if_pos hz0, if_pos hz0, if_pos hz0, hu, er']; exact ⟨⟨rfl, rfl⟩, rfl, rfl⟩)
    have c1 := fun w => Lib.hid (turned_is r.f r.t r.s r.g w hs'.1 hs'.2)
    clear hs h hm h0 h1 hu hr er'
    obtain rfl : z = -((u : Int) + 1) := by omega
    go_enter Tryz.func94, Tryz.ntmps94
    go_wp2_with ((go_at_call 43; (with_reducible refine ((c1 _).out).mono ?_); rintro e wt ⟨rfl, hb_wt⟩; have hs_wt := hb_wt.size; (try simp at hs_wt)); obtain ⟨hcn, hfn⟩ := bcell hb_wt; have y0 : wt.cell? ⟨w.heap.size, 0, none⟩ = some (.int .i64 0) := (by rw [hcn _ _ (by simp)]; simp [go_sem]); have y1 : wt.cell? ⟨w.heap.size, 1, none⟩ = some (.int .i64 0) := (by rw [hcn _ _ (by simp)]; simp [go_sem]); have y2 : wt.cell? ⟨w.heap.size, 2, none⟩ = some (.int .i64 0) := (by rw [hcn _ _ (by simp)]; simp [go_sem]); have y3 : wt.cell? ⟨w.heap.size, 3, none⟩ = some (.int .i64 0) := (by rw [hcn _ _ (by simp)]; simp [go_sem]); have z0 : ∀ o, wt.frozen? ⟨w.heap.size, o, none⟩ = false := (fun o => by rw [hfn _ _ (by simp)]; simp [go_sem]); clear hcn hfn)
    refine bodyPost_ret (v := .agg #[.int .i64 r.t, .int .i64 r.f, .int .i64 (-r.s), .int .i64 r.g]) (by simp [results, Tryz.results94, go_sem, y0, y1, y2, y3]) rfl ⟨by rw [HX.out.1.1, HX.out.1.2, HX.out.2.1, HX.out.2.2], (by repeat (first | assumption | exact Below.refl _ _ | (refine below_chain ?_ (by assumption) (by first | omega | (simp <;> omega) | simp)) | (refine Below.alloc ?_ (by first | omega | (simp <;> omega) | simp) _) | (apply below_drewN) | (apply below_drew) | (refine Below.setCell ?_ (by first | omega | (simp <;> omega) | simp) _)))⟩
  · have HX := Lib.hid (show (bg rs z = r.f ∧ en rs z = r.t) ∧ er rs z = r.s ∧ (runOf rs (ix z)).g = r.g by unfold bg en er; rw [if_neg hz0, if_neg hz0, if_neg hz0, hu, er']; exact ⟨⟨rfl, rfl⟩, rfl, rfl⟩)
    clear hs h hm h0 h1 hu hr er'
    obtain rfl : z = ((u : Int) + 1) := by omega
    go_enter Tryz.func94, Tryz.ntmps94
    go_wp2_with fail
    refine bodyPost_ret (v := .agg #[.int .i64 r.f, .int .i64 r.t, .int .i64 r.s, .int .i64 r.g]) (by simp [results, Tryz.results94, go_sem]) rfl ⟨by rw [HX.out.1.1, HX.out.1.2, HX.out.2.1, HX.out.2.2], (by repeat (first | assumption | exact Below.refl _ _ | (refine below_chain ?_ (by assumption) (by first | omega | (simp <;> omega) | simp)) | (refine Below.alloc ?_ (by first | omega | (simp <;> omega) | simp) _) | (apply below_drewN) | (apply below_drew) | (refine Below.setCell ?_ (by first | omega | (simp <;> omega) | simp) _)))⟩

set_option maxHeartbeats 1000000 in
theorem iNumFrom (m c k : Nat) (p : Option Addr) (rs : List Rn) (d : Int) (w : World) (h : Runs w p rs) (hm : rs.length = m) (hl : m ≤ 12) (hk : k < m) :
    Calls Tryz.prog 121 #[.slice p m c, .int .i64 k, .int .i64 d] w fun e w' => e = .returned (.int .i64 (numAt rs k d)) ∧ w = w' := by
  have hk' : (k : Int) < (m : Int) := by omega
  obtain ⟨B, o, r, rfl, hr, hB, x0, x1, x2, x3⟩ := h.at (i := k) (by omega)
  have er' : runOf rs (k : Int) = r := by unfold runOf; simp [hr]
  have HE := Lib.hid er'
  clear h hm hr er'
  by_cases h1 : d = r.f
  · have HX : Hid (numAt rs k d = (k : Int) + 1) := Lib.hid (by unfold numAt; rw [HE.out, if_pos h1])
    subst h1
    go_enter Tryz.func121, Tryz.ntmps121
    go_wp2_with fail
    go_ret
    exact ⟨ret_int HX.out.symm, rfl⟩
  · have h1' : (d == r.f) = false := by simpa using h1
    by_cases h2 : d = r.t
    · have HX : Hid (numAt rs k d = -((k : Int) + 1)) := Lib.hid (by unfold numAt; rw [HE.out, if_neg h1, if_pos h2])
      subst h2
      go_enter Tryz.func121, Tryz.ntmps121
      go_wp2_with fail
      go_ret
      exact ⟨ret_int (by rw [HX.out]), rfl⟩
    · have h2' : (d == r.t) = false := by simpa using h2
      have HX : Hid (numAt rs k d = 0) := Lib.hid (by unfold numAt; rw [HE.out, if_neg h1, if_neg h2])
      go_enter Tryz.func121, Tryz.ntmps121
      go_wp2_with fail
      go_ret
      exact ⟨ret_int HX.out.symm, rfl⟩
end Go.Proofs.YtoaomjchaihkaaaGreatDoor
namespace Go.Proofs.YtoaomjchaihkaaaGreatDoor
open Go.RowKit
set_option linter.unusedVariables false

theorem chain_last {rs : List Rn} : ∀ {L : List Int} {a b y : Int}, Chain rs a L b → L[L.length - 1]? = some y → b = en rs y
  | [], _, _, _, _, h => by simp at h
  | [z], a, b, y, ⟨_, h⟩, hy => by simp at hy; subst hy; exact h.symm
  | z :: x :: L, a, b, y, ⟨_, h⟩, hy => chain_last (L := x :: L) h (by simpa using hy)
theorem chain_take {rs : List Rn} {L : List Int} {l : Nat} {e d z : Int} (h : Chain rs e (L.take l) d) (hz : L[l]? = some z) (hb : bg rs z = d) : Chain rs e (L.take (l + 1)) (en rs z) := by
  rw [take_succ_of hz]
  exact chain_append.2 ⟨d, h, hb, rfl⟩
theorem chain_not {rs : List Rn} {L : List Int} {l : Nat} {d y z : Int} (h : Chain rs (en rs y) (L.take l) d) (hy : L[L.length - 1]? = some y) (hz : L[l]? = some z) (hb : bg rs z ≠ d) : ¬ ∃ c, Chain rs c L c := by
  rintro ⟨c, hc⟩
  obtain rfl := chain_last hc hy
  have hl := (List.getElem?_eq_some_iff.1 hz).1
  rw [← List.take_append_drop l L] at hc
  obtain ⟨d', h1, h2⟩ := chain_append.1 hc
  have := chain_end h h1
  subst this
  have e : L.drop l = z :: L.drop (l + 1) := by
    rw [List.drop_eq_getElem_cons hl]
    rw [List.getElem?_eq_getElem hl] at hz
    cases hz; rfl
  rw [e] at h2
  exact hb h2.1
theorem IsL.small {n : Int} {rs : List Rn} {L : List Int} {z : Int} (hn : nOk n rs = true) (h : z ≠ 0 ∧ -(rs.length : Int) ≤ z ∧ z ≤ rs.length) : (0 ≤ ix z ∧ ix z < rs.length) ∧ (-100000 ≤ er rs z ∧ er rs z ≤ 100000) := by
  have h0 : 0 ≤ ix z ∧ ix z < rs.length := by unfold ix; omega
  refine ⟨h0, ?_⟩
  obtain ⟨-, -, -, -, -, a, b, -, -⟩ := rOk_true ((nOk_true hn).2.2.2 _ _ (runOf_at h0.1 h0.2))
  unfold er; split <;> omega

set_option maxHeartbeats 4000000 in
set_option maxRecDepth 100000 in
theorem iLoopIs (n : Int) (m k : Nat) (p q : Option Addr) (c d : Nat) (rs : List Rn) (L : List Int) (b : Bool) (w : World) (h : Runs w p rs) (hq : Ints w q L) (hm : rs.length = m) (hk : L.length = k) (hl : m ≤ 4000000000000000000) (hl2 : k ≤ 4000000000000000000) (hb : isL n rs L = b) :
    Calls Tryz.prog 119 #[.int .i64 n, .slice p m c, .slice q k d] w fun e w' => e = .returned (.bool b) ∧ Below w.heap.size w w' := by
  obtain ⟨v, hv⟩ : ∃ v, nOk n rs = v := ⟨_, rfl⟩
  have c1 := fun w h => Lib.hid (iValid_n (p := p) (c := c) w hm h hl hv)
  have H := Lib.hid (And.intro h (And.intro hq (And.intro hm hk)))
  cases v
  · obtain rfl : b = false := by rw [← hb]; exact isL_false.2 (fun ht => by rw [ht.ok] at hv; cases hv)
    clear h hq hm hk hb hv
    go_enter Tryz.func119, Tryz.ntmps119
    go_wp2_with ((go_at_call 52; (with_reducible refine ((c1 _ ?_).out).mono ?_); (focus ((exact H.out.1); done)); rintro e wa ⟨rfl, hb_wa⟩; have hs_wa := hb_wa.size; (try simp at hs_wa)))
    go_ret
    exact ⟨rfl, (by repeat (first | assumption | exact Below.refl _ _ | (refine below_chain ?_ (by assumption) (by first | omega | (simp <;> omega) | simp)) | (refine Below.alloc ?_ (by first | omega | (simp <;> omega) | simp) _) | (apply below_drewN) | (apply below_drew) | (refine Below.setCell ?_ (by first | omega | (simp <;> omega) | simp) _)))⟩
  · by_cases hk1 : 1 ≤ k
    case neg =>
      obtain rfl : b = false := by rw [← hb]; exact isL_false.2 (fun ht => hk1 (by have := ht.one; omega))
      clear h hq hm hk hb hv
      go_enter Tryz.func119, Tryz.ntmps119
      go_wp2_with ((go_at_call 52; (with_reducible refine ((c1 _ ?_).out).mono ?_); (focus ((exact H.out.1); done)); rintro e wa ⟨rfl, hb_wa⟩; have hs_wa := hb_wa.size; (try simp at hs_wa)))
      go_ret
      exact ⟨rfl, (by repeat (first | assumption | exact Below.refl _ _ | (refine below_chain ?_ (by assumption) (by first | omega | (simp <;> omega) | simp)) | (refine Below.alloc ?_ (by first | omega | (simp <;> omega) | simp) _) | (apply below_drewN) | (apply below_drew) | (refine Below.setCell ?_ (by first | omega | (simp <;> omega) | simp) _)))⟩
    case pos =>
    by_cases hk12 : k ≤ 12
    case neg =>
      obtain rfl : b = false := by rw [← hb]; exact isL_false.2 (fun ht => hk12 (by have := ht.most; omega))
      clear h hq hm hk hb hv
      go_enter Tryz.func119, Tryz.ntmps119
      go_wp2_with ((go_at_call 52; (with_reducible refine ((c1 _ ?_).out).mono ?_); (focus ((exact H.out.1); done)); rintro e wa ⟨rfl, hb_wa⟩; have hs_wa := hb_wa.size; (try simp at hs_wa)))
      go_ret
      exact ⟨rfl, (by repeat (first | assumption | exact Below.refl _ _ | (refine below_chain ?_ (by assumption) (by first | omega | (simp <;> omega) | simp)) | (refine Below.alloc ?_ (by first | omega | (simp <;> omega) | simp) _) | (apply below_drewN) | (apply below_drew) | (refine Below.setCell ?_ (by first | omega | (simp <;> omega) | simp) _)))⟩
    case pos =>
    have hm12 : m ≤ 12 := by have := (nOk_true hv).2.2.1; omega
    have HB := Lib.hid (And.intro hb hv)
    clear h hq hm hk hb hv
    go_enter Tryz.func119, Tryz.ntmps119
    go_wp2_with ((go_at_call 52; (with_reducible refine ((c1 _ ?_).out).mono ?_); (focus ((exact H.out.1); done)); rintro e wa ⟨rfl, hb_wa⟩; have hs_wa := hb_wa.size; (try simp at hs_wa)))
    clear c1
    go_loopw [29] (fun i wr => ∃ j : Nat, j ≤ k ∧ i = .int .i64 j ∧ (∀ z ∈ L.take j, z ≠ 0 ∧ -(rs.length : Int) ≤ z ∧ z ≤ rs.length) ∧ wa = wr) (fun i _ => k - (intOf i).toNat)
    case atStart => exact ⟨0, Nat.zero_le _, rfl, by simp, rfl⟩
    case round =>
      obtain ⟨j, hj, rfl, hz, rfl⟩ := hrel
      have HZ := Lib.hid hz
      clear hz
      by_cases hlt : j < k
      · obtain ⟨B, o, z, rfl, hz, hB, e0⟩ := (H.out.2.1.below hb_wa).at (i := j) (by have := H.out.2.2.2; omega)
        have HJ := Lib.hid hz
        by_cases hin : z ≠ 0 ∧ -(m : Int) ≤ z ∧ z ≤ (m : Int)
        · have ci := fun w => Lib.hid (iNumValid p m c z true w (by omega) (by simpa using hin))
          have HX : Hid (∀ y ∈ L.take (j + 1), y ≠ 0 ∧ -(rs.length : Int) ≤ y ∧ y ≤ rs.length) := Lib.hid (fun y hy => by
            rw [take_succ_of HJ.out] at hy
            rcases List.mem_append.1 hy with h | h
            · exact HZ.out y h
            · simp at h; subst h; rw [H.out.2.2.1]; exact hin)
          clear hin hz
          go_wp2_with ((go_at_call 128; (with_reducible refine ((ci _).out).mono ?_); rintro e w' ⟨rfl, rfl⟩))
          go_roundw
          case rel => exact ⟨j + 1, by omega, by go_num, HX.out, by first | trivial | rfl⟩
          case measure => simp [intOf]; omega
        · have ci := fun w => Lib.hid (iNumValid p m c z false w (by omega) (decide_eq_false hin))
          have HF : Hid (false = b) := Lib.hid (by rw [← HB.out.1]; exact (isL_false.2 (fun ht => hin (by have := ht.rng z (List.mem_of_getElem? hz); rw [H.out.2.2.1] at this; exact this))).symm)
          clear hin hz
          go_wp2_with ((go_at_call 128; (with_reducible refine ((ci _).out).mono ?_); rintro e w' ⟨rfl, rfl⟩))
          go_ret
          exact ⟨ret_bool HF.out, hb_wa⟩
      · have e : j = k := by omega
        subst e
        have HR : Hid (∀ z ∈ L, z ≠ 0 ∧ -(rs.length : Int) ≤ z ∧ z ≤ rs.length) := Lib.hid (by have := HZ.out; rwa [List.take_of_length_le (Nat.le_of_eq H.out.2.2.2)] at this)
        obtain ⟨u, rfl⟩ : ∃ u, j = u + 1 := ⟨j - 1, by omega⟩
        obtain ⟨B, o, y, rfl, hy, hB, e0⟩ := (H.out.2.1.below hb_wa).at (i := u) (by have := H.out.2.2.2; omega)
        have HY : Hid (L[L.length - 1]? = some y) := Lib.hid (by rw [H.out.2.2.2]; exact hy)
        have hsm := IsL.small (L := L) HB.out.2 (HR.out y (List.mem_of_getElem? hy))
        have c2 := fun w h => Lib.hid (iAlong m c p rs y w h H.out.2.2.1 hm12 hsm.1.1 hsm.1.2 hsm.2)
        have hu1 : (((u + 1 : Nat) : Int) - 1) = (u : Int) := by omega
        have hu2 : (u : Int) < ((u + 1 : Nat) : Int) := by omega
        have hf1 := run_f1
        clear hlt hj HZ hy hsm
        go_upto_region 11 with ((go_at_call 94; (with_reducible refine ((c2 _ ?_).out).mono ?_); (focus ((exact H.out.1.below hb_wa); done)); rintro e wx ⟨rfl, hb_wx⟩; have hs_wx := hb_wx.size; (try simp at hs_wx)))
        clear e0 hu1 hu2 c2 hB
        have HB0 : Hid (Below w.heap.size w wx) := Lib.hid (hb_wa.trans (hb_wx.mono hs_wa))
        clear hb_wx hs_wx hb_wa hs_wa
        obtain ⟨en0, he0⟩ : ∃ v, en rs y = v := ⟨_, rfl⟩
        rw [he0]
        have HE0 := Lib.hid he0
        clear he0
        go_loopw [49, 9] (fun i v wr => ∃ (l : Nat) (d : Int), l ≤ u + 1 ∧ i = .int .i64 l ∧ v = .int .i64 d ∧ Chain rs en0 (L.take l) d ∧ Below w.heap.size w wr) (fun i _ _ => u + 1 - (intOf i).toNat)
        case atStart => exact ⟨0, en0, Nat.zero_le _, rfl, rfl, rfl, HB0.out⟩
        case round =>
          obtain ⟨l, d, hll, rfl, rfl, hch, hbr⟩ := hrel
          have hbs := hbr.size
          have HC := Lib.hid (And.intro hch hbr)
          clear hch
          by_cases hlt : l < u + 1
          · have hs : Hid (Runs wr p rs ∧ Ints wr (some ⟨B, o, none⟩) L) := Lib.hid ⟨H.out.1.below hbr, H.out.2.1.below hbr⟩
            obtain ⟨B', o', x, e, hx, hB0, e0⟩ := hs.out.2.at (i := l) (by have := H.out.2.2.2; omega)
            cases e
            have HX := Lib.hid hx
            have hsm := IsL.small (L := L) HB.out.2 (HR.out x (List.mem_of_getElem? hx))
            have c2 := fun w h => Lib.hid (iAlong m c p rs x w h H.out.2.2.1 hm12 hsm.1.1 hsm.1.2 hsm.2)
            have hlu : (l : Int) < ((u + 1 : Nat) : Int) := by omega
            clear hx hsm hbr
            obtain ⟨bx, hbx⟩ : ∃ v, bg rs x = v := ⟨_, rfl⟩
            obtain ⟨ex, hex⟩ : ∃ v, en rs x = v := ⟨_, rfl⟩
            have HE := Lib.hid (And.intro hbx hex)
            rw [hbx, hex] at c2
            clear hbx hex
            by_cases hxd : bx = d
            · subst hxd
              go_wp2_with ((go_at_call 94; (with_reducible refine ((c2 _ ?_).out).mono ?_); (focus ((exact hs.out.1); done)); rintro e wx ⟨rfl, hb_wx⟩; have hs_wx := hb_wx.size; (try simp at hs_wx)))
              go_roundw
              case rel => exact ⟨l + 1, ex, by omega, by go_num, rfl, by rw [← HE.out.2]; exact chain_take HC.out.1 HX.out HE.out.1, HC.out.2.trans (by repeat (first | assumption | exact Below.refl _ _ | (refine below_chain ?_ (by assumption) (by first | omega | (simp <;> omega) | simp)) | (refine Below.alloc ?_ (by first | omega | (simp <;> omega) | simp) _) | (apply below_drewN) | (apply below_drew) | (refine Below.setCell ?_ (by first | omega | (simp <;> omega) | simp) _)))⟩
              case measure => simp [intOf]; omega
            · have hxd' : (bx == d) = false := by simpa using hxd
              have HF : Hid (false = b) := Lib.hid (by
                rw [← HB.out.1]
                exact (isL_false.2 (fun ht => chain_not (by rw [HE0.out]; exact HC.out.1) HY.out HX.out (by rw [HE.out.1]; exact hxd) ht.loop)).symm)
              go_wp2_with ((go_at_call 94; (with_reducible refine ((c2 _ ?_).out).mono ?_); (focus ((exact hs.out.1); done)); rintro e wx ⟨rfl, hb_wx⟩; have hs_wx := hb_wx.size; (try simp at hs_wx)))
              go_ret
              exact ⟨ret_bool HF.out, HC.out.2.trans (by repeat (first | assumption | exact Below.refl _ _ | (refine below_chain ?_ (by assumption) (by first | omega | (simp <;> omega) | simp)) | (refine Below.alloc ?_ (by first | omega | (simp <;> omega) | simp) _) | (apply below_drewN) | (apply below_drew) | (refine Below.setCell ?_ (by first | omega | (simp <;> omega) | simp) _)))⟩
          · have e : l = u + 1 := by omega
            subst e
            have HF : Hid (true = b) := Lib.hid (by
              rw [← HB.out.1]
              have h1 := HC.out.1
              rw [List.take_of_length_le (Nat.le_of_eq H.out.2.2.2)] at h1
              have h2 := chain_last h1 HY.out
              rw [HE0.out] at h2
              rw [h2] at h1
              exact (isL_true.2 ⟨HB.out.2, by have := H.out.2.2.2; omega, by have := H.out.2.2.2; omega, HR.out, _, h1⟩).symm)
            go_wp2_with fail
            go_ret
            exact ⟨ret_bool HF.out, HC.out.2⟩
end Go.Proofs.YtoaomjchaihkaaaGreatDoor
namespace Go.Proofs.YtoaomjchaihkaaaGreatDoor
open Go.RowKit
set_option linter.unusedVariables false

/-- three blocks alone are written -/
structure Apart (w w' : World) (R g F : Nat) : Prop where
  os : w'.os = w.os
  tape : w'.tape = w.tape
  output : w'.output = w.output
  size : w.heap.size ≤ w'.heap.size
  block : ∀ k, k < w.heap.size → k ≠ R → k ≠ g → k ≠ F → w'.heap[k]? = w.heap[k]?
theorem Apart.below {B R g F : Nat} {a w w' : World} (h : Below B a w) (hg : Apart w w' R g F) (h1 : B ≤ R) (h2 : B ≤ g) (h3 : B ≤ F) (hs : B ≤ w.heap.size) : Below B a w' :=
  ⟨hg.os.trans h.os, hg.tape.trans h.tape, hg.output.trans h.output, Nat.le_trans h.size hg.size, fun k hk => (hg.block k (by omega) (by omega) (by omega) (by omega)).trans (h.block k hk)⟩
/-- the cell R holds a slice of the block g that reads as xs -/
structure Stk (w : World) (R g n cap : Nat) (xs : List Int) : Prop where
  cell : w.cell? ⟨R, 0, none⟩ = some (.slice (some ⟨g, 0, none⟩) n cap)
  froz : w.frozen? ⟨R, 0, none⟩ = false
  own : Own w g 3 1 n cap xs
  lt : R < w.heap.size
  ne : R ≠ g
section
variable {w w' : World} {R g n cap : Nat} {xs : List Int}
theorem Stk.below (h : Stk w R g n cap xs) (hb : Below w.heap.size w w') : Stk w' R g n cap xs :=
  ⟨(hb.cell (p := ⟨R, 0, none⟩) h.lt).trans h.cell, (hb.frozen (p := ⟨R, 0, none⟩) h.lt).trans h.froz, h.own.below hb, Nat.lt_of_lt_of_le h.lt hb.size, h.ne⟩
theorem Own.drop (h : Own w g 3 1 (n + 1) cap xs) : Own w g 3 1 n cap xs.dropLast := by
  obtain ⟨cur, hg, h1, h2, h3, h4, h5⟩ := h.body
  refine .of hg (by omega) h2 h3 ?_ (by simp; omega)
  rw [Nat.mul_one] at h4 h5 ⊢
  have : cur.toList.take n = (cur.toList.take (n + 1)).take n := by rw [List.take_take, Nat.min_eq_left (by omega)]
  rw [this, h4]
  unfold ivs
  rw [← List.map_take, List.dropLast_eq_take, h5]
  rfl
end

theorem iTop (p : Option Addr) (k c : Nat) (L : List Int) (z : Int) (w : World) (h : Ints w p L) (hk : L.length = k + 1) (hl : k ≤ 1000) (hz : L[k]? = some z) :
    Calls Tryz.prog 95 #[.slice p (k + 1) c] w fun e w' => e = .returned (.int .i64 z) ∧ w = w' := by
  obtain ⟨B, o, y, rfl, hy, hB, e0⟩ := h.at (i := k) (by omega)
  rw [hy] at hz
  cases hz
  have hu1 : (((k + 1 : Nat) : Int) - 1) = (k : Int) := by omega
  have hu2 : (k : Int) < ((k + 1 : Nat) : Int) := by omega
  clear h hk hy
  go_enter Tryz.func95, Tryz.ntmps95
  go_wp2_with fail
  go_ret
  exact ⟨rfl, rfl⟩

set_option maxHeartbeats 1000000 in
theorem iPush (R g n cap : Nat) (xs : List Int) (z : Int) (w : World) (h : Stk w R g n cap xs) (hn : n ≤ 1000) :
    Calls Tryz.prog 122 #[.pointer (some ⟨R, 0, none⟩), .int .i64 z] w fun e w' => ∃ v g' cap', e = .returned v ∧ Stk w' R g' (n + 1) cap' (xs ++ [z]) ∧ (g' = g ∨ w.heap.size ≤ g') ∧ Apart w w' R g R := by
  obtain ⟨h1, h2, h3, h4, h5⟩ := h
  have HO := Lib.hid h3
  clear h3
  go_enter Tryz.func122, Tryz.ntmps122
  go_wp2_with (at_builtin; refine wp_append _ rfl _ _ 88 rfl 3 _ 1 8 Tryz.underlying88 info_int rfl (by decide) (by decide) g n cap _ rfl (HO.out.alloc _) _ _ _ [z] rfl rfl (one_cell _ _ _) (by omega) ?_; intro g' cap' w' hown hgr hloc hsz; have HN := Lib.hid (And.intro hown (And.intro hgr hloc)); have y1 : w'.cell? ⟨R, 0, none⟩ = some (.slice (some ⟨g, 0, none⟩) n cap) := (((gcell hgr).1 R 0 (by simp; omega) h5).trans (by simp [go_sem, h4, h1])); have y2 : w'.frozen? ⟨R, 0, none⟩ = false := (((gcell hgr).2 R 0 (by simp; omega) h5).trans (by simp [go_sem, h4, h2])); clear hown hgr hloc)
  refine bodyPost_end (results_none rfl _ _ _) rfl ?_
  obtain ⟨hown, hgr, hloc⟩ := HN.out
  have hs := hgr.size
  simp at hs
  have hne : R ≠ g' := by
    rcases hloc with rfl | rfl
    · exact h5
    · simp; omega
  refine ⟨_, g', cap', rfl, ⟨World.cell?_setCell_same _ _ _ y1, by simp [go_sem, y2], hown.setOther (a := ⟨R, 0, none⟩) (by simpa using fun e => hne e.symm) _, by simp; omega, hne⟩, ?_, ⟨?_, ?_, ?_, ?_, fun k hk k1 k2 k3 => ?_⟩⟩
  · rcases hloc with rfl | rfl
    · exact .inl rfl
    · exact .inr (by simp)
  · exact ((grew_set w' R 0 _).os.trans hgr.os).trans ((Below.refl w.heap.size w).alloc (Nat.le_refl _) _).os
  · exact ((grew_set w' R 0 _).tape.trans hgr.tape).trans ((Below.refl w.heap.size w).alloc (Nat.le_refl _) _).tape
  · exact ((grew_set w' R 0 _).output.trans hgr.output).trans ((Below.refl w.heap.size w).alloc (Nat.le_refl _) _).output
  · simp; omega
  · have e1 := hgr.block k (by simp; omega) (by simpa using k2)
    rw [Deep.blk_setCell_other _ _ _ _ (by simpa using k1), e1]
    exact Deep.blk_alloc_lt _ _ _ hk
theorem iPop (R g n cap : Nat) (xs : List Int) (w : World) (h : Stk w R g (n + 1) cap xs) (hn : n ≤ 1000) :
    Calls Tryz.prog 97 #[.pointer (some ⟨R, 0, none⟩)] w fun e w' => ∃ v, e = .returned v ∧ Stk w' R g n cap xs.dropLast ∧ Apart w w' R g R := by
  obtain ⟨h1, h2, h3, h4, h5⟩ := h
  have hcap : n + 1 ≤ cap := by obtain ⟨_, _, q, _⟩ := h3.body; exact q
  have HO := Lib.hid h3
  clear h3
  have hu1 : (((n + 1 : Nat) : Int) - 1) = (n : Int) := by omega
  have hu2 : (n : Int) ≤ (cap : Int) := by omega
  go_enter Tryz.func97, Tryz.ntmps97
  (refine wp_region_grows_tail 11 (by kernel_rfl) (by kernel_rfl) ?_; simp only [List.take_succ_cons, List.take_zero, List.drop_succ_cons, List.drop_zero]; intro W_wg hWc_wg hWs_wg hWe_wg; (repeat (go_big_quiet_step (fail))); with_reducible refine wpQuiet_nil ?_; clear hWe_wg hWs_wg hWc_wg W_wg; intro wg hb_wg; obtain ⟨hc_wg, hf_wg⟩ := bcell hb_wg; (try simp only [World.size_drew, World.cell?_drew, World.frozen?_drew, World.heap_drewN, World.cell?_drewN, World.frozen?_drewN] at hc_wg hf_wg); have hs_wg := hb_wg.size; (try simp at hs_wg))
  have y1 : wg.cell? ⟨R, 0, none⟩ = some (.slice (some ⟨g, 0, none⟩) (n + 1) cap) := (hc_wg R 0 h4).trans h1
  have y2 : wg.frozen? ⟨R, 0, none⟩ = false := (hf_wg R 0 h4).trans h2
  have HG := Lib.hid (And.intro hb_wg (HO.out.below hb_wg))
  clear hc_wg hf_wg hb_wg
  go_wp2_with fail
  refine bodyPost_end (results_none rfl _ _ _) rfl ?_
  obtain ⟨hb, ho⟩ := HG.out
  refine ⟨_, rfl, ⟨World.cell?_setCell_same _ _ _ y1, by simp [go_sem, y2], (Own.drop ho).setOther (a := ⟨R, 0, none⟩) (by simpa using fun e => h5 e.symm) _, by simp; omega, h5⟩, ⟨?_, ?_, ?_, ?_, fun k hk k1 k2 k3 => ?_⟩⟩
  · exact (grew_set wg R 0 _).os.trans hb.os
  · exact (grew_set wg R 0 _).tape.trans hb.tape
  · exact (grew_set wg R 0 _).output.trans hb.output
  · simp; omega
  · rw [Deep.blk_setCell_other _ _ _ _ (by simpa using k1)]
    exact hb.block k hk
end Go.Proofs.YtoaomjchaihkaaaGreatDoor
namespace Go.Proofs.YtoaomjchaihkaaaGreatDoor
open Go.RowKit
set_option linter.unusedVariables false

set_option maxHeartbeats 1000000 in
theorem iTake_no (R g n cap m c F : Nat) (p : Option Addr) (rs : List Rn) (lf : List Bool) (xs : List Int) (d : Int) (w : World) (h : Runs w p rs) (hf : Bools w F lf) (hm : rs.length = m) (hlf : lf.length = m) (hl : m ≤ 12) (hno : ∀ i : Nat, lf[i]? = some true → numAt rs i d = 0) :
    Calls Tryz.prog 96 #[.pointer (some ⟨R, 0, none⟩), .slice p m c, .slice (some ⟨F, 0, none⟩) m m, .int .i64 d] w fun e w' => e = .returned (.bool false) ∧ w = w' := by
  have H := Lib.hid (And.intro h (And.intro hm (And.intro hf (And.intro hlf hno))))
  clear h hm hf hlf hno
  go_enter Tryz.func96, Tryz.ntmps96
  go_wp2_with fail
  go_loopw [13] (fun i wr => ∃ j : Nat, j ≤ m ∧ i = .int .i64 j ∧ w = wr) (fun i _ => m - (intOf i).toNat)
  case atStart => exact ⟨0, Nat.zero_le _, rfl, rfl⟩
  case round =>
    obtain ⟨j, hj, rfl, rfl⟩ := hrel
    by_cases hlt : j < m
    · have hlt' : (j : Int) < (m : Int) := by omega
      have c1 := fun w h => Lib.hid (iNumFrom m c j p rs d w h H.out.2.1 hl hlt)
      obtain ⟨b, hb⟩ : ∃ b, lf[j]? = some b := ⟨_, List.getElem?_eq_getElem (by have := H.out.2.2.2.1; omega)⟩
      have k1 := H.out.2.2.1.cell hb
      have hFl := H.out.2.2.1.lt
      obtain ⟨z, hz⟩ : ∃ z, numAt rs j d = z := ⟨_, rfl⟩
      rw [hz] at c1
      cases b
      · clear hz hb
        go_wp2_with (go_at_call 121; (with_reducible refine ((c1 _ ?_).out).mono ?_); (focus (exact H.out.1; done)); rintro e w' ⟨rfl, rfl⟩)
        go_roundw
        case rel => exact ⟨j + 1, by omega, by go_num, by first | trivial | rfl⟩
        case measure => simp [intOf]; omega
      · obtain rfl : z = 0 := by rw [← hz]; exact H.out.2.2.2.2 j hb
        clear hz hb
        go_wp2_with (go_at_call 121; (with_reducible refine ((c1 _ ?_).out).mono ?_); (focus (exact H.out.1; done)); rintro e w' ⟨rfl, rfl⟩)
        go_roundw
        case rel => exact ⟨j + 1, by omega, by go_num, by first | trivial | rfl⟩
        case measure => simp [intOf]; omega
    · have e : j = m := by omega
      subst e
      go_wp2_with fail
      go_ret
      exact ⟨rfl, rfl⟩

set_option maxHeartbeats 2000000 in
theorem iTake_yes (R g n cap m c F : Nat) (p : Option Addr) (rs : List Rn) (lf : List Bool) (xs : List Int) (d : Int) (w : World) (h : Runs w p rs) (hs : Stk w R g n cap xs) (hf : Bools w F lf) (hm : rs.length = m) (hlf : lf.length = m) (hl : m ≤ 12) (hn : n ≤ 1000) (hRF : R ≠ F) (hgF : g ≠ F) (hex : ¬ ∀ i : Nat, lf[i]? = some true → numAt rs i d = 0) :
    Calls Tryz.prog 96 #[.pointer (some ⟨R, 0, none⟩), .slice p m c, .slice (some ⟨F, 0, none⟩) m m, .int .i64 d] w fun e w' => e = .returned (.bool true) ∧ ∃ k g' cap', lf[k]? = some true ∧ numAt rs k d ≠ 0 ∧ Bools w' F (lf.set k false) ∧ Stk w' R g' (n + 1) cap' (xs ++ [numAt rs k d]) ∧ (g' = g ∨ w.heap.size ≤ g') ∧ Apart w w' R g F := by
  have H := Lib.hid (And.intro h (And.intro hm (And.intro hf (And.intro hlf hex))))
  have HS := Lib.hid hs
  clear h hm hf hlf hex hs
  go_enter Tryz.func96, Tryz.ntmps96
  go_wp2_with fail
  go_loopw [13] (fun i wr => ∃ j : Nat, j ≤ m ∧ i = .int .i64 j ∧ (∀ i : Nat, i < j → lf[i]? = some true → numAt rs i d = 0) ∧ w = wr) (fun i _ => m - (intOf i).toNat)
  case atStart => exact ⟨0, Nat.zero_le _, rfl, fun i hi => by omega, rfl⟩
  case round =>
    obtain ⟨j, hj, rfl, hnone, rfl⟩ := hrel
    have HN := Lib.hid hnone
    clear hnone
    by_cases hlt : j < m
    · have hlt' : (j : Int) < (m : Int) := by omega
      have c1 := fun w h => Lib.hid (iNumFrom m c j p rs d w h H.out.2.1 hl hlt)
      obtain ⟨b, hb⟩ : ∃ b, lf[j]? = some b := ⟨_, List.getElem?_eq_getElem (by have := H.out.2.2.2.1; omega)⟩
      have k1 := H.out.2.2.1.cell hb
      have f1 := H.out.2.2.1.frozen j
      have hFl := H.out.2.2.1.lt
      obtain ⟨z, hz⟩ : ∃ z, numAt rs j d = z := ⟨_, rfl⟩
      rw [hz] at c1
      have HB := Lib.hid (And.intro hb hz)
      clear hz hb
      cases b
      · have HX : Hid (∀ i : Nat, i < j + 1 → lf[i]? = some true → numAt rs i d = 0) := Lib.hid (fun i hi ht => by
          by_cases e : i = j
          · subst e; rw [HB.out.1] at ht; simp at ht
          · exact HN.out i (by omega) ht)
        go_wp2_with (go_at_call 121; (with_reducible refine ((c1 _ ?_).out).mono ?_); (focus (exact H.out.1; done)); rintro e w' ⟨rfl, rfl⟩)
        go_roundw
        case rel => exact ⟨j + 1, by omega, by go_num, HX.out, by first | trivial | rfl⟩
        case measure => simp [intOf]; omega
      · by_cases hz0 : z = 0
        · subst hz0
          have HX : Hid (∀ i : Nat, i < j + 1 → lf[i]? = some true → numAt rs i d = 0) := Lib.hid (fun i hi ht => by
            by_cases e : i = j
            · subst e; exact HB.out.2
            · exact HN.out i (by omega) ht)
          go_wp2_with (go_at_call 121; (with_reducible refine ((c1 _ ?_).out).mono ?_); (focus (exact H.out.1; done)); rintro e w' ⟨rfl, rfl⟩)
          go_roundw
          case rel => exact ⟨j + 1, by omega, by go_num, HX.out, by first | trivial | rfl⟩
          case measure => simp [intOf]; omega
        · have hz1 : (z == 0) = false := by simpa using hz0
          have hz2 : (z != 0) = true := by simpa using hz0
          have HW : Hid (Stk (w.setCell ⟨F, j, none⟩ (.bool false)) R g n cap xs ∧ Bools (w.setCell ⟨F, j, none⟩ (.bool false)) F (lf.set j false)) := Lib.hid ⟨by
            obtain ⟨a1, a2, a3, a4, a5⟩ := HS.out
            exact ⟨by rw [World.cell?_setCell_far _ _ _ _ (by simpa using fun e => hRF e.symm)]; exact a1, by simpa [go_sem] using a2, a3.setOther (a := ⟨F, j, none⟩) (by simpa using hgF) _, by simpa using a4, a5⟩, H.out.2.2.1.set j false⟩
          go_wp2_with (first | (go_at_call 121; (with_reducible refine ((c1 _ ?_).out).mono ?_); (focus (exact H.out.1; done)); rintro e w' ⟨rfl, rfl⟩) | (go_at_call 122; (with_reducible refine (iPush R g n cap xs z _ HW.out.1 hn).mono ?_); rintro e wp ⟨v, g', cap', rfl, hsp, hloc, hap⟩; have HP := Lib.hid (And.intro hsp (And.intro hloc hap)); clear hsp hloc hap))
          go_ret
          obtain ⟨hsp, hloc, hap⟩ := HP.out
          refine ⟨rfl, j, g', cap', HB.out.1, by rw [HB.out.2]; exact hz0, ?_, by rw [HB.out.2]; exact hsp, by simpa using hloc, ⟨?_, ?_, ?_, ?_, fun k hk k1 k2 k3 => ?_⟩⟩
          · exact HW.out.2.block (hap.block F (by simpa using hFl) (fun e => hRF e.symm) (fun e => hgF e.symm) (fun e => hRF e.symm))
          · exact hap.os.trans (grew_set w F j _).os
          · exact hap.tape.trans (grew_set w F j _).tape
          · exact hap.output.trans (grew_set w F j _).output
          · simpa using hap.size
          · exact (hap.block k (by simpa using hk) k1 k2 k1).trans (Deep.blk_setCell_other _ _ _ _ (by simpa using k3))
    · have e : j = m := by omega
      subst e
      exact absurd (fun i hi => HN.out i (by have := (List.getElem?_eq_some_iff.1 hi).1; have := H.out.2.2.2.1; omega) hi) H.out.2.2.2.2
end Go.Proofs.YtoaomjchaihkaaaGreatDoor
namespace Go.Proofs.YtoaomjchaihkaaaGreatDoor
open Go.RowKit
set_option linter.unusedVariables false

theorem tree_way {N k : Nat} {rs : List Rn} {T : List Int} (ht : IsTree N rs T) (hk : k < rs.length) : ∃ L, Trail rs T (runOf rs k).t L (runOf rs k).f := by
  have hr := List.mem_of_getElem? (runOf_at (rs := rs) (z := (k : Int)) (by omega) (by omega))
  obtain ⟨a, b, c, d⟩ := nOk_ends ht.ok _ hr
  have := trail_some ht (i := (runOf rs k).t.toNat) (j := (runOf rs k).f.toNat) (by omega) (by omega)
  rw [show (((runOf rs k).t.toNat : Nat) : Int) = (runOf rs k).t by omega, show (((runOf rs k).f.toNat : Nat) : Int) = (runOf rs k).f by omega] at this
  exact this
theorem Own.litI (w : World) (z : Int) : Own (w.alloc (.cells #[.int .i64 z] 3)) w.heap.size 3 1 1 1 [z] :=
  .of (Deep.blk_alloc_new _ _) (by decide) (by decide) (by simp) (by simp [ivs]) (by simp)
theorem Stk.made (w : World) (z : Int) : Stk ((w.alloc (.cells #[.int .i64 z] 3)).alloc (.cells #[.slice (some ⟨w.heap.size, 0, none⟩) 1 1] 88)) (w.heap.size + 1) w.heap.size 1 1 [z] := by
  refine ⟨by simp [go_sem], by simp [go_sem], ((Own.litI w z).alloc _), by simp, by omega⟩

set_option maxHeartbeats 8000000 in
set_option maxRecDepth 100000 in
theorem iClosed (N m k K : Nat) (p q : Option Addr) (c d : Nat) (rs : List Rn) (T : List Int) (w : World) (h : Runs w p rs) (hq : Ints w q T) (hm : rs.length = m) (hK : T.length = K) (ht : IsTree N rs T) (hk : k < m) :
    Calls Tryz.prog 55 #[.slice p m c, .slice q K d, .int .i64 k] w fun e w' => ∃ (g n cap : Nat), e = .returned (.slice (some ⟨g, 0, none⟩) n cap) ∧ w.heap.size ≤ g ∧ Own w' g 3 1 n cap (((k : Int) + 1) :: wayT rs T (runOf rs k).t (runOf rs k).f) ∧ Below w.heap.size w w' := by
  obtain ⟨hn2, hn6, hl12, hall⟩ := nOk_true ht.ok
  have hm12 : m ≤ 12 := by omega
  have hK5 : K ≤ 5 := by have := ht.len; omega
  have hk' : (k : Int) < (m : Int) := by omega
  have H := Lib.hid (And.intro h (And.intro hq (And.intro hm (And.intro hK ht))))
  have hmb := fun w => made_bools w m (by omega)
  have HF0 := fun w => Lib.hid (Bools.made w m)
  clear h hq hm hK ht hn2 hn6 hl12 hall
  go_enter Tryz.func55, Tryz.ntmps55
  go_wp2_with fail
  clear hmb
  have H0 : Hid (Bools (w.alloc (.cells (madeCells #[.bool false] m) 4)) w.heap.size (List.replicate m false)) := Lib.hid (HF0 w).out
  go_loopw [17] (fun i wr => ∃ (j : Nat) (lf : List Bool), j ≤ K ∧ i = .int .i64 j ∧ lf.length = m ∧ (∀ i : Nat, i < m → (lf[i]? = some true ↔ (i : Int) ∈ T.take j)) ∧ Bools wr w.heap.size lf ∧ Below w.heap.size w wr) (fun i _ => K - (intOf i).toNat)
  case atStart => exact ⟨0, _, Nat.zero_le _, rfl, by simp, fun i hi => by simp [List.getElem?_replicate], H0.out, (by repeat (first | assumption | exact Below.refl _ _ | (refine below_chain ?_ (by assumption) (by first | omega | (simp <;> omega) | simp)) | (refine Below.alloc ?_ (by first | omega | (simp <;> omega) | simp) _) | (apply below_drewN) | (apply below_drew) | (refine Below.setCell ?_ (by first | omega | (simp <;> omega) | simp) _)))⟩
  case round =>
    clear H0 HF0
    obtain ⟨j, lf, hj, rfl, hlf, hmk, hfl, hbr⟩ := hrel
    have hbs := hbr.size
    have HM := Lib.hid (And.intro hlf hmk)
    have HB := Lib.hid (And.intro hfl hbr)
    have hFl := hfl.lt
    clear hlf hmk
    by_cases hlt : j < K
    · obtain ⟨B, o, z, rfl, hz, hB, e0⟩ := (H.out.2.1.below hbr).at (i := j) (by have := H.out.2.2.2.1; omega)
      obtain ⟨z0, z1⟩ := H.out.2.2.2.2.asc.rng z (List.mem_of_getElem? hz)
      obtain ⟨u, rfl⟩ : ∃ u : Nat, z = (u : Int) := ⟨z.toNat, by omega⟩
      have hum : u < m := by have := H.out.2.2.1; omega
      have hum' : (u : Int) < (m : Int) := by omega
      obtain ⟨b0, hb0⟩ : ∃ b, lf[u]? = some b := ⟨_, List.getElem?_eq_getElem (by have := HM.out.1; omega)⟩
      have k1 := hfl.cell hb0
      have f1 := hfl.frozen u
      have HX : Hid (∀ i : Nat, i < m → ((lf.set u true)[i]? = some true ↔ (i : Int) ∈ T.take (j + 1))) := Lib.hid (fun i hi => by
        rw [take_succ_of hz, List.mem_append]
        by_cases e : i = u
        · subst e; rw [List.getElem?_set_self (by have := HM.out.1; omega)]; simp
        · rw [List.getElem?_set_ne (by omega), HM.out.2 i hi]
          exact ⟨.inl, fun h => h.elim id (fun h => by simp at h; omega)⟩)
      clear hz z0 z1 hb0 hfl hbr
      go_wp2_with fail
      go_roundw
      case rel => exact ⟨j + 1, lf.set u true, by omega, by go_num, by have := HM.out.1; simpa using this, HX.out, HB.out.1.set u true, HB.out.2.setCell (p := ⟨w.heap.size, u, none⟩) (by simp) _⟩
      case measure => simp [intOf]; omega
    · have e : j = K := by omega
      subst e
      have HX : Hid (Dfs rs T (runOf rs k).t (runOf rs k).f lf [] (runOf rs k).t) := Lib.hid (by
        have ht := H.out.2.2.2.2
        refine dfs_start (by rw [HM.out.1, H.out.2.2.1]) ht.asc (fun i hi => ?_) (tree_way ht (by have := H.out.2.2.1; omega))
        rw [HM.out.2 i (by have := H.out.2.2.1; omega), List.take_of_length_le (by have := H.out.2.2.2.1; omega)])
      clear hfl hbr
      go_wp2_with fail
      have hRF : wr.heap.size + 1 ≠ w.heap.size := by omega
      refine gen_world (fun W => Stk W (wr.heap.size + 1) wr.heap.size 1 1 [(k : Int) + 1] ∧ Bools W w.heap.size lf ∧ Below w.heap.size w W) ⟨Stk.made _ _, (HB.out.1.alloc _).alloc _, (HB.out.2.alloc hbs _).alloc (by simp; omega) _⟩ (fun w1 h1 => ?_)
      have H1 := Lib.hid h1
      have HK := Lib.hid (show rs[k]? = some (runOf rs k) from runOf_at (z := (k : Int)) (by omega) (by have := H.out.2.2.1; omega))
      have hFs : w.heap.size < wr.heap.size := hFl
      clear h1 HB HM hFl hlt
      obtain ⟨R, hR⟩ : ∃ R, wr.heap.size + 1 = R := ⟨_, rfl⟩
      obtain ⟨G, hG⟩ : ∃ G, wr.heap.size = G := ⟨_, rfl⟩
      rw [hR] at hRF H1 ⊢
      rw [hG] at H1 hFs ⊢
      have hwR : w.heap.size ≤ R := by omega
      clear hR hG hbs
      go_loopg [11] (2 * tru lf) (fun gk v wr => ∃ (lf : List Bool) (W : List Int) (d : Int) (l g cap : Nat), gk = 2 * tru lf + l ∧ W.length = l ∧ Dfs rs T (runOf rs k).t (runOf rs k).f lf W d ∧ Stk wr R g (l + 1) cap (((k : Int) + 1) :: W) ∧ Bools wr w.heap.size lf ∧ w.heap.size < g ∧ Below w.heap.size w wr)
      case atStart => exact ⟨lf, [], _, 0, G, 1, rfl, rfl, HX.out, H1.out.1, H1.out.2.1, hFs, H1.out.2.2⟩
      case round =>
        clear H1 HX hFs
        rename World => wq
        obtain ⟨lf, W, d, l, g, cap, hgk, hWl, hdf, hst, hfl, hgF, hbr⟩ := hrel
        have hbs := hbr.size
        have ht := H.out.2.2.2.2
        have hl5 : l ≤ 5 := by have := trail_len hdf.tr; have := H.out.2.2.2.1; omega
        have hL : ((((k : Int) + 1) :: W)).length = l + 1 := by simp; omega
        obtain ⟨z, hz⟩ : ∃ z, (((k : Int) + 1) :: W)[l]? = some z := ⟨_, List.getElem?_eq_getElem (by omega)⟩
        have hd : d = en rs z := by
          have hc : Chain rs (runOf rs k).f (((k : Int) + 1) :: W) d := ⟨bg_up k, by rw [en_up]; exact hdf.tr.2.2⟩
          exact chain_last hc (by rw [hL]; exact hz)
        have hzr : z ≠ 0 ∧ -(rs.length : Int) ≤ z ∧ z ≤ rs.length := by
          rcases List.mem_cons.1 (List.mem_of_getElem? hz) with rfl | hz
          · have := H.out.2.2.1; omega
          · have a := ht.asc.rng _ (hdf.tr.1 z hz)
            have c := ix_ne ht.asc (hdf.tr.1 z hz)
            unfold ix at a
            omega
        have hsm := IsL.small (L := []) ht.ok hzr
        have e0 := hst.cell
        have e1 := hst.froz
        have hRl := hst.lt
        have c1 := fun w h => Lib.hid (iTop (some ⟨g, 0, none⟩) l cap _ z w h hL (by omega) hz)
        have c2 := fun w h => Lib.hid (iAlong m c p rs z w h H.out.2.2.1 hm12 hsm.1.1 hsm.1.2 hsm.2)
        rw [← hd] at c2
        obtain ⟨B, o, r, rfl, hr, hB, x0, x1, x2, x3⟩ := (H.out.1.below hbr).at (i := k) (by have := H.out.2.2.1; omega)
        have er' : runOf rs (k : Int) = r := by unfold runOf; simp [hr]
        have hf1 := run_f1
        have HD := Lib.hid (And.intro hdf (And.intro hst (And.intro hfl (And.intro hbr (And.intro er' (And.intro hWl hgk))))))
        clear hgk hWl hdf hst hfl hbr ht hL hz hd hzr hsm er' hr
        by_cases hdb : d = r.f
        · subst hdb
          go_wp2_with (first | (go_at_call 95; (with_reducible refine ((c1 _ ?_).out).mono ?_); (focus (exact HD.out.2.1.own.ints; done)); rintro e w' ⟨rfl, rfl⟩) | ((go_at_call 94; (with_reducible refine ((c2 _ ?_).out).mono ?_); (focus ((exact H.out.1.below HD.out.2.2.2.1); done)); rintro e wx ⟨rfl, hb_wx⟩; have hs_wx := hb_wx.size; (try simp at hs_wx)); have y0 := (hb_wx.cell (p := ⟨B, o + k * 4, none⟩) hB).trans x0; have y1 := (hb_wx.cell (p := ⟨R, 0, none⟩) hRl).trans e0; have hBb : B < wx.heap.size := (by omega); have hRb : R < wx.heap.size := (by omega)))
          go_ret
          obtain ⟨hdf, hst, hfl, hbr, he, hWl, hgk⟩ := HD.out
          rw [← he] at hdf
          refine ⟨g, l + 1, cap, rfl, by omega, ?_, hbr.trans (by repeat (first | assumption | exact Below.refl _ _ | (refine below_chain ?_ (by assumption) (by first | omega | (simp <;> omega) | simp)) | (refine Below.alloc ?_ (by first | omega | (simp <;> omega) | simp) _) | (apply below_drewN) | (apply below_drew) | (refine Below.setCell ?_ (by first | omega | (simp <;> omega) | simp) _)))⟩
          rw [dfs_end H.out.2.2.2.2 hdf]
          exact hst.own.below hb_wx
        · have hdb' : (d == r.f) = false := by simpa using hdb
          have HN := Lib.hid (show d ≠ (runOf rs k).f by rw [HD.out.2.2.2.2.1]; exact hdb)
          by_cases hno : ∀ i : Nat, lf[i]? = some true → numAt rs i d = 0
          · obtain ⟨W', z', hW⟩ := dfs_some HD.out.1 HN.out hno
            obtain ⟨l', rfl⟩ : ∃ l', l = l' + 1 := ⟨l - 1, by have := HD.out.2.2.2.2.2.1; rw [hW] at this; simp at this; omega⟩
            have HW := Lib.hid (And.intro hW hno)
            clear hW hno
            go_wp2_with (first | (go_at_call 95; (with_reducible refine ((c1 _ ?_).out).mono ?_); (focus (exact HD.out.2.1.own.ints; done)); rintro e w' ⟨rfl, rfl⟩) | ((go_at_call 94; (with_reducible refine ((c2 _ ?_).out).mono ?_); (focus ((exact H.out.1.below HD.out.2.2.2.1); done)); rintro e wx ⟨rfl, hb_wx⟩; have hs_wx := hb_wx.size; (try simp at hs_wx)); have y0 := (hb_wx.cell (p := ⟨B, o + k * 4, none⟩) hB).trans x0; have y1 := (hb_wx.cell (p := ⟨R, 0, none⟩) hRl).trans e0; have hBb : B < wx.heap.size := (by omega); have hRb : R < wx.heap.size := (by omega)) | (go_at_call 96; (with_reducible refine (iTake_no R g (l' + 1 + 1) cap m c w.heap.size (some ⟨B, o, none⟩) rs lf (((k : Int) + 1) :: W) d wx ((H.out.1.below HD.out.2.2.2.1).below hb_wx) (HD.out.2.2.1.below hb_wx) H.out.2.2.1 (by rw [HD.out.1.len]; exact H.out.2.2.1) hm12 HW.out.2).mono ?_); rintro e w' ⟨rfl, rfl⟩) | (go_at_call 97; (with_reducible refine (iPop R g (l' + 1) cap (((k : Int) + 1) :: W) wx (HD.out.2.1.below hb_wx) (by omega)).mono ?_); rintro e wp ⟨v, rfl, hsp, hap⟩; have HP := Lib.hid (And.intro hsp hap); clear hsp hap))
            obtain ⟨hdf, hst, hfl, hbr, he, hWl, hgk⟩ := HD.out
            obtain ⟨hsp, hap⟩ := HP.out
            obtain ⟨hW, hno⟩ := HW.out
            go_roundg (2 * tru lf + l')
            case measure => omega
            case rel =>
              subst hW
              refine ⟨lf, W', _, l', g, cap, rfl, by simpa using hWl, dfs_pop H.out.2.2.2.2 hdf HN.out hno, ?_, ?_, hgF, Apart.below (hbr.trans (by repeat (first | assumption | exact Below.refl _ _ | (refine below_chain ?_ (by assumption) (by first | omega | (simp <;> omega) | simp)) | (refine Below.alloc ?_ (by first | omega | (simp <;> omega) | simp) _) | (apply below_drewN) | (apply below_drew) | (refine Below.setCell ?_ (by first | omega | (simp <;> omega) | simp) _)))) hap hwR (by omega) hwR (by omega)⟩
              · have : (((k : Int) + 1) :: (W' ++ [z'])).dropLast = ((k : Int) + 1) :: W' := by rw [← List.cons_append, List.dropLast_concat]
                rw [this] at hsp; exact hsp
              · exact (hfl.below hb_wx).block (hap.block _ (by have := hfl.lt; omega) (by omega) (by omega) (by omega))
          · have HW := Lib.hid hno
            clear hno
            go_wp2_with (first | (go_at_call 95; (with_reducible refine ((c1 _ ?_).out).mono ?_); (focus (exact HD.out.2.1.own.ints; done)); rintro e w' ⟨rfl, rfl⟩) | ((go_at_call 94; (with_reducible refine ((c2 _ ?_).out).mono ?_); (focus ((exact H.out.1.below HD.out.2.2.2.1); done)); rintro e wx ⟨rfl, hb_wx⟩; have hs_wx := hb_wx.size; (try simp at hs_wx)); have y0 := (hb_wx.cell (p := ⟨B, o + k * 4, none⟩) hB).trans x0; have y1 := (hb_wx.cell (p := ⟨R, 0, none⟩) hRl).trans e0; have hBb : B < wx.heap.size := (by omega); have hRb : R < wx.heap.size := (by omega)) | (go_at_call 96; (with_reducible refine (iTake_yes R g (l + 1) cap m c w.heap.size (some ⟨B, o, none⟩) rs lf (((k : Int) + 1) :: W) d wx ((H.out.1.below HD.out.2.2.2.1).below hb_wx) (HD.out.2.1.below hb_wx) (HD.out.2.2.1.below hb_wx) H.out.2.2.1 (by rw [HD.out.1.len]; exact H.out.2.2.1) hm12 (by omega) hRF (by omega) HW.out).mono ?_); rintro e wp ⟨rfl, i, g', cap', hi, hz0, hbp, hsp, hloc, hap⟩; have HP := Lib.hid (And.intro hi (And.intro hz0 (And.intro hbp (And.intro hsp (And.intro hloc hap))))); clear hi hz0 hbp hsp hloc hap))
            obtain ⟨hdf, hst, hfl, hbr, he, hWl, hgk⟩ := HD.out
            obtain ⟨hi, hz0, hbp, hsp, hloc, hap⟩ := HP.out
            have htru := tru_set hi
            go_roundg (2 * tru (lf.set i false) + (l + 1))
            case measure => omega
            case rel =>
              refine ⟨lf.set i false, W ++ [numAt rs i d], _, l + 1, g', cap', rfl, by simp; omega, dfs_push hdf hi hz0, hsp, hbp, by rcases hloc with rfl | h; exact hgF; omega, Apart.below (hbr.trans (by repeat (first | assumption | exact Below.refl _ _ | (refine below_chain ?_ (by assumption) (by first | omega | (simp <;> omega) | simp)) | (refine Below.alloc ?_ (by first | omega | (simp <;> omega) | simp) _) | (apply below_drewN) | (apply below_drew) | (refine Below.setCell ?_ (by first | omega | (simp <;> omega) | simp) _)))) hap hwR (by omega) (Nat.le_refl _) (by omega)⟩
end Go.Proofs.YtoaomjchaihkaaaGreatDoor
namespace Go.Proofs.YtoaomjchaihkaaaGreatDoor
open Go.RowKit
set_option linter.unusedVariables false

theorem whole_ok {n : Int} {rs : List Rn} (h : nWhole n rs = true) : nOk n rs = true := by unfold nWhole at h; simp at h; exact h.1
/-- the run k is beside the first tree of the net -/
def Beside (n : Int) (rs : List Rn) (k : Int) : Prop := nWhole n rs = true ∧ (0 ≤ k ∧ k < rs.length) ∧ k ∉ firstT n.toNat rs rs.length
theorem iIndex (k c : Nat) (p : Option Addr) (T : List Int) (z : Int) (b : Bool) (w : World) (h : Ints w p T) (hk : T.length = k) (hl : k ≤ 1000) (hb : (open Classical in decide (z ∈ T)) = b) :
    Calls Tryz.prog 93 #[.slice p k c, .int .i64 z] w fun e w' => (∃ v : Int, e = .returned (.int .i64 v) ∧ decide (0 ≤ v) = b) ∧ w = w' := by
  have H := Lib.hid (And.intro h (And.intro hk hb))
  clear h hk hb
  go_enter Tryz.func93, Tryz.ntmps93
  go_wp2_with fail
  go_loopw [8] (fun i wr => ∃ j : Nat, j ≤ k ∧ i = .int .i64 j ∧ z ∉ T.take j ∧ w = wr) (fun i _ => k - (intOf i).toNat)
  case atStart => exact ⟨0, Nat.zero_le _, rfl, by simp, rfl⟩
  case round =>
    obtain ⟨j, hj, rfl, hn, rfl⟩ := hrel
    by_cases hlt : j < k
    · obtain ⟨B, o, y, rfl, hy, hB, e0⟩ := H.out.1.at (i := j) (by have := H.out.2.1; omega)
      have hlt' : (j : Int) < (k : Int) := by omega
      have HX := Lib.hid (And.intro hy hn)
      clear hy hn
      by_cases hyz : z = y
      · have HB : Hid (true = b) := Lib.hid (by rw [← H.out.2.2]; exact (decide_eq_true (by rw [hyz]; exact List.mem_of_getElem? HX.out.1)).symm)
        subst hyz
        go_wp2_with fail
        go_ret
        exact ⟨⟨j, rfl, by rw [← HB.out]; simp⟩, rfl⟩
      · have hyz' : (z == y) = false := by simpa using hyz
        have HN : Hid (z ∉ T.take (j + 1)) := Lib.hid (by rw [take_succ_of HX.out.1]; intro hc; rcases List.mem_append.1 hc with h | h; exact HX.out.2 h; simp at h; exact hyz h)
        go_wp2_with fail
        go_roundw
        case rel => exact ⟨j + 1, by omega, by go_num, HN.out, by first | trivial | rfl⟩
        case measure => simp [intOf]; omega
    · have e : j = k := by omega
      subst e
      have HB : Hid (false = b) := Lib.hid (by rw [← H.out.2.2]; rw [List.take_of_length_le (Nat.le_of_eq H.out.2.1)] at hn; exact (decide_eq_false hn).symm)
      go_wp2_with fail
      go_ret
      exact ⟨⟨-1, rfl, by rw [← HB.out]; rfl⟩, rfl⟩
theorem iContains (k c : Nat) (p : Option Addr) (T : List Int) (z : Int) (b : Bool) (w : World) (h : Ints w p T) (hk : T.length = k) (hl : k ≤ 1000) (hb : (open Classical in decide (z ∈ T)) = b) :
    Calls Tryz.prog 54 #[.slice p k c, .int .i64 z] w fun e w' => e = .returned (.bool b) ∧ w = w' := by
  have c1 := fun w h => Lib.hid (iIndex k c p T z b w h hk hl hb)
  have H := Lib.hid h
  clear h hk hb
  go_enter Tryz.func54, Tryz.ntmps54
  go_wp2_with (go_at_call 93; (with_reducible refine ((c1 _ ?_).out).mono ?_); (focus (exact H.out; done)); rintro e w' ⟨⟨v, rfl, hv⟩, rfl⟩; have HV := Lib.hid hv; clear hv)
  go_ret
  exact ⟨ret_bool HV.out, rfl⟩

set_option maxHeartbeats 4000000 in
theorem iLoopOf_yes (N m k : Nat) (p : Option Addr) (c : Nat) (rs : List Rn) (w : World) (h : Runs w p rs) (hm : rs.length = m) (hb : Beside N rs k) :
    Calls Tryz.prog 21 #[.int .i64 N, .slice p m c, .int .i64 k] w fun e w' => ∃ (g l cap : Nat), e = .returned (.tuple #[.slice (some ⟨g, 0, none⟩) l cap, .bool true]) ∧ w.heap.size ≤ g ∧ Own w' g 3 1 l cap (loopT N rs k) ∧ Below w.heap.size w w' := by
  obtain ⟨hw, ⟨hk0, hk1⟩, hk2⟩ := hb
  rw [Int.toNat_natCast] at hk2
  have ht := first_tree hw
  have hlT := ht.len
  have hN6 := (nOk_true ht.ok).2.1
  have hkm : k < m := by omega
  have H := Lib.hid (And.intro h (And.intro hm ht))
  have c1 := fun w h => Lib.hid (iFirst_yes N m p c rs w h hm hw)
  have c2 := fun w => Lib.hid (nHasRun p m c k true w (by simp; omega))
  have c3 := fun (K cap : Nat) (q : Option Addr) w h hK hl => Lib.hid (iContains K cap q (firstT N rs rs.length) k false w h hK hl (decide_eq_false hk2))
  have c4 := fun (K cap : Nat) (q : Option Addr) w h hq hK => Lib.hid (iClosed N m k K p q c cap rs (firstT N rs rs.length) w h hq hm hK ht hkm)
  clear h hm hw ht hk0 hk1 hk2
  go_enter Tryz.func21, Tryz.ntmps21
  go_upto_region 4 with (first | ((go_at_call 10; (with_reducible refine ((c1 _ ?_).out).mono ?_); (focus ((exact H.out.1); done)); rintro e wa ⟨g0, cap0, K, rfl, hK, hg0, ho, hb_wa⟩; have hs_wa := hb_wa.size; (try simp at hs_wa)); have HO := Lib.hid (And.intro hK ho); clear hK ho) | (go_at_call 48; (with_reducible refine ((c2 _).out).mono ?_); rintro e w' ⟨rfl, rfl⟩) | (go_at_call 54; (with_reducible refine ((c3 _ _ _ _ ?_ ?_ ?_).out).mono ?_); (focus (exact HO.out.2.ints; done)); (focus (exact HO.out.1; done)); (focus ((have := HO.out.1; omega); done)); rintro e w' ⟨rfl, rfl⟩))
  go_wp2_with ((go_at_call 55; (with_reducible refine ((c4 _ _ _ _ ?_ ?_ ?_).out).mono ?_); (focus ((exact H.out.1.below hb_wa); done)); (focus ((exact HO.out.2.ints); done)); (focus ((exact HO.out.1); done)); rintro e wb ⟨g, l, cap, rfl, hg, ho, hb_wb⟩; have hs_wb := hb_wb.size; (try simp at hs_wb)); have HP := Lib.hid ho; clear ho)
  refine bodyPost_ret (v := .tuple #[.slice (some ⟨g, 0, none⟩) l cap, .bool true]) (by simp [results, Tryz.results21, go_sem]) rfl ⟨g, l, cap, rfl, by omega, HP.out, (by repeat (first | assumption | exact Below.refl _ _ | (refine below_chain ?_ (by assumption) (by first | omega | (simp <;> omega) | simp)) | (refine Below.alloc ?_ (by first | omega | (simp <;> omega) | simp) _) | (apply below_drewN) | (apply below_drew) | (refine Below.setCell ?_ (by first | omega | (simp <;> omega) | simp) _)))⟩

set_option maxHeartbeats 4000000 in
theorem iLoopOf_no (n : Int) (m : Nat) (k : Int) (p : Option Addr) (c : Nat) (rs : List Rn) (w : World) (h : Runs w p rs) (hm : rs.length = m) (hl : m ≤ 4000000000000000000) (hb : ¬ Beside n rs k) :
    Calls Tryz.prog 21 #[.int .i64 n, .slice p m c, .int .i64 k] w fun e w' => e = .returned (.tuple #[.slice none 0 0, .bool false]) ∧ Below w.heap.size w w' := by
  have H := Lib.hid (And.intro h hm)
  cases hw : nWhole n rs with
  | false =>
    have c1 := fun w h => Lib.hid (iFirst_no n m p c rs w h hm hl hw)
    clear h hm hb hw
    go_enter Tryz.func21, Tryz.ntmps21
    go_wp2_with ((go_at_call 10; (with_reducible refine ((c1 _ ?_).out).mono ?_); (focus ((exact H.out.1); done)); rintro e wa ⟨rfl, hb_wa⟩; have hs_wa := hb_wa.size; (try simp at hs_wa)))
    refine bodyPost_ret (v := .tuple #[.slice none 0 0, .bool false]) (by simp [results, Tryz.results21, go_sem]) rfl ⟨rfl, (by repeat (first | assumption | exact Below.refl _ _ | (refine below_chain ?_ (by assumption) (by first | omega | (simp <;> omega) | simp)) | (refine Below.alloc ?_ (by first | omega | (simp <;> omega) | simp) _) | (apply below_drewN) | (apply below_drew) | (refine Below.setCell ?_ (by first | omega | (simp <;> omega) | simp) _)))⟩
  | true =>
    obtain ⟨N, rfl⟩ : ∃ N : Nat, n = (N : Int) := ⟨n.toNat, by have := (nOk_true (whole_ok hw)).1; omega⟩
    have ht := first_tree hw
    have hlT := ht.len
    have hN6 := (nOk_true ht.ok).2.1
    have c1 := fun w h => Lib.hid (iFirst_yes N m p c rs w h hm hw)
    by_cases hk : 0 ≤ k ∧ k < m
    · have hk2 : k ∈ firstT N rs rs.length := Classical.byContradiction (fun hc => hb ⟨hw, ⟨hk.1, by rw [hm]; exact hk.2⟩, by rw [Int.toNat_natCast]; exact hc⟩)
      have c2 := fun w => Lib.hid (nHasRun p m c k true w (by simp; omega))
      have c3 := fun (K cap : Nat) (q : Option Addr) w h hK hl => Lib.hid (iContains K cap q (firstT N rs rs.length) k true w h hK hl (decide_eq_true hk2))
      clear h hm hb hw ht hk2 hk
      go_enter Tryz.func21, Tryz.ntmps21
      go_wp2_with (first | ((go_at_call 10; (with_reducible refine ((c1 _ ?_).out).mono ?_); (focus ((exact H.out.1); done)); rintro e wa ⟨g0, cap0, K, rfl, hK, hg0, ho, hb_wa⟩; have hs_wa := hb_wa.size; (try simp at hs_wa)); have HO := Lib.hid (And.intro hK ho); clear hK ho) | (go_at_call 48; (with_reducible refine ((c2 _).out).mono ?_); rintro e w' ⟨rfl, rfl⟩) | (go_at_call 54; (with_reducible refine ((c3 _ _ _ _ ?_ ?_ ?_).out).mono ?_); (focus (exact HO.out.2.ints; done)); (focus (exact HO.out.1; done)); (focus ((have := HO.out.1; omega); done)); rintro e w' ⟨rfl, rfl⟩))
      refine bodyPost_ret (v := .tuple #[.slice none 0 0, .bool false]) (by simp [results, Tryz.results21, go_sem]) rfl ⟨rfl, (by repeat (first | assumption | exact Below.refl _ _ | (refine below_chain ?_ (by assumption) (by first | omega | (simp <;> omega) | simp)) | (refine Below.alloc ?_ (by first | omega | (simp <;> omega) | simp) _) | (apply below_drewN) | (apply below_drew) | (refine Below.setCell ?_ (by first | omega | (simp <;> omega) | simp) _)))⟩
    · have c2 := fun w => Lib.hid (nHasRun p m c k false w (decide_eq_false hk))
      clear h hm hb hw ht hk
      go_enter Tryz.func21, Tryz.ntmps21
      go_wp2_with (first | ((go_at_call 10; (with_reducible refine ((c1 _ ?_).out).mono ?_); (focus ((exact H.out.1); done)); rintro e wa ⟨g0, cap0, K, rfl, hK, hg0, ho, hb_wa⟩; have hs_wa := hb_wa.size; (try simp at hs_wa)); have HO := Lib.hid (And.intro hK ho); clear hK ho) | (go_at_call 48; (with_reducible refine ((c2 _).out).mono ?_); rintro e w' ⟨rfl, rfl⟩))
      refine bodyPost_ret (v := .tuple #[.slice none 0 0, .bool false]) (by simp [results, Tryz.results21, go_sem]) rfl ⟨rfl, (by repeat (first | assumption | exact Below.refl _ _ | (refine below_chain ?_ (by assumption) (by first | omega | (simp <;> omega) | simp)) | (refine Below.alloc ?_ (by first | omega | (simp <;> omega) | simp) _) | (apply below_drewN) | (apply below_drew) | (refine Below.setCell ?_ (by first | omega | (simp <;> omega) | simp) _)))⟩
end Go.Proofs.YtoaomjchaihkaaaGreatDoor
namespace Go.Proofs.YtoaomjchaihkaaaGreatDoor
open Go.RowKit
set_option linter.unusedVariables false

set_option maxHeartbeats 2000000 in
theorem iLoopError_yes (n : Int) (m k : Nat) (p q : Option Addr) (c d : Nat) (rs : List Rn) (L : List Int) (w : World) (h : Runs w p rs) (hq : Ints w q L) (hm : rs.length = m) (hk : L.length = k) (hb : isL n rs L = true) :
    Calls Tryz.prog 87 #[.int .i64 n, .slice p m c, .slice q k d] w fun e w' => e = .returned (.tuple #[.int .i64 (lsum rs L), .bool true]) ∧ Below w.heap.size w w' := by
  have hL := isL_true.1 hb
  have hm12 : m ≤ 12 := by have := (nOk_true hL.ok).2.2.1; omega
  have hk12 : k ≤ 12 := by have := hL.most; omega
  have c1 := fun w h hq => Lib.hid (iLoopIs n m k p q c d rs L true w h hq hm hk (by omega) (by omega) hb)
  have H := Lib.hid (And.intro h (And.intro hq (And.intro hm (And.intro hk hL))))
  have HL : Hid (∀ z ∈ L, (0 ≤ ix z ∧ ix z < rs.length) ∧ -100000 ≤ er rs z ∧ er rs z ≤ 100000) := Lib.hid (fun z hz => IsL.small (L := L) hL.ok (hL.rng z hz))
  have hf2 := run_f2
  clear h hq hm hk hb hL
  go_enter Tryz.func87, Tryz.ntmps87
  go_wp2_with ((go_at_call 119; (with_reducible refine ((c1 _ ?_ ?_).out).mono ?_); (focus ((exact H.out.1); done)); (focus ((exact H.out.2.1); done)); rintro e wa ⟨rfl, hb_wa⟩; have hs_wa := hb_wa.size; (try simp at hs_wa)))
  clear c1
  have HA := Lib.hid hb_wa
  clear hb_wa
  go_loopw [8, 18] (fun s i wr => ∃ j : Nat, j ≤ k ∧ i = .int .i64 j ∧ s = .int .i64 (lsum rs (L.take j)) ∧ Below w.heap.size w wr) (fun _ i _ => k - (intOf i).toNat)
  case atStart => exact ⟨0, Nat.zero_le _, rfl, rfl, HA.out⟩
  case round =>
    clear HA
    obtain ⟨j, hj, rfl, rfl, hbr⟩ := hrel
    have hbs := hbr.size
    have hb := lsum_low (rs := rs) (L := L.take j) (fun z hz => (HL.out z (List.mem_of_mem_take hz)).2)
    have hlt12 : (L.take j).length ≤ 12 := by rw [List.length_take]; omega
    obtain ⟨s, hs⟩ : ∃ s, lsum rs (L.take j) = s := ⟨_, rfl⟩
    rw [hs] at hb ⊢
    have s0 : -1200000 ≤ s := by omega
    have s1 : s ≤ 1200000 := by omega
    clear hb hlt12
    have HB := Lib.hid hbr
    by_cases hlt : j < k
    · obtain ⟨B, o, z, rfl, hz, hB, e0⟩ := (H.out.2.1.below hbr).at (i := j) (by have := H.out.2.2.2.1; omega)
      obtain ⟨⟨z0, z1⟩, z2⟩ := HL.out z (List.mem_of_getElem? hz)
      have hlt' : (j : Int) < (k : Int) := by omega
      have HS : Hid (lsum rs (L.take (j + 1)) = s + er rs z) := Lib.hid (by rw [take_succ_of hz, lsum_append, lsum_one, hs])
      have c2 := fun w h => Lib.hid (iAlong m c p rs z w h H.out.2.2.1 hm12 z0 z1 z2)
      obtain ⟨r, hr⟩ : ∃ r, er rs z = r := ⟨_, rfl⟩
      rw [hr] at c2 z2 HS
      obtain ⟨r0, r1⟩ := z2
      clear hz hs hbr z0 z1 hr
      go_wp2_with ((go_at_call 94; (with_reducible refine ((c2 _ ?_).out).mono ?_); (focus ((exact H.out.1.below HB.out); done)); rintro e wx ⟨rfl, hb_wx⟩; have hs_wx := hb_wx.size; (try simp at hs_wx)))
      go_roundw
      case rel => exact ⟨j + 1, by omega, by go_num, by rw [HS.out], HB.out.trans (by repeat (first | assumption | exact Below.refl _ _ | (refine below_chain ?_ (by assumption) (by first | omega | (simp <;> omega) | simp)) | (refine Below.alloc ?_ (by first | omega | (simp <;> omega) | simp) _) | (apply below_drewN) | (apply below_drew) | (refine Below.setCell ?_ (by first | omega | (simp <;> omega) | simp) _)))⟩
      case measure => simp [intOf]; omega
    · have e : j = k := by omega
      subst e
      have HX : Hid (lsum rs L = s) := Lib.hid (by rw [← hs, List.take_of_length_le (Nat.le_of_eq H.out.2.2.2.1)])
      clear hs hbr
      go_wp2_with fail
      refine bodyPost_ret (v := .tuple #[.int .i64 s, .bool true]) (by simp [results, Tryz.results87, go_sem]) rfl ⟨by rw [HX.out], HB.out⟩
set_option maxHeartbeats 1000000 in
theorem iLoopError_no (n : Int) (m k : Nat) (p q : Option Addr) (c d : Nat) (rs : List Rn) (L : List Int) (w : World) (h : Runs w p rs) (hq : Ints w q L) (hm : rs.length = m) (hk : L.length = k) (hl : m ≤ 4000000000000000000) (hl2 : k ≤ 4000000000000000000) (hb : isL n rs L = false) :
    Calls Tryz.prog 87 #[.int .i64 n, .slice p m c, .slice q k d] w fun e w' => e = .returned (.tuple #[.int .i64 0, .bool false]) ∧ Below w.heap.size w w' := by
  have c1 := fun w h hq => Lib.hid (iLoopIs n m k p q c d rs L false w h hq hm hk hl hl2 hb)
  have H := Lib.hid (And.intro h hq)
  clear h hq hm hk hb
  go_enter Tryz.func87, Tryz.ntmps87
  go_wp2_with ((go_at_call 119; (with_reducible refine ((c1 _ ?_ ?_).out).mono ?_); (focus ((exact H.out.1); done)); (focus ((exact H.out.2); done)); rintro e wa ⟨rfl, hb_wa⟩; have hs_wa := hb_wa.size; (try simp at hs_wa)))
  refine bodyPost_ret (v := .tuple #[.int .i64 0, .bool false]) (by simp [results, Tryz.results87, go_sem]) rfl ⟨rfl, hb_wa⟩

/-- a list of ints that a call made: nil, or a block of its own -/
def ListI (w : World) (xs : List Int) (l : Nat) (v : Value) (w' : World) : Prop :=
  xs.length = l ∧ ((l = 0 ∧ v = .slice none 0 0) ∨ ∃ g cap, v = .slice (some ⟨g, 0, none⟩) l cap ∧ (0 < l ∧ w.heap.size ≤ g) ∧ Own w' g 3 1 l cap xs)
theorem errsTo_len12 {N : Nat} {rs : List Rn} : ∀ j : Nat, (errsTo N rs j).length ≤ j
  | 0 => by simp [errsTo]
  | j + 1 => by
    have := errsTo_len12 (N := N) (rs := rs) j
    by_cases h : (j : Int) ∈ firstT N rs rs.length
    · rw [errsTo_in h]; omega
    · rw [errsTo_out h]; simp; omega
set_option maxHeartbeats 4000000 in
set_option maxRecDepth 100000 in
theorem iErrors_yes (N m : Nat) (p : Option Addr) (c : Nat) (rs : List Rn) (w : World) (h : Runs w p rs) (hm : rs.length = m) (hw : nWhole N rs = true) :
    Calls Tryz.prog 44 #[.int .i64 N, .slice p m c] w fun e w' => ∃ (l : Nat) (v : Value), e = .returned (.tuple #[v, .bool true]) ∧ ListI w (errs N rs) l v w' ∧ Below w.heap.size w w' := by
  have hn : nOk N rs = true := (whole_iff.1 hw).1
  obtain ⟨hn2, hn6, hl12, -⟩ := nOk_true hn
  have hm12 : m ≤ 12 := by omega
  have H := Lib.hid (And.intro h (And.intro hm hw))
  have c1 := fun w h => Lib.hid (iWhole_n (p := p) (c := c) w hm h (by omega) hw)
  clear h hm hw hn hn2 hn6 hl12
  go_enter Tryz.func44, Tryz.ntmps44
  go_wp2_with ((go_at_call 39; (with_reducible refine ((c1 _ ?_).out).mono ?_); (focus ((exact H.out.1); done)); rintro e wa ⟨rfl, hb_wa⟩; have hs_wa := hb_wa.size; (try simp at hs_wa)))
  have HA := Lib.hid hb_wa
  clear c1 hb_wa
  go_loopw [6, 18] (fun v i wr => ∃ (j l : Nat), j ≤ m ∧ i = .int .i64 j ∧ ListI w (errsTo N rs j) l v wr ∧ Below w.heap.size w wr) (fun _ i _ => m - (intOf i).toNat)
  case atStart => exact ⟨0, 0, Nat.zero_le _, rfl, ⟨rfl, .inl ⟨rfl, rfl⟩⟩, HA.out⟩
  case round =>
    clear HA hs_wa
    obtain ⟨j, l, hj, rfl, ⟨hl, hv⟩, hbr⟩ := hrel
    have hbs := hbr.size
    have hll := errsTo_len12 (N := N) (rs := rs) j
    have hl12 : l ≤ 12 := by omega
    have HB := Lib.hid (And.intro hbr hl)
    clear hbr hl hll
    by_cases hlt : j < m
    · have hlt' : (j : Int) < (m : Int) := by omega
      by_cases hb : Beside N rs j
      · have hL := loopT_is (k := j) H.out.2.2 (by have := H.out.2.1; omega)
        have c1 := fun w h => Lib.hid (iLoopOf_yes N m j p c rs w h H.out.2.1 hb)
        have c2 := fun (l cap : Nat) (q : Option Addr) w h hq hl => Lib.hid (iLoopError_yes N m l p q c cap rs (loopT N rs j) w h hq H.out.2.1 hl (isL_true.2 hL))
        have HX : Hid (errsTo N rs (j + 1) = errsTo N rs j ++ [lsum rs (loopT N rs j)]) := Lib.hid (errsTo_out (by have := hb.2.2; rwa [Int.toNat_natCast] at this))
        obtain ⟨s, hs⟩ : ∃ s, lsum rs (loopT N rs j) = s := ⟨_, rfl⟩
        rw [hs] at c2 HX
        clear hb hL hs
        rcases hv with ⟨rfl, rfl⟩ | ⟨g, cap, rfl, hg, ho⟩
        · have HE : Hid (errsTo N rs j = []) := Lib.hid (List.length_eq_zero_iff.1 HB.out.2)
          go_wp2_with (first | ((go_at_call 21; (with_reducible refine ((c1 _ ?_).out).mono ?_); (focus ((exact H.out.1.below HB.out.1); done)); rintro e wx ⟨gx, lx, cx, rfl, hgx, ox, hb_wx⟩; have hs_wx := hb_wx.size; (try simp at hs_wx)); have OX := Lib.hid ox; have hlx := ox.len; clear ox) | (go_at_call 87; (with_reducible refine ((c2 _ _ _ _ ?_ ?_ ?_).out).mono ?_); (focus ((exact (H.out.1.below HB.out.1).below hb_wx); done)); (focus ((exact OX.out.ints); done)); (focus ((omega); done)); rintro e wy ⟨rfl, hb_wy⟩; have hs_wy := hb_wy.size; (try simp at hs_wy)) | (at_builtin; refine wp_append_nil _ rfl _ _ 30 rfl 3 _ 1 8 Tryz.underlying30 info_int rfl (by decide) (by decide) rfl _ _ _ [s] rfl (by decide) rfl (one_cell _ _ _) (by omega) ?_; intro cap' w' hown hgr hsz; have HN := Lib.hid (And.intro hown (And.intro hgr hsz)); clear hown hgr hsz))
          go_roundw
          case rel =>
            obtain ⟨hown, hgr, hsz⟩ := HN.out
            have hB1 : Below w.heap.size w wy := (HB.out.1.trans (hb_wx.mono hbs)).trans (hb_wy.mono (by omega))
            have h1 := hB1.size
            exact ⟨j + 1, 1, by omega, by go_num, ⟨by rw [HX.out, HE.out]; rfl, .inr ⟨_, cap', rfl, ⟨by omega, by omega⟩, by rw [HX.out, HE.out]; simpa using hown⟩⟩, (hB1.alloc h1 _).trans (hgr.mono (by simp; omega))⟩
          case measure => simp [intOf]; omega
        · have HO := Lib.hid ho
          have hlo := ho.lt
          clear ho
          go_wp2_with (first | ((go_at_call 21; (with_reducible refine ((c1 _ ?_).out).mono ?_); (focus ((exact H.out.1.below HB.out.1); done)); rintro e wx ⟨gx, lx, cx, rfl, hgx, ox, hb_wx⟩; have hs_wx := hb_wx.size; (try simp at hs_wx)); have OX := Lib.hid ox; have hlx := ox.len; clear ox) | (go_at_call 87; (with_reducible refine ((c2 _ _ _ _ ?_ ?_ ?_).out).mono ?_); (focus ((exact (H.out.1.below HB.out.1).below hb_wx); done)); (focus ((exact OX.out.ints); done)); (focus ((omega); done)); rintro e wy ⟨rfl, hb_wy⟩; have hs_wy := hb_wy.size; (try simp at hs_wy)) | (at_builtin; refine wp_append _ rfl _ _ 30 rfl 3 _ 1 8 Tryz.underlying30 info_int rfl (by decide) (by decide) g l cap _ rfl (((HO.out.below hb_wx).below hb_wy).alloc _) _ _ _ [s] rfl rfl (one_cell _ _ _) (by omega) ?_; intro g' cap' w' hown hgr hloc hsz; have HN := Lib.hid (And.intro hown (And.intro hgr (And.intro hloc hsz))); clear hown hgr hloc hsz))
          go_roundw
          case rel =>
            obtain ⟨hown, hgr, hloc, hsz⟩ := HN.out
            have hB1 : Below w.heap.size w wy := (HB.out.1.trans (hb_wx.mono hbs)).trans (hb_wy.mono (by omega))
            have h1 := hB1.size
            have hg' : w.heap.size ≤ g' := by
              rcases hloc with rfl | rfl
              · exact hg.2
              · simp; omega
            exact ⟨j + 1, l + 1, by omega, by go_num, ⟨by rw [HX.out]; simp; exact HB.out.2, .inr ⟨g', cap', rfl, ⟨by omega, hg'⟩, by rw [HX.out]; exact hown⟩⟩, below_gr (hB1.alloc h1 _) hgr hg.2 (by simp; omega)⟩
          case measure => simp [intOf]; omega
      · have c1 := fun w h => Lib.hid (iLoopOf_no N m j p c rs w h H.out.2.1 (by omega) hb)
        have HX : Hid (errsTo N rs (j + 1) = errsTo N rs j) := Lib.hid (errsTo_in (Classical.byContradiction (fun hc => hb ⟨H.out.2.2, ⟨by omega, by have := H.out.2.1; omega⟩, by rw [Int.toNat_natCast]; exact hc⟩)))
        clear hb
        have HV := Lib.hid hv
        rcases hv with ⟨rfl, rfl⟩ | ⟨g, cap, rfl, hg, ho⟩
        · go_wp2_with ((go_at_call 21; (with_reducible refine ((c1 _ ?_).out).mono ?_); (focus ((exact H.out.1.below HB.out.1); done)); rintro e wx ⟨rfl, hb_wx⟩; have hs_wx := hb_wx.size; (try simp at hs_wx)))
          go_roundw
          case rel => exact ⟨j + 1, 0, by omega, by go_num, ⟨by rw [HX.out]; exact HB.out.2, .inl ⟨rfl, rfl⟩⟩, HB.out.1.trans (by repeat (first | assumption | exact Below.refl _ _ | (refine below_chain ?_ (by assumption) (by first | omega | (simp <;> omega) | simp)) | (refine Below.alloc ?_ (by first | omega | (simp <;> omega) | simp) _) | (apply below_drewN) | (apply below_drew) | (refine Below.setCell ?_ (by first | omega | (simp <;> omega) | simp) _)))⟩
          case measure => simp [intOf]; omega
        · have HO := Lib.hid ho
          clear ho HV
          go_wp2_with ((go_at_call 21; (with_reducible refine ((c1 _ ?_).out).mono ?_); (focus ((exact H.out.1.below HB.out.1); done)); rintro e wx ⟨rfl, hb_wx⟩; have hs_wx := hb_wx.size; (try simp at hs_wx)))
          go_roundw
          case rel => exact ⟨j + 1, l, by omega, by go_num, ⟨by rw [HX.out]; exact HB.out.2, .inr ⟨g, cap, rfl, hg, by rw [HX.out]; exact HO.out.below hb_wx⟩⟩, HB.out.1.trans (by repeat (first | assumption | exact Below.refl _ _ | (refine below_chain ?_ (by assumption) (by first | omega | (simp <;> omega) | simp)) | (refine Below.alloc ?_ (by first | omega | (simp <;> omega) | simp) _) | (apply below_drewN) | (apply below_drew) | (refine Below.setCell ?_ (by first | omega | (simp <;> omega) | simp) _)))⟩
          case measure => simp [intOf]; omega
    · have e : j = m := by omega
      subst e
      have HV := Lib.hid hv
      have HX : Hid (errs N rs = errsTo N rs j) := Lib.hid (by unfold errs; rw [H.out.2.1])
      rcases hv with ⟨rfl, rfl⟩ | ⟨g, cap, rfl, hg, ho⟩
      · go_wp2_with fail
        refine bodyPost_ret (v := .tuple #[.slice none 0 0, .bool true]) (by simp [results, Tryz.results44, go_sem]) rfl ⟨0, _, rfl, ⟨by rw [HX.out]; exact HB.out.2, .inl ⟨rfl, rfl⟩⟩, HB.out.1⟩
      · have HO := Lib.hid ho
        clear ho HV
        go_wp2_with fail
        refine bodyPost_ret (v := .tuple #[.slice (some ⟨g, 0, none⟩) l cap, .bool true]) (by simp [results, Tryz.results44, go_sem]) rfl ⟨l, _, rfl, ⟨by rw [HX.out]; exact HB.out.2, .inr ⟨g, cap, rfl, hg, by rw [HX.out]; exact HO.out⟩⟩, HB.out.1⟩
end Go.Proofs.YtoaomjchaihkaaaGreatDoor
namespace Go.Proofs.YtoaomjchaihkaaaGreatDoor
open Go.RowKit
set_option linter.unusedVariables false

theorem iErrors_no (n : Int) (m : Nat) (p : Option Addr) (c : Nat) (rs : List Rn) (w : World) (h : Runs w p rs) (hm : rs.length = m) (hl : m ≤ 4000000000000000000) (hw : nWhole n rs = false) :
    Calls Tryz.prog 44 #[.int .i64 n, .slice p m c] w fun e w' => e = .returned (.tuple #[.slice none 0 0, .bool false]) ∧ Below w.heap.size w w' := by
  have H := Lib.hid h
  have c1 := fun w h => Lib.hid (iWhole_n (p := p) (c := c) w hm h hl hw)
  clear h hm hw
  go_enter Tryz.func44, Tryz.ntmps44
  go_wp2_with ((go_at_call 39; (with_reducible refine ((c1 _ ?_).out).mono ?_); (focus ((exact H.out); done)); rintro e wa ⟨rfl, hb_wa⟩; have hs_wa := hb_wa.size; (try simp at hs_wa)))
  refine bodyPost_ret (v := .tuple #[.slice none 0 0, .bool false]) (by simp [results, Tryz.results44, go_sem]) rfl ⟨rfl, (by repeat (first | assumption | exact Below.refl _ _ | (refine below_chain ?_ (by assumption) (by first | omega | (simp <;> omega) | simp)) | (refine Below.alloc ?_ (by first | omega | (simp <;> omega) | simp) _) | (apply below_drewN) | (apply below_drew) | (refine Below.setCell ?_ (by first | omega | (simp <;> omega) | simp) _)))⟩
theorem iErrors_nil (N m : Nat) (p : Option Addr) (c : Nat) (rs : List Rn) (w : World) (h : Runs w p rs) (hm : rs.length = m) (hw : nWhole N rs = true) (he : errs N rs = []) :
    Calls Tryz.prog 44 #[.int .i64 N, .slice p m c] w fun e w' => e = .returned (.tuple #[.slice none 0 0, .bool true]) ∧ Below w.heap.size w w' := by
  refine (iErrors_yes N m p c rs w h hm hw).mono ?_
  rintro e w' ⟨l, v, rfl, ⟨hl, hv⟩, hb⟩
  rw [he] at hl
  simp at hl
  subst hl
  rcases hv with ⟨-, rfl⟩ | ⟨g, cap, rfl, ⟨hg, -⟩, ho⟩
  · exact ⟨rfl, hb⟩
  · omega
theorem iErrors_some (N m l : Nat) (p : Option Addr) (c : Nat) (rs : List Rn) (w : World) (h : Runs w p rs) (hm : rs.length = m) (hw : nWhole N rs = true) (hl : (errs N rs).length = l) (h0 : 0 < l) :
    Calls Tryz.prog 44 #[.int .i64 N, .slice p m c] w fun e w' => ∃ g cap, e = .returned (.tuple #[.slice (some ⟨g, 0, none⟩) l cap, .bool true]) ∧ w.heap.size ≤ g ∧ Own w' g 3 1 l cap (errs N rs) ∧ Below w.heap.size w w' := by
  refine (iErrors_yes N m p c rs w h hm hw).mono ?_
  rintro e w' ⟨l', v, rfl, ⟨hl', hv⟩, hb⟩
  obtain rfl : l' = l := by omega
  rcases hv with ⟨h, rfl⟩ | ⟨g, cap, rfl, ⟨-, hg⟩, ho⟩
  · omega
  · exact ⟨g, cap, rfl, hg, ho, hb⟩
theorem closes_nil {N : Nat} {rs : List Rn} (hw : nWhole N rs = true) (he : errs N rs = []) : closes N rs = true := closes_true.2 ⟨hw, by rw [he]; simp⟩
set_option maxHeartbeats 1000000 in
theorem iCloses_yes (N m : Nat) (p : Option Addr) (c : Nat) (rs : List Rn) (b : Bool) (w : World) (h : Runs w p rs) (hm : rs.length = m) (hw : nWhole N rs = true) (hb : closes N rs = b) :
    Calls Tryz.prog 12 #[.int .i64 N, .slice p m c] w fun e w' => e = .returned (.bool b) ∧ Below w.heap.size w w' := by
  have H := Lib.hid h
  by_cases he : errs N rs = []
  · obtain rfl : b = true := by rw [← hb]; exact closes_nil hw he
    have c1 := fun w h => Lib.hid (iErrors_nil N m p c rs w h hm hw he)
    clear h hm hw hb he
    go_enter Tryz.func12, Tryz.ntmps12
    go_wp2_with ((go_at_call 44; (with_reducible refine ((c1 _ ?_).out).mono ?_); (focus ((exact H.out); done)); rintro e wa ⟨rfl, hb_wa⟩; have hs_wa := hb_wa.size; (try simp at hs_wa)))
    go_loopw [17] (fun i wr => i = .int .i64 0 ∧ wa = wr) (fun i _ => 0)
    case atStart => exact ⟨rfl, rfl⟩
    case round =>
      obtain ⟨rfl, rfl⟩ := hrel
      go_wp2_with fail
      go_ret
      exact ⟨rfl, hb_wa⟩
  · obtain ⟨l, hl⟩ : ∃ l, (errs N rs).length = l := ⟨_, rfl⟩
    have h0 : 0 < l := by rw [← hl]; exact List.length_pos_iff.2 he
    have hl12 : l ≤ 12 := by
      have := errsTo_len12 (N := N) (rs := rs) rs.length
      have := (nOk_true (whole_iff.1 hw).1).2.2.1
      unfold errs at hl; omega
    have c1 := fun w h => Lib.hid (iErrors_some N m l p c rs w h hm hw hl h0)
    have HB := Lib.hid (And.intro hb (And.intro hw hl))
    clear h hm hw hb he hl
    go_enter Tryz.func12, Tryz.ntmps12
    go_wp2_with ((go_at_call 44; (with_reducible refine ((c1 _ ?_).out).mono ?_); (focus ((exact H.out); done)); rintro e wa ⟨g, cap, rfl, hg, ho, hb_wa⟩; have hs_wa := hb_wa.size; (try simp at hs_wa)); have HO := Lib.hid ho; have hlo := ho.lt; clear ho)
    go_loopw [17] (fun i wr => ∃ j : Nat, j ≤ l ∧ i = .int .i64 j ∧ (∀ e ∈ (errs N rs).take j, e = 0) ∧ wa = wr) (fun i _ => l - (intOf i).toNat)
    case atStart => exact ⟨0, Nat.zero_le _, rfl, by simp, rfl⟩
    case round =>
      obtain ⟨j, hj, rfl, hz, rfl⟩ := hrel
      have HZ := Lib.hid hz
      clear hz
      by_cases hlt : j < l
      · obtain ⟨z, hz⟩ : ∃ z, (errs N rs)[j]? = some z := ⟨_, List.getElem?_eq_getElem (by have := HB.out.2.2; omega)⟩
        have e0 := HO.out.cells hz
        have hlt' : (j : Int) < (l : Int) := by omega
        by_cases h0 : z = 0
        · have HX : Hid (∀ e ∈ (errs N rs).take (j + 1), e = 0) := Lib.hid (fun e he => by
            rw [take_succ_of hz] at he
            rcases List.mem_append.1 he with h | h
            · exact HZ.out e h
            · simp at h; subst h; exact h0)
          subst h0
          clear hz
          go_wp2_with fail
          go_roundw
          case rel => exact ⟨j + 1, by omega, by go_num, HX.out, by first | trivial | rfl⟩
          case measure => simp [intOf]; omega
        · have h0' : (z == 0) = false := by simpa using h0
          have HF : Hid (false = b) := Lib.hid (by
            rw [← HB.out.1]
            cases hc : closes N rs with
            | false => rfl
            | true => exact absurd ((closes_true.1 hc).2 z (List.mem_of_getElem? hz)) h0)
          clear hz
          go_wp2_with fail
          go_ret
          exact ⟨ret_bool HF.out, hb_wa⟩
      · have e : j = l := by omega
        subst e
        have HF : Hid (true = b) := Lib.hid (by
          rw [← HB.out.1]
          exact (closes_true.2 ⟨HB.out.2.1, by have := HZ.out; rwa [List.take_of_length_le (Nat.le_of_eq HB.out.2.2)] at this⟩).symm)
        go_wp2_with fail
        go_ret
        exact ⟨ret_bool HF.out, hb_wa⟩
theorem iCloses_no (n : Int) (m : Nat) (p : Option Addr) (c : Nat) (rs : List Rn) (w : World) (h : Runs w p rs) (hm : rs.length = m) (hl : m ≤ 4000000000000000000) (hw : nWhole n rs = false) :
    Calls Tryz.prog 12 #[.int .i64 n, .slice p m c] w fun e w' => e = .returned (.bool false) ∧ Below w.heap.size w w' := by
  have H := Lib.hid h
  have c1 := fun w h => Lib.hid (iErrors_no n m p c rs w h hm hl hw)
  clear h hm hw
  go_enter Tryz.func12, Tryz.ntmps12
  go_wp2_with ((go_at_call 44; (with_reducible refine ((c1 _ ?_).out).mono ?_); (focus ((exact H.out); done)); rintro e wa ⟨rfl, hb_wa⟩; have hs_wa := hb_wa.size; (try simp at hs_wa)))
  go_loopw [17] (fun i wr => i = .int .i64 0 ∧ wa = wr) (fun i _ => 0)
  case atStart => exact ⟨rfl, rfl⟩
  case round =>
    obtain ⟨rfl, rfl⟩ := hrel
    go_wp2_with fail
    go_ret
    exact ⟨rfl, hb_wa⟩
end Go.Proofs.YtoaomjchaihkaaaGreatDoor
namespace Go.Proofs.YtoaomjchaihkaaaGreatDoor
open Go.RowKit
set_option linter.unusedVariables false

theorem ints_not_nil (a : Addr) (l c : Nat) (w : World) : (binOp .eql 30 (.slice (some a) l c) (.slice none 0 0)).run Tryz.prog w = .ok (.bool false) w := by
  have h := run_equal_slice_nil (P := Tryz.prog) w 30 3 (some a) l c Tryz.underlying30
  simp [binOp, h]
theorem ints_cellsI {w : World} {B o : Nat} {zs : List Int} (h : Ints w (some ⟨B, o, none⟩) zs) : ∀ (j : Nat) (z : Int), zs[j]? = some z → w.cell? ((⟨B, o, none⟩ : Addr).add j) = some (.int .i64 z) := by
  rcases h with rfl | ⟨B', o', e, hB, hc⟩
  · intro j z h; simp at h
  · simp at e
    obtain ⟨rfl, rfl⟩ := e
    intro j z hj
    rw [Go.WideShapes.add_plain]
    exact hc j z hj
/-- the first i and the last i have changed places -/
def Swp (xs ys : List Int) (i : Nat) : Prop := ys.length = xs.length ∧ ∀ t, t < xs.length → ys[t]? = if t < i ∨ xs.length - i ≤ t then xs[xs.length - 1 - t]? else xs[t]?
theorem swp_start (xs : List Int) : Swp xs xs 0 := ⟨rfl, fun t ht => by rw [if_neg (by omega)]⟩
theorem swp_end {xs ys : List Int} {i : Nat} (h : Swp xs ys i) (hi : xs.length ≤ 2 * i + 1) : ys = xs.reverse := by
  apply List.ext_getElem?
  intro t
  by_cases ht : t < xs.length
  · rw [h.2 t ht, List.getElem?_reverse ht]
    split
    · rfl
    · have : xs.length - 1 - t = t := by omega
      rw [this]
  · rw [List.getElem?_eq_none (by have := h.1; omega), List.getElem?_eq_none (by simp; omega)]
theorem swp_step {xs ys : List Int} {i j : Nat} {a b : Int} (h : Swp xs ys i) (hj : i + j + 1 = xs.length) (hij : i < j) (ha : ys[i]? = some a) (hb : ys[j]? = some b) : Swp xs ((ys.set i b).set j a) (i + 1) := by
  refine ⟨by simp; exact h.1, fun t ht => ?_⟩
  have hl := h.1
  have h1 := h.2 i (by omega)
  have h2 := h.2 j (by omega)
  rw [if_neg (by omega)] at h1 h2
  rw [ha] at h1
  rw [hb] at h2
  by_cases e1 : t = j
  · subst e1
    rw [List.getElem?_set_self (by simp; omega), if_pos (by omega), show xs.length - 1 - t = i by omega]; exact h1
  · rw [List.getElem?_set_ne (by omega)]
    by_cases e2 : t = i
    · subst e2
      rw [List.getElem?_set_self (by omega), if_pos (by omega), show xs.length - 1 - t = j by omega]; exact h2
    · rw [List.getElem?_set_ne (by omega), h.2 t ht]
      by_cases hc : t < i ∨ xs.length - i ≤ t
      · rw [if_pos hc, if_pos (by omega)]
      · rw [if_neg hc, if_neg (by omega)]
/-- the first j with opposite signs -/
def negT (R : List Int) (j : Nat) : List Int := (R.take j).map (fun z => -z) ++ R.drop j
theorem negT_zero (R : List Int) : negT R 0 = R := by simp [negT]
theorem negT_all (L : List Int) : negT L.reverse L.reverse.length = back L := by
  unfold negT back
  rw [List.take_length, List.drop_length, List.append_nil, List.map_reverse]
theorem negT_len (R : List Int) {j : Nat} : (negT R j).length = R.length := by simp [negT]; omega
theorem negT_at {R : List Int} {j : Nat} {z : Int} (h : R[j]? = some z) : (negT R j)[j]? = some z := by
  have hl := (List.getElem?_eq_some_iff.1 h).1
  unfold negT
  rw [List.getElem?_append_right (by simp; omega)]
  simp
  rw [show j - min j R.length = 0 by omega, Nat.add_zero]
  exact h
theorem negT_set {R : List Int} {j : Nat} {z : Int} (h : R[j]? = some z) : (negT R j).set j (-z) = negT R (j + 1) := by
  have hl := (List.getElem?_eq_some_iff.1 h).1
  unfold negT
  rw [List.set_append_right _ _ (by simp; omega), take_succ_of h]
  have e : R.drop j = z :: R.drop (j + 1) := by
    rw [List.drop_eq_getElem_cons hl]
    rw [List.getElem?_eq_getElem hl] at h
    cases h; rfl
  rw [e, show j - ((R.take j).map (fun z => -z)).length = 0 by simp; omega, List.set_cons_zero]
  simp
end Go.Proofs.YtoaomjchaihkaaaGreatDoor
