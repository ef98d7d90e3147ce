/-
  For every code the law FnMatrix returns true: impl.NetMatrix answers as the reference model does; its matrix turned is the matrix itself, the sum of each row is the weight of the runs between that node and node 0, and its determinant is impl.NetTrees. No condition: every list of bytes is taken.
-/
import Derived.Test.YtenllemaccacgaaZn
import Derived.Test.YtenllemaccacgaaZe
import Derived.Test.YtenllemaccacgaaZj
import Derived.Test.YtenllemaccacgaaZp
import Derived.Test.YtenllemaccacgaaCode
import Derived.Test.YtenllemaccacgaaZc
namespace Go.Proofs.Ytenllemaccacgaa.fnMatrix
open Go.ChangeShapes Go.WideShapes Go.ChangeAt Go.RowKit
set_option linter.unusedVariables false

/-- the weight of a run between node 0 and node i + 1 -/
def wt0 (i : Nat) (r : Rn) : Int := if (r.f = 0 ∧ r.t = (i : Int) + 1) ∨ (r.t = 0 ∧ r.f = (i : Int) + 1) then r.g else 0
theorem ok_InN {N n : Nat} {rs : List Rn} (hn : nOk (N : Int) rs = true) (hNn : N = n + 1) : InN (n + 1) rs := fun r hr => by
  obtain ⟨k, hk⟩ := List.getElem?_of_mem hr
  have := rOk_true ((nOk_true hn).2.2.2 k r hk)
  subst hNn
  exact ⟨this.1, this.2.1, this.2.2.1, this.2.2.2.1⟩
theorem wt0_low {n : Int} {rs : List Rn} (hn : nOk n rs = true) (i k : Nat) : -108 ≤ lsm (rs.take k) (wt0 i) ∧ lsm (rs.take k) (wt0 i) ≤ 108 := by
  have h := lsm_abs (rs := rs.take k) (F := wt0 i) (c := 9) (fun r hr => by
    have h1 := ok_runs hn r (List.mem_of_mem_take hr)
    unfold wt0
    split
    · exact ⟨by have := h1.2.1; omega, h1.2.2.1⟩
    · omega)
  have hl := (nOk_true hn).2.2.1
  have : (rs.take k).length ≤ 12 := by rw [List.length_take]; omega
  omega

set_option maxHeartbeats 8000000 in
set_option maxRecDepth 100000 in
theorem walk (len cap : Nat) (p : Option Addr) (w : World) (hl : len ≤ 1048576) (h : Hid (Code' w (.slice p len cap))) :
    Calls Try.prog 15 #[.slice p len cap] w fun e w' => e = .returned (.bool true) ∧ Below w.heap.size w w' := by
  have hl' : ¬ (1048576 : Int) < (len : Int) := by omega
  go_enter Try.func15, Try.ntmps15
  go_upto_region 4 with (go_at_call 45; (with_reducible refine (drawMatrix_is _ _ h).mono ?_); rintro e wd ⟨N, m, rs, B, ⟨c, hmc, rfl⟩, hmm, ⟨⟨hN2, hN6⟩, hl8, hR, hb_wd⟩⟩; have hs_wd := hb_wd.size; have HR := Lib.hid hR; have HM := Lib.hid hmm; clear hR)
  have hm8 : m ≤ 8 := by omega
  clear h hl8 hmm
  cases hn : nOk (N : Int) rs
  · have c1 := fun w h => Lib.hid (iMatrix_no N (some ⟨B, 0, none⟩) c m rs w h HM.out (by omega) hn)
    have c2 := fun w h => Lib.hid (sMatrix_no N (some ⟨B, 0, none⟩) c m rs w h HM.out (by omega) hn)
    clear hn
    go_wp2_with (first
      | (go_at_call 46; (with_reducible refine ((c1 _ ?_).out).mono ?_); (focus ((exact HR.out); done)); rintro e wi ⟨⟨qi, di, rfl⟩, hb_wi⟩; have hs_wi := hb_wi.size; (try simp at hs_wi))
      | (go_at_call 47; (with_reducible refine ((c2 _ ?_).out).mono ?_); (focus ((exact HR.out.below hb_wi); done)); rintro e ws ⟨⟨qs, rfl⟩, hb_ws⟩; have hs_ws := hb_ws.size; (try simp at hs_ws))
      | (go_at_call 48; (with_reducible refine (sameR_nil _ _ _ _ _).mono ?_); rintro e wt ⟨rfl, hb_wt⟩; have hs_wt := hb_wt.size; (try simp at hs_wt)))
    exact bodyPost_ret (v := .bool true) (by simp [results, Try.results15, go_sem]) rfl ⟨rfl, (by repeat (first | assumption | exact Below.refl _ _ | (refine below_chain ?_ (by assumption) (by first | omega | (simp <;> omega) | simp)) | (refine Below.alloc ?_ (by first | omega | (simp <;> omega) | simp) _) | (apply below_drewN) | (apply below_drew) | (refine Below.setCell ?_ (by first | omega | (simp <;> omega) | simp) _)))⟩
  · obtain ⟨n, hNn⟩ : ∃ n, N = n + 1 := ⟨N - 1, by omega⟩
    have hn5 : n ≤ 5 := by omega
    have hn1 : 1 ≤ n := by omega
    obtain ⟨M, hM⟩ : ∃ M, mkL n (lap0 rs) = M := ⟨_, rfl⟩
    obtain ⟨D, hD⟩ : ∃ D, det n (lap0 rs) = D := ⟨_, rfl⟩
    have hsm := lap0_small n (fun r hr => ⟨(ok_runs hn r hr).1, (ok_runs hn r hr).2.1, (ok_runs hn r hr).2.2.1⟩) (nOk_true hn).2.2.1
    have hMl : M.length = n := by rw [← hM]; exact mkL_len
    have hMs : Sq n M := by rw [← hM]; exact mkL_sq
    have hMr : ∀ r ∈ M, r.length ≤ 1048576 := fun r hr => by rw [hMs.2 r hr]; omega
    have hMok : matOk M = true := by rw [← hM]; exact (mkL_ok hn1 hn5).2 hsm
    have hMt : mkL n (trn (ent M)) = M := by
      rw [← hM]
      exact mkL_congr (fun i j hi hj => by show ent (mkL n (lap0 rs)) j i = _; rw [ent_mkL hj hi]; exact lap0_sym rs j i)
    have hMD : det n (ent M) = D := by rw [← hM, det_mkL]; exact hD
    have c1 := fun w h => Lib.hid (iMatrix_yes N n (some ⟨B, 0, none⟩) c m rs w h hn HM.out hNn)
    have c2 := fun w h => Lib.hid (sMatrix_yes N n (some ⟨B, 0, none⟩) c m rs w h hn HM.out hNn)
    have c3 := fun c p w h => Lib.hid (iMatTurn_yes n c p M w h hMl hMok)
    have c4 := fun c p w h => Lib.hid (iMatDet_yes n c p M w h hMl hMok)
    have c5 := fun w h => Lib.hid (iTrees_yes N n (some ⟨B, 0, none⟩) c m rs w h hn HM.out hNn)
    rw [hM] at c1 c2
    rw [hMt] at c3
    rw [hMD] at c4
    rw [hD] at c5
    have HK := Lib.hid (And.intro hM (And.intro hn (And.intro hMl (And.intro hMr hNn))))
    have hn3 : n ≤ 1048576 := by omega
    have qN : IntKind.i64.wrap ((N : Int) - 1) = (n : Int) := by rw [IntKind.wrap_i64]; omega
    clear hM hn hMs hMr hMl hMok hMt hMD hsm hNn hD
    go_upto_region 8 with (first
      | (go_at_call 46; (with_reducible refine ((c1 _ ?_).out).mono ?_); (focus ((exact HR.out); done)); rintro e wi ⟨gi, ci, bi, rfl, oi, hb_wi⟩; have hs_wi := hb_wi.size; (try simp at hs_wi))
      | (go_at_call 47; (with_reducible refine ((c2 _ ?_).out).mono ?_); (focus ((exact HR.out.below hb_wi); done)); rintro e ws ⟨gs, cs, bs, rfl, os, hb_ws⟩; have hs_ws := hb_ws.size; (try simp at hs_ws))
      | (go_at_call 48; (with_reducible refine (sameR_at HK.out.2.2.1 _ _ _ _ _ ?_ ?_ hn3 HK.out.2.2.2.1).mono ?_); (focus ((exact oi.read.below hb_ws); done)); (focus ((exact os.read); done)); rintro e wt ⟨rfl, hb_wt⟩; have hs_wt := hb_wt.size; (try simp at hs_wt)))
    have OI := Lib.hid (oi.below (hb_ws.trans (hb_wt.mono hs_ws)))
    clear oi os
    go_wp2_with (first
      | (go_at_call 49; (with_reducible refine ((c3 _ _ _ ?_).out).mono ?_); (focus ((exact OI.out.read); done)); rintro e wx ⟨gx, cx, bx, rfl, ox, hb_wx⟩; have hs_wx := hb_wx.size; (try simp at hs_wx))
      | (go_at_call 50; (with_reducible refine ((c4 _ _ _ ?_).out).mono ?_); (focus ((exact OI.out.read.below hb_wx); done)); rintro e wy ⟨rfl, hb_wy⟩; have hs_wy := hb_wy.size; (try simp at hs_wy)))
    have OIy := Lib.hid (OI.out.below (hb_wx.trans (hb_wy.mono hs_wx)))
    have OXy := Lib.hid (ox.below hb_wy)
    have hBy : Below wd.heap.size wd wy := (by repeat (first | assumption | exact Below.refl _ _ | (refine below_chain ?_ (by assumption) (by first | omega | (simp <;> omega) | simp)) | (refine Below.alloc ?_ (by first | omega | (simp <;> omega) | simp) _) | (apply below_drewN) | (apply below_drew) | (refine Below.setCell ?_ (by first | omega | (simp <;> omega) | simp) _)))
    have hBw : Below w.heap.size w wy := (by repeat (first | assumption | exact Below.refl _ _ | (refine below_chain ?_ (by assumption) (by first | omega | (simp <;> omega) | simp)) | (refine Below.alloc ?_ (by first | omega | (simp <;> omega) | simp) _) | (apply below_drewN) | (apply below_drew) | (refine Below.setCell ?_ (by first | omega | (simp <;> omega) | simp) _)))
    have hsdy := hBy.size
    have hswy := hBw.size
    have HRy := Lib.hid (HR.out.below hBy)
    have HB := Lib.hid hBw
    clear ox OI HR hb_wd hb_wi hb_ws hb_wt hb_wx hb_wy hBy hBw c1 c2 c3 c4
    go_loopw [13] (fun i wr => ∃ x : Nat, x ≤ n ∧ i = .int .i64 x ∧ Below wy.heap.size wy wr) (fun i _ => n - (intOf i).toNat)
    case atStart => exact ⟨0, Nat.zero_le _, rfl, Below.refl _ _⟩
    case round =>
      rename World => wr
      obtain ⟨x, hx, rfl, hbr⟩ := hrel
      have hbs := hbr.size
      by_cases hlt : x < n
      · have hlt' : (x : Int) < (n : Int) := by omega
        have HBr := Lib.hid hbr
        clear hbr
        go_wp2_with fail
        go_loopw [14, 15] (fun s j wq => ∃ y : Nat, y ≤ n ∧ j = .int .i64 y ∧ s = .int .i64 (smn y (fun z => lap0 rs x z)) ∧ Below wr.heap.size wr wq) (fun _ j _ => n - (intOf j).toNat)
        case atStart => exact ⟨0, Nat.zero_le _, rfl, rfl, Below.refl _ _⟩
        case round =>
          rename World => wq
          obtain ⟨y, hy, rfl, rfl, hbq⟩ := hrel
          have hqs := hbq.size
          have hlow : ∀ j, -108 ≤ lap0 rs x j ∧ lap0 rs x j ≤ 108 := fun j => lap_low (fun r hr => ⟨(ok_runs HK.out.2.1 r hr).1, (ok_runs HK.out.2.1 r hr).2.1, (ok_runs HK.out.2.1 r hr).2.2.1⟩) (nOk_true HK.out.2.1).2.2.1 (x + 1) (j + 1)
          have hsl := sm_abs (n := y) (f := fun z => lap0 rs x z) (c := 108) (fun i _ => hlow i)
          by_cases hlt2 : y < n
          · have hlt3 : (y : Int) < (n : Int) := by omega
            have hOI := (OIy.out.below HBr.out).below hbq
            rw [← HK.out.1] at hOI
            obtain ⟨b, d, hb, eT, cT, fT, lT, nT, zT⟩ := hOI.rowC hlt
            have cTT := cT y hlt2
            have hyl := hlow y
            have hst : smn (y + 1) (fun z => lap0 rs x z) = smn y (fun z => lap0 rs x z) + lap0 rs x y := rfl
            obtain ⟨a, ha⟩ : ∃ a, lap0 rs x y = a := ⟨_, rfl⟩
            obtain ⟨S, hS⟩ : ∃ S, smn y (fun z => lap0 rs x z) = S := ⟨_, rfl⟩
            rw [ha] at cTT hyl hst
            rw [hS] at hsl hst ⊢
            obtain ⟨a1, a2⟩ := hyl
            obtain ⟨s1, s2⟩ := hsl
            have q1 : IntKind.i64.wrap (S + a) = S + a := by rw [IntKind.wrap_i64]; omega
            have HBq := Lib.hid hbq
            have HS := Lib.hid hst
            clear hOI hb cT fT nT lT hlow ha hS hst hbq
            go_wp2_with fail
            go_roundw
            case rel => exact ⟨y + 1, by omega, by go_num, by rw [HS.out], HBq.out⟩
            case measure => simp [intOf]; omega
          · have e : y = n := by omega
            subst e
            have hny : ¬ (y : Int) < (y : Int) := by omega
            have hrow := lap0_row (ok_InN HK.out.2.1 HK.out.2.2.2.2) (fun r hr => (ok_runs HK.out.2.1 r hr).1) x
            obtain ⟨S, hS⟩ : ∃ S, smn y (fun z => lap0 rs x z) = S := ⟨_, rfl⟩
            rw [hS] at hsl ⊢
            have hrow' : Hid (S = lsm rs (wt0 x)) := Lib.hid (by rw [← hS]; exact hrow)
            have HBq := Lib.hid (HBr.out.trans (hbq.mono hbs))
            have hqs2 : wy.heap.size ≤ wq.heap.size := by omega
            obtain ⟨s1, s2⟩ := hsl
            clear hbq hrow hS hlow HBr
            go_wp2_with fail
            go_loopw [14, 16] (fun s k wz => ∃ z : Nat, z ≤ m ∧ k = .int .i64 z ∧ s = .int .i64 (S - lsm (rs.take z) (wt0 x)) ∧ Below wq.heap.size wq wz) (fun _ k _ => m - (intOf k).toNat)
            case atStart => exact ⟨0, Nat.zero_le _, rfl, (congrArg (Value.int .i64) (show S = S - 0 by omega)), Below.refl _ _⟩
            case round =>
              rename World => wz
              obtain ⟨z, hz, rfl, rfl, hbz⟩ := hrel
              have hzs := hbz.size
              have hwl := wt0_low HK.out.2.1 x z
              by_cases hlt4 : z < m
              · have hlt5 : (z : Int) < (m : Int) := by omega
                obtain ⟨B', o, r, hBo, hr, hB, e1, e2, e3, e4⟩ := (HRy.out.below (HBq.out.trans (hbz.mono hqs2))).at (i := z) (by rw [HM.out]; exact hlt4)
                cases hBo
                have hro := rOk_true ((nOk_true HK.out.2.1).2.2.2 z r hr)
                have hst : lsm (rs.take (z + 1)) (wt0 x) = lsm (rs.take z) (wt0 x) + wt0 x r := lsm_take hr _
                obtain ⟨T, hT⟩ : ∃ T, lsm (rs.take z) (wt0 x) = T := ⟨_, rfl⟩
                rw [hT] at hwl hst ⊢
                obtain ⟨t1, t2⟩ := hwl
                have hG1 := hro.2.2.2.2.2.2.2.1
                have hG2 := hro.2.2.2.2.2.2.2.2
                have hft := hro.2.2.2.2.1
                have q1 : IntKind.i64.wrap (S - T - r.g) = S - T - r.g := by rw [IntKind.wrap_i64]; omega
                have q2 : IntKind.i64.wrap ((x : Int) + 1) = (x : Int) + 1 := by rw [IntKind.wrap_i64]; omega
                have HBz := Lib.hid (And.intro hbz hst)
                clear hbz hst hr hro hT
                simp only [Nat.zero_add] at e1 e2 e3 e4
                by_cases hF : r.f = 0
                · have hT0 : ¬ r.t = 0 := fun e => hft (by rw [hF, e])
                  rw [hF] at e1
                  by_cases hT : r.t = (x : Int) + 1
                  · have hu : wt0 x r = r.g := by unfold wt0; rw [if_pos (.inl ⟨hF, hT⟩)]
                    rw [hT] at e2
                    go_wp2_with fail
                    go_roundw
                    case rel => exact ⟨z + 1, by omega, by go_num, by rw [HBz.out.2, hu]; congr 1; omega, HBz.out.1.alloc hzs _⟩
                    case measure => simp [intOf]; omega
                  · have hu : wt0 x r = 0 := by unfold wt0; rw [if_neg (by omega)]
                    go_wp2_with fail
                    go_roundw
                    case rel => exact ⟨z + 1, by omega, by go_num, by rw [HBz.out.2, hu]; congr 1; omega, HBz.out.1.alloc hzs _⟩
                    case measure => simp [intOf]; omega
                · by_cases hT0 : r.t = 0
                  · rw [hT0] at e2
                    by_cases hFx : r.f = (x : Int) + 1
                    · have hu : wt0 x r = r.g := by unfold wt0; rw [if_pos (.inr ⟨hT0, hFx⟩)]
                      rw [hFx] at e1
                      have hxz : ¬ (x : Int) + 1 = 0 := by omega
                      go_wp2_with fail
                      go_roundw
                      case rel => exact ⟨z + 1, by omega, by go_num, by rw [HBz.out.2, hu]; congr 1; omega, HBz.out.1.alloc hzs _⟩
                      case measure => simp [intOf]; omega
                    · have hu : wt0 x r = 0 := by unfold wt0; rw [if_neg (by omega)]
                      go_wp2_with fail
                      go_roundw
                      case rel => exact ⟨z + 1, by omega, by go_num, by rw [HBz.out.2, hu]; congr 1; omega, HBz.out.1.alloc hzs _⟩
                      case measure => simp [intOf]; omega
                  · have hu : wt0 x r = 0 := by unfold wt0; rw [if_neg (by omega)]
                    go_wp2_with fail
                    go_roundw
                    case rel => exact ⟨z + 1, by omega, by go_num, by rw [HBz.out.2, hu]; congr 1; omega, HBz.out.1.alloc hzs _⟩
                    case measure => simp [intOf]; omega
              · have e : z = m := by omega
                subst e
                have hS0 : S - lsm (rs.take z) (wt0 x) = 0 := by rw [List.take_of_length_le (by rw [HM.out]; exact Nat.le_refl _), ← hrow'.out]; omega
                rw [hS0]
                have HBz := Lib.hid (HBq.out.trans (hbz.mono hqs2))
                clear hbz hwl hrow' HBq hS0
                go_wp2_with fail
                go_roundw
                case rel => exact ⟨x + 1, by omega, by go_num, HBz.out⟩
                case measure => simp [intOf]; omega
      · have e : x = n := by omega
        subst e
        have hBr := HB.out.trans (hbr.mono hswy)
        have hsr := hBr.size
        have OIr := Lib.hid (OIy.out.below hbr)
        have OXr := Lib.hid (OXy.out.below hbr)
        have HRr := Lib.hid (HRy.out.below hbr)
        have HBr := Lib.hid hBr
        clear hbr hBr OIy OXy HRy HB
        go_wp2_with (first
          | (go_at_call 48; (with_reducible refine (sameR_at HK.out.2.2.1 _ _ _ _ _ ?_ ?_ hn3 HK.out.2.2.2.1).mono ?_); (focus ((exact OXr.out.read); done)); (focus ((exact OIr.out.read); done)); rintro e wt ⟨rfl, hb_wt⟩; have hs_wt := hb_wt.size; (try simp at hs_wt))
          | (go_at_call 36; (with_reducible refine ((c5 _ ?_).out).mono ?_); (focus ((exact HRr.out.below hb_wt); done)); rintro e wu ⟨rfl, hb_wu⟩; have hs_wu := hb_wu.size; (try simp at hs_wu)))
        exact bodyPost_ret (v := .bool true) (by simp [results, Try.results15, go_sem]) rfl ⟨rfl, HBr.out.trans ((hb_wt.trans (hb_wu.mono hs_wt)).mono hsr)⟩

set_option maxRecDepth 100000 in
theorem walk_long (len cap : Nat) (p : Option Addr) (w : World) (hl : 1048576 < len) :
    Calls Try.prog 15 #[.slice p len cap] w fun e w' => e = .returned (.bool true) ∧ Below w.heap.size w w' := by
  have hl' : (1048576 : Int) < (len : Int) := by omega
  go_enter Try.func15, Try.ntmps15
  go_wp2
  go_ret
  exact ⟨rfl, Below.refl _ _⟩

set_option maxRecDepth 100000 in
theorem lifted (os : Os) (started : os.Started) (H : Type) (enc : TypeId × Value → H) :
    ReturnsInHanded {} Try.checked os 15 .any (Rows.fnMatrixSpec.pre6 enc Try.prog Try.f15 Rows.fnMatrixRow.domain false) (Rows.fnMatrixSpec.post enc Try.prog Try.f15 false true false false) := by
  refine returnsInHanded_of_change (C := Try.checked) own started (by kernel_rfl) Try.func15
    (ChangeSpec.witness6 (enc := enc) (C := Try.checked) false ⟨#[], #[.slice none 0 0], []⟩ 8 (by kernel_rfl) (by kernel_rfl) (by kernel_rfl) (by kernel_rfl)) ?_
  intro W base args ds gs before hval0 hW hcnd _
  have hval : ∀ (j : Nat) t v, Try.f15.params[j]? = some t → args[j]? = some v → Value.okWide Try.prog W .any base t v := hval0
  have hW' := hW
  obtain ⟨p, q, hA0, hV, rfl, hfz, hnd⟩ := hW
  have hA : DataW.TrodAll enc Try.prog W 0 (fun _ => true) true Try.f15.params.toList args.toList ds p := hA0
  rw [Try.params15] at hA hval
  obtain ⟨v0, vs0, d0, ds0, p0, q0, hargs, rfl, rfl, h0, r0⟩ := trodAll_cons hA
  obtain ⟨rfl, rfl, rfl⟩ := trodAll_nil r0
  obtain rfl : args = #[v0] := by cases args; simp_all
  obtain ⟨rfl, rfl⟩ := trodVars_none hV
  obtain ⟨a0, len0, cap0, rfl⟩ := okWide_slice Try.underlying22 (hval 0 22 v0 rfl rfl)
  have k0 := h0
  have lt0 : ∀ x ∈ p0, x.block < W.heap.size := by obtain ⟨m, hm⟩ := k0; exact DataW.trod_lt m _ _ _ hm
  obtain ⟨z0, w0⟩ : ∃ zs, IsRow .u8 W a0 len0 cap0 zs := by
    obtain ⟨fuel, hf⟩ := h0
    rcases open_ints Try.underlying22 Try.underlying5 (by kernel_rfl) hf with ⟨hcs, _⟩ | ⟨x, l, c, zs, hcs, _, hl, hm, hz, _, hcell, hwz⟩
    · simp [Value.cells] at hcs
      obtain ⟨rfl, rfl, rfl⟩ := hcs
      exact ⟨[], .inl ⟨rfl, rfl, rfl, rfl⟩⟩
    · simp [Value.cells] at hcs
      obtain ⟨rfl, rfl, rfl⟩ := hcs
      exact ⟨zs, .inr ⟨_, rfl, hl, hm, by simpa using hz, hcell, hwz⟩⟩
  clear hA0 hval0
  have hw : Calls Try.prog 15 #[.slice a0 len0 cap0] W fun e w' => e = .returned (.bool true) ∧ Below W.heap.size W w' := by
    by_cases hl : len0 ≤ 1048576
    · exact walk len0 cap0 a0 W hl (Lib.hid (code_of_row w0 hl))
    · exact walk_long len0 cap0 a0 W (by omega)
  refine hw.mono fun e W' ⟨he, bel⟩ => ?_
  subst he
  exact ⟨_, rfl, _, _, _, [], _, [], hW', trodAll_mk1 (shut_bool Try.underlying4 _), (trodAll_cons_mk (Below.trod laidOut (by kernel_rfl) (of_decide_eq_true (by kernel_rfl)) k0 bel lt0) trodAll_mk0), rfl, bel.frame _, fun h => by cases h⟩

theorem over : Rows.fnMatrixRow.holds Try.pinned (OpenSpec.ofChange Rows.fnMatrixSpec) :=
  OpenClaim.holds_of_wide 15 Try.f15 rfl rfl rfl rfl rfl rfl rfl ⟨rfl, rfl, rfl, rfl, rfl⟩ rfl rfl rfl rfl rfl (by kernel_rfl) Try.func15 (by unfold joinedFacts; rw [seat_enter, seat_lift, seat_make]; kernel_rfl)
    (of_decide_eq_true (by kernel_rfl)) (by unfold Func.isWrapper; first | (rw [if_pos (by decide +kernel)]; kernel_rfl) | (rw [if_neg (by decide +kernel)]; exact ⟨rfl, rfl⟩))
    (fun os started H enc _ => lifted os started H enc)

theorem proved : Rows.FnMatrixSaid := over
end Go.Proofs.Ytenllemaccacgaa.fnMatrix

