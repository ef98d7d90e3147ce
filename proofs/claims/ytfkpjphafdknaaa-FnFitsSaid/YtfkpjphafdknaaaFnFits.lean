/-
  For every two codes the law FnFits returns true: impl.NetFits answers as the reference model does; heights that fit a net fit it 7 higher, if none is too high, and its first half, and do not with one of them 1 higher that a run touches. No condition: every two lists of bytes are taken.
-/
import Derived.Test.YtfkpjphafdknaaaDNe
import Derived.Test.YtfkpjphafdknaaaCode
namespace Go.Proofs.Ytfkpjphafdknaaa.fnFits
open Go.ChangeShapes Go.WideShapes Go.ChangeAt Go.RowKit
set_option linter.unusedVariables false

theorem htAt_set {hs : List Int} {k : Nat} {z x : Int} (h0 : 0 ≤ x) (hk : k < hs.length) : htAt (hs.set k z) x = if x = (k : Int) then z else htAt hs x := by
  unfold htAt
  rw [List.getElem?_set]
  by_cases e : k = x.toNat
  · have : x = (k : Int) := by omega
    subst this; simp [hk]
  · have : ¬ x = (k : Int) := by omega
    simp [e, this]
theorem fits_up {N : Nat} {rs : List Rn} {hs : List Int} (h : nFits N rs hs = true) (hh : ∀ (i : Nat) (z : Int), (hs.map (· + 7))[i]? = some z → z ≤ 1000000) : nFits N rs (hs.map (· + 7)) = true := by
  obtain ⟨h1, h2, h3⟩ := nFits_true h
  obtain ⟨l, b⟩ := htOk_true h2
  refine nFits_of h1 (htOk_of (by simpa using l) (fun i z hi hz => ?_)) (fun i r hi hr => ?_)
  · have := hh i z hz
    rw [List.getElem?_map] at hz
    obtain ⟨y, hy, rfl⟩ := Option.map_eq_some_iff.1 hz
    have := b i y hy
    unfold hOk; simp; omega
  · obtain ⟨a1, a2, a3, a4, -⟩ := rOk_true ((nOk_true h1).2.2.2 i r hr)
    unfold fitR
    rw [htAt_map hs _ a1 (by omega), htAt_map hs _ a3 (by omega)]
    have := h3 i r hr
    simp; omega
theorem fits_half {N : Nat} {rs : List Rn} {hs : List Int} (h : nFits N rs hs = true) (j : Nat) : nFits N (rs.take j) hs = true := by
  obtain ⟨h1, h2, h3⟩ := nFits_true h
  obtain ⟨n1, n2, n3, n4⟩ := nOk_true h1
  have get : ∀ i r, (rs.take j)[i]? = some r → rs[i]? = some r := fun i r hi => by
    rw [List.getElem?_take] at hi
    split at hi
    · exact hi
    · cases hi
  refine nFits_of (nOk_of n1 n2 (by simp; omega) (fun i r hi => n4 i r (get i r hi))) h2 (fun i r hi hr => ?_)
  have := h3 i r (get i r hr)
  unfold fitR; simpa using this
theorem fits_one {N k : Nat} {rs : List Rn} {hs : List Int} {z : Int} (h : nFits N rs hs = true) (hk : k < hs.length) (hz : hs[k]? = some z) {i : Nat} {r : Rn} (hr : rs[i]? = some r) (ht : r.f = (k : Int) ∨ r.t = (k : Int)) : nFits N rs (hs.set k (z + 1)) = false := by
  obtain ⟨h1, h2, h3⟩ := nFits_true h
  obtain ⟨a1, a2, a3, a4, a5, -⟩ := rOk_true ((nOk_true h1).2.2.2 i r hr)
  have := h3 i r hr
  have hz' := htAt_nat hz
  refine nFits_no hr ?_
  unfold fitR
  rw [htAt_set a1 hk, htAt_set a3 hk]
  rcases ht with e | e
  · have e2 : ¬ r.t = (k : Int) := by omega
    rw [if_pos e, if_neg e2]; rw [e] at this; simp; omega
  · have e2 : ¬ r.f = (k : Int) := by omega
    rw [if_pos e, if_neg e2]; rw [e] at this; simp; omega
section
variable {N m : Nat} {q p : Option Addr} {c d : Nat} {rs : List Rn} {hs : List Int} {b : Bool}
theorem iFits_at (w : World) (hm : rs.length = m) (hN : hs.length = N) (h : Runs w q rs) (hh : Ints w p hs) (hl : m ≤ 12) (hl2 : N ≤ 6) (hb : nFits N rs hs = b) :
    Calls Try.prog 28 #[.int .i64 N, .slice q m c, .slice p N d] w fun e w' => e = .returned (.bool b) ∧ Below w.heap.size w w' := by
  subst hm; subst hN; exact iFits _ q p c d rs hs b w h hh (by omega) (by omega) hb
theorem sFits_at (w : World) (hm : rs.length = m) (hN : hs.length = N) (h : Runs w q rs) (hh : Ints w p hs) (hl : m ≤ 12) (hl2 : N ≤ 6) (hb : nFits N rs hs = b) :
    Calls Try.prog 30 #[.int .i64 N, .slice q m c, .slice p N d] w fun e w' => e = .returned (.bool b) ∧ Below w.heap.size w w' := by
  subst hm; subst hN; exact sFits _ q p c d rs hs b w h hh (by omega) (by omega) hb
end
theorem runs_take {w : World} {p : Option Addr} {rs : List Rn} (h : Runs w p rs) (j : Nat) : Runs w p (rs.take j) := by
  rcases h with rfl | ⟨B, o, e, hB, hc⟩
  · exact .inl (by simp)
  · refine .inr ⟨B, o, e, hB, fun i r hi => hc i r ?_⟩
    rw [List.getElem?_take] at hi
    split at hi
    · exact hi
    · cases hi
theorem ints_cells {w : World} {a : Addr} {zs : List Int} (h : Ints w (some a) zs) : ∀ (j : Nat) (z : Int), zs[j]? = some z → w.cell? (a.add j) = some (.int .i64 z) := by
  intro j z hz
  rcases h with rfl | ⟨B, o, e, hB, hc⟩
  · simp at hz
  · cases e; rw [Go.WideShapes.add_plain]; exact hc j z hz

set_option maxHeartbeats 4000000 in
set_option maxRecDepth 100000 in
theorem walk (len cap : Nat) (p : Option Addr) (len2 cap2 : Nat) (p2 : Option Addr) (w : World) (hl : len ≤ 1048576) (hl2 : len2 ≤ 1048576) (h : Hid (Code' w (.slice p len cap))) (h2 : Hid (Code' w (.slice p2 len2 cap2))) :
    Calls Try.prog 6 #[.slice p len cap, .slice p2 len2 cap2] w fun e w' => e = .returned (.bool true) ∧ Below w.heap.size w w' := by
  have hl' : ¬ (1048576 : Int) < (len : Int) := by omega
  have hl2' : ¬ (1048576 : Int) < (len2 : Int) := by omega
  clear h2
  go_enter Try.func6, Try.ntmps6
  go_wp2_with (go_at_call 29; (with_reducible refine (drawFits_is _ _ h).mono ?_); rintro e wd ⟨N, m, rs, hs, P, Q, ⟨c, d, hmc, rfl⟩, ⟨hmm, hhN, ⟨hN2, hN6⟩, hm8⟩, hR, hI, hb_wd⟩; have hs_wd := hb_wd.size; have HR := Lib.hid hR; have HI := Lib.hid hI; have HM := Lib.hid (And.intro hmm hhN); clear hR hI hmm hhN)
  clear h
  obtain ⟨b, hb⟩ : ∃ b, nFits N rs hs = b := ⟨_, rfl⟩
  have c1 := fun w h hh => Lib.hid (iFits_at (q := some ⟨P, 0, none⟩) (c := c) (p := some ⟨Q, 0, none⟩) (d := d) w HM.out.1 HM.out.2 h hh (by omega) hN6 hb)
  have c2 := fun w h hh => Lib.hid (sFits_at (q := some ⟨P, 0, none⟩) (c := c) (p := some ⟨Q, 0, none⟩) (d := d) w HM.out.1 HM.out.2 h hh (by omega) hN6 hb)
  have HB := Lib.hid hb
  clear hb
  cases b
  · go_wp2_with (first | (go_at_call 28; (with_reducible refine ((c1 _ ?_ ?_).out).mono ?_); (focus ((exact HR.out); done)); (focus ((exact HI.out); done)); rintro e wi ⟨rfl, hb_wi⟩; have hs_wi := hb_wi.size; (try simp at hs_wi)) | (go_at_call 30; (with_reducible refine ((c2 _ ?_ ?_).out).mono ?_); (focus ((exact HR.out.below (by repeat (first | assumption | exact Below.refl _ _ | (refine below_chain ?_ (by assumption) (by first | omega | (simp <;> omega) | simp)) | (refine Below.alloc ?_ (by first | omega | (simp <;> omega) | simp) _) | (apply below_drewN) | (apply below_drew) | (refine Below.setCell ?_ (by first | omega | (simp <;> omega) | simp) _)))); done)); (focus ((exact HI.out.below (by repeat (first | assumption | exact Below.refl _ _ | (refine below_chain ?_ (by assumption) (by first | omega | (simp <;> omega) | simp)) | (refine Below.alloc ?_ (by first | omega | (simp <;> omega) | simp) _) | (apply below_drewN) | (apply below_drew) | (refine Below.setCell ?_ (by first | omega | (simp <;> omega) | simp) _)))); done)); rintro e ws ⟨rfl, hb_ws⟩; have hs_ws := hb_ws.size; (try simp at hs_ws)))
    go_ret
    exact ⟨rfl, (by repeat (first | assumption | exact Below.refl _ _ | (refine below_chain ?_ (by assumption) (by first | omega | (simp <;> omega) | simp)) | (refine Below.alloc ?_ (by first | omega | (simp <;> omega) | simp) _) | (apply below_drewN) | (apply below_drew) | (refine Below.setCell ?_ (by first | omega | (simp <;> omega) | simp) _)))⟩
  · go_wp2_with (first | (go_at_call 28; (with_reducible refine ((c1 _ ?_ ?_).out).mono ?_); (focus ((exact HR.out); done)); (focus ((exact HI.out); done)); rintro e wi ⟨rfl, hb_wi⟩; have hs_wi := hb_wi.size; (try simp at hs_wi)) | (go_at_call 30; (with_reducible refine ((c2 _ ?_ ?_).out).mono ?_); (focus ((exact HR.out.below (by repeat (first | assumption | exact Below.refl _ _ | (refine below_chain ?_ (by assumption) (by first | omega | (simp <;> omega) | simp)) | (refine Below.alloc ?_ (by first | omega | (simp <;> omega) | simp) _) | (apply below_drewN) | (apply below_drew) | (refine Below.setCell ?_ (by first | omega | (simp <;> omega) | simp) _)))); done)); (focus ((exact HI.out.below (by repeat (first | assumption | exact Below.refl _ _ | (refine below_chain ?_ (by assumption) (by first | omega | (simp <;> omega) | simp)) | (refine Below.alloc ?_ (by first | omega | (simp <;> omega) | simp) _) | (apply below_drewN) | (apply below_drew) | (refine Below.setCell ?_ (by first | omega | (simp <;> omega) | simp) _)))); done)); rintro e ws ⟨rfl, hb_ws⟩; have hs_ws := hb_ws.size; (try simp at hs_ws)))
    have HB1 : Hid (Below w.heap.size w ws) := Lib.hid (by repeat (first | assumption | exact Below.refl _ _ | (refine below_chain ?_ (by assumption) (by first | omega | (simp <;> omega) | simp)) | (refine Below.alloc ?_ (by first | omega | (simp <;> omega) | simp) _) | (apply below_drewN) | (apply below_drew) | (refine Below.setCell ?_ (by first | omega | (simp <;> omega) | simp) _)))
    have HR1 := Lib.hid (HR.out.below (w' := ws) (hb_wi.trans (hb_ws.mono hs_wi)))
    have HI1 := Lib.hid (HI.out.below (w' := ws) (hb_wi.trans (hb_ws.mono hs_wi)))
    have HE := Lib.hid (Own.empty ws 3 1)
    clear c1 c2 HR HI hb_wd hb_wi hb_ws hs_wi
    have hbs1 := HB1.out.size
    go_loopw [10, 11] (fun v i wr => ∃ (j g cap : Nat), j ≤ N ∧ i = .int .i64 j ∧ v = .slice (some ⟨g, 0, none⟩) j cap ∧ ws.heap.size ≤ g ∧ Own wr g 3 1 j cap ((hs.take j).map (· + 7)) ∧ Below ws.heap.size ws wr) (fun _ i _ => N - (intOf i).toNat)
    case atStart => exact ⟨0, _, _, Nat.zero_le _, rfl, rfl, Nat.le_refl _, HE.out, (by repeat (first | assumption | exact Below.refl _ _ | (refine below_chain ?_ (by assumption) (by first | omega | (simp <;> omega) | simp)) | (refine Below.alloc ?_ (by first | omega | (simp <;> omega) | simp) _) | (apply below_drewN) | (apply below_drew) | (refine Below.setCell ?_ (by first | omega | (simp <;> omega) | simp) _)))⟩
    case round =>
      clear HE
      obtain ⟨j, g, cap, hj, rfl, rfl, hg, how, hbr⟩ := hrel
      have hbs := hbr.size
      have hlo := how.lt
      have HO := Lib.hid how
      clear how
      by_cases hlt : j < N
      · obtain ⟨B, o, z, eq, hz, hB, e0⟩ := (HI1.out.below hbr).at (i := j) (by have := HM.out.2; omega)
        simp at eq
        obtain ⟨rfl, rfl⟩ := eq
        rw [Nat.zero_add] at e0
        obtain ⟨z0, z1⟩ := (htOk_true (nFits_true HB.out).2.1).2 j z hz
        have HZ := Lib.hid hz
        clear hz
        go_wp2_with (at_builtin; refine wp_append _ rfl _ _ 26 rfl 3 _ 1 8 Try.underlying26 info_int rfl (by decide) (by decide) _ j cap _ rfl (HO.out.alloc _) _ _ _ [z + 7] rfl rfl (one_cell _ _ _) (by omega) ?_; intro g' cap' w' hown hgr hloc hsz; have HN := Lib.hid (And.intro hown (And.intro hgr hloc)); clear hown hgr hloc)
        go_roundw
        case rel =>
          obtain ⟨hown, hgr, hloc⟩ := HN.out
          have hg' : ws.heap.size ≤ g' := by
            rcases hloc with rfl | rfl
            · exact hg
            · simp; omega
          have e : (hs.take (j + 1)).map (· + 7) = (hs.take j).map (· + 7) ++ [z + 7] := by
            rw [List.take_add_one, HZ.out]; simp
          exact ⟨j + 1, g', cap', by omega, by go_num, rfl, hg', by rw [e]; exact hown, below_gr (hbr.alloc hbs _) hgr hg (by simp; omega)⟩
        case measure => simp [intOf]; omega
      · have e : j = N := by omega
        subst e
        have HIr := Lib.hid ((HI1.out.below hbr).alloc (.cells #[] 3))
        go_upto_region 14 with (at_builtin; refine wp_append _ rfl _ _ 26 rfl 3 _ 1 8 Try.underlying26 info_int rfl (by decide) (by decide) _ 0 0 [] rfl (Own.empty _ _ _) _ _ _ hs rfl (by have := HM.out.2; omega) (ints_cells HIr.out) (by omega) ?_; intro go co wo hown hgr hloc hsz; have HN := Lib.hid (And.intro hown (And.intro hgr hloc)); clear hown hgr hloc; simp only [Nat.zero_add])
        obtain ⟨hwo, hgr, hlc⟩ := HN.out
        rw [Nat.zero_add, List.nil_append] at hwo
        have hgo : ws.heap.size ≤ go ∧ go ≠ g := by
          rcases hlc with e | e
          · omega
          · simp at e; omega
        have HU := Lib.hid ((HO.out.alloc (.cells #[] 3)).grown hgr (by omega))
        have HBo := Lib.hid (below_gr (hbr.alloc hbs (.cells #[] 3)) hgr hbs (by simp; omega))
        obtain ⟨k, hkd⟩ : ∃ k : Nat, k = len2 % j := ⟨_, rfl⟩
        have hkj : k < j := by rw [hkd]; exact Nat.mod_lt _ (by omega)
        have hkj' : (k : Int) < (j : Int) := by omega
        have hke : (len2 : Int) % (j : Int) = (k : Int) := by rw [hkd]; rfl
        obtain ⟨z, hz⟩ : ∃ z, hs[k]? = some z := ⟨_, List.getElem?_eq_getElem (by have := HM.out.2; omega)⟩
        obtain ⟨z0, z1⟩ := (htOk_true (nFits_true HB.out).2.1).2 k z hz
        have e0 := hwo.cells hz
        have f0 := hwo.frozen k
        have hlo2 := hwo.lt
        have HW := Lib.hid (And.intro hwo hz)
        clear HN HO HIr hbr hwo hgr hlc hkd hz hlo hj hlt
        go_upto_region 15 with fail
        rw [hke]
        go_upto_region 16 with fail
        have HW2 := Lib.hid (HW.out.1.set k (z + 1) (by have := HM.out.2; omega))
        have HU2 := Lib.hid (HU.out.setOther (a := ⟨go, k, none⟩) (by simpa using hgo.2.symm) (.int .i64 (z + 1)))
        have HB2 := Lib.hid (HBo.out.setCell (p := ⟨go, k, none⟩) hgo.1 (.int .i64 (z + 1)))
        have HR2 := Lib.hid (HR1.out.below HB2.out)
        have HZ := Lib.hid HW.out.2
        generalize (World.setCell _ _ _ : World) = w2 at HW2 HU2 HB2 HR2 ⊢
        clear HU HBo HW e0 f0 hlo2
        go_wp2_with fail
        clear hke hgo hsz
        go_loopw [14, 15] (fun v i wr => ∃ (i' : Nat) (b : Bool), i' ≤ m ∧ i = .int .i64 i' ∧ v = .bool b ∧ (b = true → ∃ r ∈ rs, r.f = (k : Int) ∨ r.t = (k : Int)) ∧ w2 = wr) (fun _ i _ => m - (intOf i).toNat)
        case atStart => exact ⟨0, false, Nat.zero_le _, rfl, rfl, fun h => by simp at h, rfl⟩
        case round =>
          obtain ⟨i, b, hi, rfl, rfl, hb, rfl⟩ := hrel
          by_cases hlt : i < m
          · obtain ⟨B, o, r, eq, hr, hB, x0, x1, x2, x3⟩ := HR2.out.at (i := i) (by have := HM.out.1; omega)
            simp at eq
            obtain ⟨rfl, rfl⟩ := eq
            rw [Nat.zero_add] at x0 x1 x2 x3
            have HX := Lib.hid (And.intro hb hr)
            clear hb hr x2 x3
            cases b
            · by_cases e1 : r.f = (k : Int)
              · rw [e1] at x0
                go_wp2_with fail
                go_roundw
                case rel => exact ⟨i + 1, true, by omega, by go_num, rfl, fun _ => ⟨r, List.mem_of_getElem? HX.out.2, .inl e1⟩, by first | trivial | rfl⟩
                case measure => simp [intOf]; omega
              · have e1' : (r.f == (k : Int)) = false := by simpa using e1
                by_cases e2 : r.t = (k : Int)
                · rw [e2] at x1
                  go_wp2_with fail
                  go_roundw
                  case rel => exact ⟨i + 1, true, by omega, by go_num, rfl, fun _ => ⟨r, List.mem_of_getElem? HX.out.2, .inr e2⟩, by first | trivial | rfl⟩
                  case measure => simp [intOf]; omega
                · have e2' : (r.t == (k : Int)) = false := by simpa using e2
                  go_wp2_with fail
                  go_roundw
                  case rel => exact ⟨i + 1, false, by omega, by go_num, by simp, fun h => by simp at h, by first | trivial | rfl⟩
                  case measure => simp [intOf]; omega
            · go_wp2_with fail
              go_roundw
              case rel => exact ⟨i + 1, true, by omega, by go_num, rfl, HX.out.1, by first | trivial | rfl⟩
              case measure => simp [intOf]; omega
          · have e : i = m := by omega
            subst e
            have HH := Lib.hid hb
            clear hb hlt hi
            go_wp2_with fail
            go_loopw [16, 17] (fun v q wr => ∃ (i' : Nat) (b' : Bool), i' ≤ j ∧ q = .int .i64 i' ∧ v = .bool b' ∧ (b' = false → ∀ (x : Nat) (y : Int), x < i' → (hs.map (· + 7))[x]? = some y → y ≤ 1000000) ∧ w2 = wr) (fun _ q _ => j - (intOf q).toNat)
            case atStart => exact ⟨0, false, Nat.zero_le _, rfl, rfl, fun _ x y h => by omega, rfl⟩
            case round =>
              obtain ⟨l, b', hl, rfl, rfl, hb', rfl⟩ := hrel
              by_cases hlt : l < j
              · obtain ⟨y, hy⟩ : ∃ y, (hs.map (· + 7))[l]? = some y := ⟨_, List.getElem?_eq_getElem (by simp; have := HM.out.2; omega)⟩
                have e0 := HU2.out.cells (i := l) (z := y) (by rw [List.take_of_length_le (by have := HM.out.2; omega)]; exact hy)
                have HX := Lib.hid (And.intro hb' hy)
                clear hb' hy
                cases b'
                · by_cases e1 : (1000000 : Int) < y
                  · go_wp2_with fail
                    go_roundw
                    case rel => exact ⟨l + 1, true, by omega, by go_num, by simp, fun h => by simp at h, by first | trivial | rfl⟩
                    case measure => simp [intOf]; omega
                  · go_wp2_with fail
                    go_roundw
                    case rel => exact ⟨l + 1, false, by omega, by go_num, by first | (simp; done) | (simp; omega), fun _ x y' hx hy' => (by
                      by_cases ex : x = l
                      · subst ex; rw [HX.out.2] at hy'; cases hy'; omega
                      · exact HX.out.1 rfl x y' (by omega) hy'), by first | trivial | rfl⟩
                    case measure => simp [intOf]; omega
                · go_wp2_with fail
                  go_roundw
                  case rel => exact ⟨l + 1, true, by omega, by go_num, rfl, fun h => by simp at h, by first | trivial | rfl⟩
                  case measure => simp [intOf]; omega
              · have e : l = j := by omega
                subst e
                have hup : b' = false → nFits l rs (hs.map (· + 7)) = true := fun e => fits_up HB.out (fun x y hy => hb' e x y (by have := (List.getElem?_eq_some_iff.1 hy).1; simp at this; have := HM.out.2; omega) hy)
                have hone : b = true → nFits l rs (hs.set k (z + 1)) = false := fun e => by
                  obtain ⟨r, hr, ht⟩ := HH.out e
                  obtain ⟨x, hx⟩ := List.getElem?_of_mem hr
                  exact fits_one HB.out (by have := HM.out.2; omega) HZ.out hx ht
                have hhalf := fits_half HB.out (i / 2)
                have hml : (rs.take (i / 2)).length = i / 2 := by simp; have := HM.out.1; omega
                have hi2 : i / 2 ≤ c := by omega
                have HT := Lib.hid (runs_take HR2.out (i / 2))
                have HU3 : Hid (Ints w2 (some ⟨g, 0, none⟩) (hs.map (· + 7))) := Lib.hid (by have := HU2.out; rw [List.take_of_length_le (by have := HM.out.2; omega)] at this; exact this.ints)
                have HW3 : Hid (Ints w2 (some ⟨go, 0, none⟩) (hs.set k (z + 1))) := Lib.hid HW2.out.ints
                have HI3 := Lib.hid (HI1.out.below HB2.out)
                clear hb' hlt hl
                have c3 := fun w q c p d h hh => Lib.hid (iFits_at (q := q) (c := c) (p := p) (d := d) w hml HM.out.2 h hh (by omega) hN6 hhalf)
                have HX := Lib.hid (And.intro hup hone)
                have hlh : ∀ x : Int, (hs.set k x).length = l := fun x => by simpa using HM.out.2
                have hlu : (hs.map (· + 7)).length = l := by simpa using HM.out.2
                clear hup hone
                have hB3 : Below w.heap.size w w2 := HB1.out.trans (HB2.out.mono hbs1)
                cases b
                · cases b'
                  · have c4 := fun w q c p d h hh => Lib.hid (iFits_at (q := q) (c := c) (p := p) (d := d) w HM.out.1 hlu h hh (by omega) hN6 (HX.out.1 rfl))
                    go_wp2_with (first | (go_at_call 28; (with_reducible refine ((c4 _ _ _ _ _ ?_ ?_).out).mono ?_); (focus ((exact HR2.out); done)); (focus ((exact HU3.out); done)); rintro e wx ⟨rfl, hb_wx⟩; have hs_wx := hb_wx.size; (try simp at hs_wx)) | (go_at_call 28; (with_reducible refine ((c3 _ _ _ _ _ ?_ ?_).out).mono ?_); (focus ((exact HT.out.below hb_wx); done)); (focus ((exact HI3.out.below hb_wx); done)); rintro e wy ⟨rfl, hb_wy⟩; have hs_wy := hb_wy.size; (try simp at hs_wy)))
                    go_ret
                    exact ⟨rfl, (hB3.trans (hb_wx.mono (by have := hB3.size; omega))).trans (hb_wy.mono (by have := hB3.size; omega))⟩
                  · go_wp2_with ((go_at_call 28; (with_reducible refine ((c3 _ _ _ _ _ ?_ ?_).out).mono ?_); (focus ((exact HT.out); done)); (focus ((exact HI3.out); done)); rintro e wy ⟨rfl, hb_wy⟩; have hs_wy := hb_wy.size; (try simp at hs_wy)))
                    go_ret
                    exact ⟨rfl, hB3.trans (hb_wy.mono (by have := hB3.size; omega))⟩
                · have c5 := fun w q c p d h hh => Lib.hid (iFits_at (q := q) (c := c) (p := p) (d := d) w HM.out.1 (hlh _) h hh (by omega) hN6 (HX.out.2 rfl))
                  cases b'
                  · have c4 := fun w q c p d h hh => Lib.hid (iFits_at (q := q) (c := c) (p := p) (d := d) w HM.out.1 hlu h hh (by omega) hN6 (HX.out.1 rfl))
                    go_wp2_with (first | (go_at_call 28; (with_reducible refine ((c4 _ _ _ _ _ ?_ ?_).out).mono ?_); (focus ((exact HR2.out); done)); (focus ((exact HU3.out); done)); rintro e wx ⟨rfl, hb_wx⟩; have hs_wx := hb_wx.size; (try simp at hs_wx)) | (go_at_call 28; (with_reducible refine ((c3 _ _ _ _ _ ?_ ?_).out).mono ?_); (focus ((exact HT.out.below hb_wx); done)); (focus ((exact HI3.out.below hb_wx); done)); rintro e wy ⟨rfl, hb_wy⟩; have hs_wy := hb_wy.size; (try simp at hs_wy)) | (go_at_call 28; (with_reducible refine ((c5 _ _ _ _ _ ?_ ?_).out).mono ?_); (focus ((exact (HR2.out.below hb_wx).below hb_wy); done)); (focus ((exact (HW3.out.below hb_wx).below hb_wy); done)); rintro e wz ⟨rfl, hb_wz⟩; have hs_wz := hb_wz.size; (try simp at hs_wz)))
                    go_ret
                    exact ⟨rfl, ((hB3.trans (hb_wx.mono (by have := hB3.size; omega))).trans (hb_wy.mono (by have := hB3.size; omega))).trans (hb_wz.mono (by have := hB3.size; omega))⟩
                  · go_wp2_with (first | (go_at_call 28; (with_reducible refine ((c3 _ _ _ _ _ ?_ ?_).out).mono ?_); (focus ((exact HT.out); done)); (focus ((exact HI3.out); done)); rintro e wy ⟨rfl, hb_wy⟩; have hs_wy := hb_wy.size; (try simp at hs_wy)) | (go_at_call 28; (with_reducible refine ((c5 _ _ _ _ _ ?_ ?_).out).mono ?_); (focus ((exact HR2.out.below hb_wy); done)); (focus ((exact HW3.out.below hb_wy); done)); rintro e wz ⟨rfl, hb_wz⟩; have hs_wz := hb_wz.size; (try simp at hs_wz)))
                    go_ret
                    exact ⟨rfl, (hB3.trans (hb_wy.mono (by have := hB3.size; omega))).trans (hb_wz.mono (by have := hB3.size; omega))⟩

theorem walk_long (len cap : Nat) (p : Option Addr) (len1 cap1 : Nat) (p1 : Option Addr) (w : World) (hl : 1048576 < len ∨ 1048576 < len1) :
    Calls Try.prog 6 #[.slice p len cap, .slice p1 len1 cap1] w fun e w' => e = .returned (.bool true) ∧ Below w.heap.size w w' := by
  by_cases h0 : (1048576 : Int) < (len : Int)
  · go_enter Try.func6, Try.ntmps6
    go_wp2
    go_ret
    exact ⟨rfl, Below.refl _ _⟩
  · have hl' : (1048576 : Int) < (len1 : Int) := by omega
    clear hl
    go_enter Try.func6, Try.ntmps6
    go_wp2
    go_ret
    exact ⟨rfl, Below.refl _ _⟩

set_option maxRecDepth 100000 in
theorem lifted (os : Os) (started : os.Started) (H : Type) (enc : TypeId × Value → H) :
    ReturnsInHanded {} Try.checked os 6 .any (Rows.fnFitsSpec.pre6 enc Try.prog Try.f6 Rows.fnFitsRow.domain false) (Rows.fnFitsSpec.post enc Try.prog Try.f6 false true false false) := by
  refine returnsInHanded_of_change (C := Try.checked) own started (by kernel_rfl) Try.func6
    (ChangeSpec.witness6 (enc := enc) (C := Try.checked) false ⟨#[], #[.slice none 0 0, .slice none 0 0], []⟩ 8 (by kernel_rfl) (by kernel_rfl) (by kernel_rfl) (by kernel_rfl)) ?_
  intro W base args ds gs before hval0 hW hcnd _
  have hval : ∀ (j : Nat) t v, Try.f6.params[j]? = some t → args[j]? = some v → Value.okWide Try.prog W .any base t v := hval0
  have hW' := hW
  obtain ⟨p, q, hA0, hV, rfl, hfz, hnd⟩ := hW
  have hA : DataW.TrodAll enc Try.prog W 0 (fun _ => true) true Try.f6.params.toList args.toList ds p := hA0
  rw [Try.params6] at hA hval
  obtain ⟨v0, vs0, d0, ds0, p0, q0, hargs, rfl, rfl, h0, r0⟩ := trodAll_cons hA
  obtain ⟨v1, vs1, d1, ds1, p1, q1, rfl, rfl, rfl, h1, r1⟩ := trodAll_cons r0
  obtain ⟨rfl, rfl, rfl⟩ := trodAll_nil r1
  obtain rfl : args = #[v0, v1] := by cases args; simp_all
  obtain ⟨rfl, rfl⟩ := trodVars_none hV
  obtain ⟨a0, len0, cap0, rfl⟩ := okWide_slice Try.underlying22 (hval 0 22 v0 rfl rfl)
  have k0 := h0
  have lt0 : ∀ x ∈ p0, x.block < W.heap.size := by obtain ⟨m, hm⟩ := k0; exact DataW.trod_lt m _ _ _ hm
  obtain ⟨z0, w0⟩ : ∃ zs, IsRow .u8 W a0 len0 cap0 zs := by
    obtain ⟨fuel, hf⟩ := h0
    rcases open_ints Try.underlying22 Try.underlying5 (by kernel_rfl) hf with ⟨hcs, _⟩ | ⟨x, l, c, zs, hcs, _, hl, hm, hz, _, hcell, hwz⟩
    · simp [Value.cells] at hcs
      obtain ⟨rfl, rfl, rfl⟩ := hcs
      exact ⟨[], .inl ⟨rfl, rfl, rfl, rfl⟩⟩
    · simp [Value.cells] at hcs
      obtain ⟨rfl, rfl, rfl⟩ := hcs
      exact ⟨zs, .inr ⟨_, rfl, hl, hm, by simpa using hz, hcell, hwz⟩⟩
  obtain ⟨a1, len1, cap1, rfl⟩ := okWide_slice Try.underlying22 (hval 1 22 v1 rfl rfl)
  have k1 := h1
  have lt1 : ∀ x ∈ p1, x.block < W.heap.size := by obtain ⟨m, hm⟩ := k1; exact DataW.trod_lt m _ _ _ hm
  obtain ⟨z1, w1⟩ : ∃ zs, IsRow .u8 W a1 len1 cap1 zs := by
    obtain ⟨fuel, hf⟩ := h1
    rcases open_ints Try.underlying22 Try.underlying5 (by kernel_rfl) hf with ⟨hcs, _⟩ | ⟨x, l, c, zs, hcs, _, hl, hm, hz, _, hcell, hwz⟩
    · simp [Value.cells] at hcs
      obtain ⟨rfl, rfl, rfl⟩ := hcs
      exact ⟨[], .inl ⟨rfl, rfl, rfl, rfl⟩⟩
    · simp [Value.cells] at hcs
      obtain ⟨rfl, rfl, rfl⟩ := hcs
      exact ⟨zs, .inr ⟨_, rfl, hl, hm, by simpa using hz, hcell, hwz⟩⟩
  clear hA0 hval0
  have hw : Calls Try.prog 6 #[.slice a0 len0 cap0, .slice a1 len1 cap1] W fun e w' => e = .returned (.bool true) ∧ Below W.heap.size W w' := by
    by_cases hl : len0 ≤ 1048576
    · by_cases hm : len1 ≤ 1048576
      · exact walk len0 cap0 a0 len1 cap1 a1 W hl hm (Lib.hid (code_of_row w0 hl)) (Lib.hid (code_of_row w1 hm))
      · exact walk_long len0 cap0 a0 len1 cap1 a1 W (by omega)
    · exact walk_long len0 cap0 a0 len1 cap1 a1 W (by omega)
  refine hw.mono fun e W' ⟨he, bel⟩ => ?_
  subst he
  exact ⟨_, rfl, _, _, _, [], _, [], hW', trodAll_mk1 (shut_bool Try.underlying4 _), (trodAll_cons_mk (Below.trod laidOut (by kernel_rfl) (of_decide_eq_true (by kernel_rfl)) k0 bel lt0) (trodAll_cons_mk (Below.trod laidOut (by kernel_rfl) (of_decide_eq_true (by kernel_rfl)) k1 bel lt1) trodAll_mk0)), rfl, bel.frame _, fun h => by cases h⟩

theorem over : Rows.fnFitsRow.holds Try.pinned (OpenSpec.ofChange Rows.fnFitsSpec) :=
  OpenClaim.holds_of_wide 6 Try.f6 rfl rfl rfl rfl rfl rfl rfl ⟨rfl, rfl, rfl, rfl, rfl⟩ rfl rfl rfl rfl rfl (by kernel_rfl) Try.func6 (by kernel_rfl)
    (of_decide_eq_true (by kernel_rfl)) (by unfold Func.isWrapper; first | (rw [if_pos (by decide +kernel)]; kernel_rfl) | (rw [if_neg (by decide +kernel)]; exact ⟨rfl, rfl⟩))
    (fun os started H enc _ => lifted os started H enc)

theorem proved : Rows.FnFitsSaid := over
end Go.Proofs.Ytfkpjphafdknaaa.fnFits

