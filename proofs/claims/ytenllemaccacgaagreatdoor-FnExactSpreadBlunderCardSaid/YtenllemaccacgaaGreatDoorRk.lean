/-
  The suspected run by the reference model: a loop over what each run answers.
-/
import Derived.Test.YtenllemaccacgaaGreatDoorRj
import Derived.Test.YtenllemaccacgaaGreatDoorRg
namespace Go.Proofs.YtenllemaccacgaaGreatDoor
open Go.RowKit
set_option linter.unusedVariables false

/-- the first greatest quotient among the looped runs ahead of the k-th -/
def bstQ (x : Nat → Int) (Q : Nat → Int × Int) : Nat → Option (Nat × (Int × Int))
  | 0 => none
  | k + 1 => if x k = 0 then bstQ x Q k else match bstQ x Q k with
    | none => some (k, Q k)
    | some (i, t) => if 0 < gtq (Q k) t then some (k, Q k) else some (i, t)
/-- whether the runs ahead of the k-th all answer -/
def okQ (ok : Nat → Bool) : Nat → Bool
  | 0 => true
  | k + 1 => okQ ok k && ok k
theorem okQ_all {ok : Nat → Bool} : ∀ {m k : Nat}, k < m → okQ ok m = true → ok k = true
  | m + 1, k, h, hm => by
    have e : (okQ ok m && ok m) = true := hm
    rw [Bool.and_eq_true] at e
    rcases Nat.lt_or_ge k m with h1 | h1
    · exact okQ_all h1 e.1
    · obtain rfl : k = m := by omega
      exact e.2
theorem okQ_bad {ok : Nat → Bool} {m k : Nat} (h : k < m) (hk : ok k = false) : okQ ok m = false := by
  cases e : okQ ok m
  · rfl
  · have := okQ_all h e; rw [hk] at this; cases this
/-- the answer -/
def ansQ (x : Nat → Int) (Q : Nat → Int × Int) (ok : Nat → Bool) (m : Nat) : Int × Bool :=
  if okQ ok m = true then match bstQ x Q m with
    | none => (0, false)
    | some (i, _) => ((i : Int), true)
  else (0, false)
theorem bst_in {x : Nat → Int} {Q : Nat → Int × Int} : ∀ {m i : Nat} {t : Int × Int}, bstQ x Q m = some (i, t) → i < m ∧ x i ≠ 0 ∧ t = Q i
  | 0, i, t, h => by cases h
  | m + 1, i, t, h => by
    unfold bstQ at h
    split at h
    · have := bst_in h; exact ⟨by omega, this.2⟩
    · rename_i hx
      split at h
      · cases h; exact ⟨by omega, hx, rfl⟩
      · rename_i i' t' e
        split at h
        · cases h; exact ⟨by omega, hx, rfl⟩
        · cases h; have := bst_in e; exact ⟨by omega, this.2⟩
/-- what the loop holds -/
def BestAt (o : Option (Nat × (Int × Int))) (s : Value) (W : World) (T : Nat) : Prop := ∃ (z t1 t2 : Int), s = .int .i64 z ∧ Cell2 W T t1 t2 ∧ ((o = none ∧ z = -1) ∨ ∃ i : Nat, o = some (i, (t1, t2)) ∧ z = (i : Int))
set_option maxHeartbeats 8000000 in
set_option maxRecDepth 100000 in
theorem sBlunder_of (N : Nat) (p : Option Addr) (c m : Nat) (rs : List Rn) (x : Nat → Int) (Q : Nat → Int × Int) (ok : Nat → Bool) (w : World) (h : Runs w p rs) (hw : nWhole (N : Int) rs = true) (hm : rs.length = m)
    (hq : ∀ k, k < m → ok k = true → x k ≠ 0 → Quo.qv (Q k).1 (Q k).2 = true)
    (hB : ∀ k : Nat, k < m → ∃ (u v : Int) (lb : Bool), (∀ w, Runs w p rs → Hid (Calls Tryz.prog 35 #[.int .i64 N, .slice p m c, .int .i64 k] w fun e w' => e = .returned (.tuple #[.agg #[.int .i64 u, .int .i64 v], .bool lb, .bool (ok k)]) ∧ Below w.heap.size w w')) ∧ (ok k = true → lb = decide (x k ≠ 0) ∧ (x k ≠ 0 → Q k = (u, v)))) :
    Calls Tryz.prog 16 #[.int .i64 N, .slice p m c] w fun e w' => e = .returned (.tuple #[.int .i64 (ansQ x Q ok m).1, .bool (ansQ x Q ok m).2]) ∧ Below w.heap.size w w' := by
  have hn := whole_nok hw
  have hl : m ≤ 12 := by rw [← hm]; exact (nOk_true hn).2.2.1
  have c1 := fun w h => Lib.hid (sWhole_m (p := p) (c := c) w hm h (by omega) hw)
  obtain ⟨az, haz⟩ : ∃ a, ansQ x Q ok m = a := ⟨_, rfl⟩
  obtain ⟨a1, a2⟩ := az
  rw [haz]
  have HA := Lib.hid (And.intro haz (And.intro hq hB))
  have H := Lib.hid h
  clear h hw hm hn haz hq hB
  go_enter Tryz.func16, Tryz.ntmps16
  go_upto_region 4 with ((go_at_call 34; (with_reducible refine ((c1 _ ?_).out).mono ?_); (focus ((exact H.out); done)); rintro e wa ⟨rfl, hb_wa⟩; have hs_wa := hb_wa.size; (try simp at hs_wa)))
  go_upto_region 5 with fail
  obtain ⟨V, T, hV, hT, hC, hBd, hTl⟩ := new_cell (Below.refl wa.heap.size wa) 0 0 27
  rw [← hV, ← hT]
  have HB := Lib.hid (hb_wa.trans (hBd.mono hs_wa))
  have HC := Lib.hid hC
  have hTw : w.heap.size ≤ T := by omega
  clear hV hT hC hBd hTl hb_wa hs_wa c1
  go_wp2_with fail
  go_loopw [6, 8] (fun s i wr => ∃ j : Nat, j ≤ m ∧ i = .int .i64 j ∧ BestAt (bstQ x Q j) s wr T ∧ okQ ok j = true ∧ Below w.heap.size w wr) (fun _ i _ => m - (intOf i).toNat)
  case atStart => exact ⟨0, Nat.zero_le _, rfl, ⟨-1, 0, 0, rfl, HC.out, .inl ⟨rfl, rfl⟩⟩, rfl, HB.out⟩
  case round =>
    clear HC HB
    rename World => wr
    obtain ⟨j, hj, rfl, ⟨z, t1, t2, rfl, hC, ho⟩, hok, hb⟩ := hrel
    have hbs := hb.size
    have hTl := hC.lt
    by_cases hlt : j < m
    · have hlt' : (j : Int) < (m : Int) := by omega
      obtain ⟨u, v, lb, hcb, hlb⟩ := HA.out.2.2 j hlt
      have hqj := HA.out.2.1 j hlt
      have hz0 : -1 ≤ z := by rcases ho with ⟨-, h⟩ | ⟨i, -, h⟩ <;> omega
      cases hkj : ok j
      · rw [hkj] at hcb
        have hans : a1 = 0 ∧ a2 = false := by
          have := HA.out.1
          unfold ansQ at this
          rw [okQ_bad hlt hkj] at this
          simp at this
          exact ⟨this.1.symm, this.2⟩
        obtain ⟨rfl, rfl⟩ := hans
        have HX := Lib.hid hb
        clear hb hC ho hok hlb hqj hkj
        go_upto_region 9 with ((go_at_call 35; (with_reducible refine ((hcb _ ?_).out).mono ?_); (focus ((exact H.out.below HX.out); done)); rintro e wi ⟨rfl, hb_wi⟩; have hs_wi := hb_wi.size; (try simp at hs_wi)))
        have HBe := HX.out.trans (hb_wi.mono hbs)
        have HBf := HBe.alloc HBe.size (.cells #[.int .i64 u, .int .i64 v] 27)
        clear hb_wi hs_wi HBe
        go_wp2_with fail
        refine bodyPost_ret (v := .tuple #[.int .i64 0, .bool false]) (by simp [results, Tryz.results16, go_sem]) rfl ⟨rfl, HBf⟩
      · rw [hkj] at hcb
        obtain ⟨hlbe, hQe⟩ := hlb hkj
        have hok1 : okQ ok (j + 1) = true := by show (okQ ok j && ok j) = true; rw [hok, hkj]; rfl
        have c4 := fun w => Lib.hid (sOrder_any u v t1 t2 w)
        by_cases hx0 : x j = 0
        · have hlf : lb = false := by rw [hlbe]; simpa using hx0
          subst hlf
          have hst : bstQ x Q (j + 1) = bstQ x Q j := by
            show (if x j = 0 then bstQ x Q j else _) = _
            rw [if_pos hx0]
          obtain ⟨od, hod⟩ : ∃ o, Quo.gS (Quo.both u v t1 t2) (u * t2 - t1 * v) = o := ⟨_, rfl⟩
          obtain ⟨ob, hob⟩ : ∃ o, Quo.both u v t1 t2 = o := ⟨_, rfl⟩
          rw [hod, hob] at c4
          have HX := Lib.hid (And.intro hb (And.intro hC (And.intro ho (And.intro hst hok1))))
          clear hb hC ho hok hqj hkj hQe hlbe hst hok1 hod hob hx0 hlb
          go_upto_region 9 with ((go_at_call 35; (with_reducible refine ((hcb _ ?_).out).mono ?_); (focus ((exact H.out.below HX.out.1); done)); rintro e wi ⟨rfl, hb_wi⟩; have hs_wi := hb_wi.size; (try simp at hs_wi)))
          obtain ⟨V, X, hV, hX, hC, hBd, hXl⟩ := new_cell hb_wi u v 27
          rw [← hV, ← hX]
          have HV := Lib.hid (And.intro (HX.out.1.trans (hBd.mono hbs)) (HX.out.2.1.below hBd))
          obtain ⟨k1, k2, -, -⟩ := hC
          obtain ⟨m1, m2, -, -⟩ := HX.out.2.1.below hBd
          clear hV hX hBd hXl hb_wi hs_wi hcb
          go_wp2_with (go_at_call 36; (with_reducible refine ((c4 _).out).mono ?_); rintro e w2 ⟨rfl, hb_w2⟩)
          go_roundw
          case rel => exact ⟨j + 1, by omega, by go_num, by rw [HX.out.2.2.2.1]; exact ⟨z, t1, t2, rfl, HV.out.2.below hb_w2, HX.out.2.2.1⟩, HX.out.2.2.2.2, HV.out.1.trans (hb_w2.mono HV.out.1.size)⟩
          case measure => simp [intOf]; omega
        · have hlf : lb = true := by rw [hlbe]; simpa using hx0
          subst hlf
          have hQj := hQe hx0
          have hqv := hqj hkj hx0
          rw [hQj] at hqv
          rcases ho with ⟨ho, rfl⟩ | ⟨i, ho, rfl⟩
          · have hst : bstQ x Q (j + 1) = some (j, (u, v)) := by
              show (if x j = 0 then bstQ x Q j else match bstQ x Q j with | none => some (j, Q j) | some (i, t) => if 0 < gtq (Q j) t then some (j, Q j) else some (i, t)) = _
              rw [if_neg hx0, ho, hQj]
            obtain ⟨od, hod⟩ : ∃ o, Quo.gS (Quo.both u v t1 t2) (u * t2 - t1 * v) = o := ⟨_, rfl⟩
            obtain ⟨ob, hob⟩ : ∃ o, Quo.both u v t1 t2 = o := ⟨_, rfl⟩
            rw [hod, hob] at c4
            have HX := Lib.hid (And.intro hb (And.intro hC (And.intro hst hok1)))
            clear hb hC ho hok hqj hkj hQe hlbe hst hok1 hod hob hx0 hlb hQj hqv
            go_upto_region 9 with ((go_at_call 35; (with_reducible refine ((hcb _ ?_).out).mono ?_); (focus ((exact H.out.below HX.out.1); done)); rintro e wi ⟨rfl, hb_wi⟩; have hs_wi := hb_wi.size; (try simp at hs_wi)))
            obtain ⟨V, X, hV, hX, hC, hBd, hXl⟩ := new_cell hb_wi u v 27
            rw [← hV, ← hX]
            have HV := Lib.hid (And.intro (HX.out.1.trans (hBd.mono hbs)) (HX.out.2.1.below hBd))
            obtain ⟨k1, k2, -, -⟩ := hC
            obtain ⟨m1, m2, m3, m4⟩ := HX.out.2.1.below hBd
            have hXV := World.block_lt_of_cell? V _ k1
            have hTV := World.block_lt_of_cell? V _ m1
            have hMX : ¬ T = X := by omega
            have hXM : ¬ X = T := fun e => hMX e.symm
            clear hV hX hBd hXl hb_wi hs_wi hcb
            go_wp2_with (go_at_call 36; (with_reducible refine ((c4 _).out).mono ?_); rintro e w2 ⟨rfl, hb_w2⟩; have s1 := cell_below_keep hb_w2 k1; have s2 := cell_below_keep hb_w2 k2; have s3 := cell_below_keep hb_w2 m1; have s4 := cell_below_keep hb_w2 m2; have s5 := frozen_below_kE hb_w2 m1 m3; have s6 := frozen_below_kE hb_w2 m2 m4)
            go_roundw
            case rel => exact ⟨j + 1, by omega, by go_num, by rw [HX.out.2.2.1]; exact ⟨_, u, v, rfl, (HV.out.2.below hb_w2).set u v, .inr ⟨j, rfl, rfl⟩⟩, HX.out.2.2.2, (((HV.out.1.trans (hb_w2.mono HV.out.1.size)).setCell (p := ⟨T, 0, none⟩) hTw _).setCell (p := ⟨T, 1, none⟩) hTw _)⟩
            case measure => simp [intOf]; omega
          · have hst : bstQ x Q (j + 1) = if 0 < gtq (u, v) (t1, t2) then some (j, (u, v)) else some (i, (t1, t2)) := by
              show (if x j = 0 then bstQ x Q j else match bstQ x Q j with | none => some (j, Q j) | some (i, t) => if 0 < gtq (Q j) t then some (j, Q j) else some (i, t)) = _
              rw [if_neg hx0, ho, hQj]
            have hbi := bst_in ho
            have hqt : Quo.qv t1 t2 = true := by
              have := HA.out.2.1 i (by omega) (okQ_all hbi.1 hok) hbi.2.1
              rw [← hbi.2.2] at this
              exact this
            have hord := order_q (x := (u, v)) (y := (t1, t2)) hqv hqt
            dsimp only at hord
            rw [hord.2, hord.1] at c4
            obtain ⟨od, hod⟩ : ∃ o, Quo.sg (gtq (u, v) (t1, t2)) = o := ⟨_, rfl⟩
            have hpos : 0 < od ↔ 0 < gtq (u, v) (t1, t2) := by rw [← hod]; exact sg_pos
            rw [hod] at c4
            have hi0 : ¬ (i : Int) < 0 := by omega
            have HX := Lib.hid (And.intro hb (And.intro hC (And.intro hst (And.intro hok1 ho))))
            clear hb hC ho hok hqj hkj hQe hlbe hst hok1 hod hx0 hlb hQj hqv hbi hqt hord hz0
            go_upto_region 9 with ((go_at_call 35; (with_reducible refine ((hcb _ ?_).out).mono ?_); (focus ((exact H.out.below HX.out.1); done)); rintro e wi ⟨rfl, hb_wi⟩; have hs_wi := hb_wi.size; (try simp at hs_wi)))
            obtain ⟨V, X, hV, hX, hC, hBd, hXl⟩ := new_cell hb_wi u v 27
            rw [← hV, ← hX]
            have HV := Lib.hid (And.intro (HX.out.1.trans (hBd.mono hbs)) (HX.out.2.1.below hBd))
            obtain ⟨k1, k2, -, -⟩ := hC
            obtain ⟨m1, m2, m3, m4⟩ := HX.out.2.1.below hBd
            have hXV := World.block_lt_of_cell? V _ k1
            have hTV := World.block_lt_of_cell? V _ m1
            have hMX : ¬ T = X := by omega
            have hXM : ¬ X = T := fun e => hMX e.symm
            clear hV hX hBd hXl hb_wi hs_wi hcb
            by_cases hp : 0 < od
            · have HE : Hid (bstQ x Q (j + 1) = some (j, (u, v))) := Lib.hid (by rw [HX.out.2.2.1, if_pos (hpos.1 hp)])
              go_wp2_with (go_at_call 36; (with_reducible refine ((c4 _).out).mono ?_); rintro e w2 ⟨rfl, hb_w2⟩; have s1 := cell_below_keep hb_w2 k1; have s2 := cell_below_keep hb_w2 k2; have s3 := cell_below_keep hb_w2 m1; have s4 := cell_below_keep hb_w2 m2; have s5 := frozen_below_kE hb_w2 m1 m3; have s6 := frozen_below_kE hb_w2 m2 m4)
              go_roundw
              case rel => exact ⟨j + 1, by omega, by go_num, by rw [HE.out]; exact ⟨_, u, v, rfl, (HV.out.2.below hb_w2).set u v, .inr ⟨j, rfl, rfl⟩⟩, HX.out.2.2.2.1, (((HV.out.1.trans (hb_w2.mono HV.out.1.size)).setCell (p := ⟨T, 0, none⟩) hTw _).setCell (p := ⟨T, 1, none⟩) hTw _)⟩
              case measure => simp [intOf]; omega
            · have HE : Hid (bstQ x Q (j + 1) = some (i, (t1, t2))) := Lib.hid (by rw [HX.out.2.2.1, if_neg (fun h => hp (hpos.2 h))])
              have hp' : ¬ (0 : Int) < od := hp
              go_wp2_with (go_at_call 36; (with_reducible refine ((c4 _).out).mono ?_); rintro e w2 ⟨rfl, hb_w2⟩)
              go_roundw
              case rel => exact ⟨j + 1, by omega, by go_num, by rw [HE.out]; exact ⟨_, t1, t2, rfl, HV.out.2.below hb_w2, .inr ⟨i, rfl, rfl⟩⟩, HX.out.2.2.2.1, HV.out.1.trans (hb_w2.mono HV.out.1.size)⟩
              case measure => simp [intOf]; omega
    · have e : m = j := by omega
      subst e
      have hans := HA.out.1
      unfold ansQ at hans
      rw [if_pos hok] at hans
      have HB := Lib.hid hb
      rcases ho with ⟨ho, rfl⟩ | ⟨i, ho, rfl⟩
      · rw [ho] at hans
        simp at hans
        obtain ⟨h1, h2⟩ := hans
        subst h1
        have h2' : a2 = false := by first | exact h2 | exact h2.symm
        subst h2'
        clear hb hC ho hok
        go_wp2_with fail
        refine bodyPost_ret (v := .tuple #[.int .i64 0, .bool false]) (by simp [results, Tryz.results16, go_sem]) rfl ⟨rfl, HB.out⟩
      · rw [ho] at hans
        simp at hans
        obtain ⟨h1, h2⟩ := hans
        subst h1
        have h2' : a2 = true := by first | exact h2 | exact h2.symm
        subst h2'
        have hi0 : ¬ (i : Int) < 0 := by omega
        clear hb hC ho hok
        go_wp2_with fail
        refine bodyPost_ret (v := .tuple #[.int .i64 i, .bool true]) (by simp [results, Tryz.results16, go_sem]) rfl ⟨rfl, HB.out⟩
end Go.Proofs.YtenllemaccacgaaGreatDoor
