/-
  The program's groups of nodes: how they begin, what a run more does to them, and whether the runs of a list link all nodes.
-/
import Derived.Test.YtimghdffmdcheaaTg
import Derived.Test.YtimghdffmdcheaaTrb
namespace Go.Proofs.Ytimghdffmdcheaa
open Go.RowKit
set_option linter.unusedVariables false

theorem made_groups (w : World) (n : Nat) (hn : n ≤ 1048576) : (Instr.makeSlice 73 (.int .i64 (n : Int)) (.int .i64 (n : Int))).run Try.prog w = .ok (.slice (some ⟨w.heap.size, 0, none⟩) n n) (w.alloc (.cells (madeCells (Array.replicate 1 (.int .i64 0)) (n * 1)) 3)) := by
  obtain ⟨i, hi, hzz⟩ := Option.map_eq_some_iff.1 info_int
  simp only [Prod.mk.injEq] at hzz
  obtain ⟨hz, hs, hb⟩ := hzz
  have := run_make (P := Try.prog) w 73 3 i _ Try.underlying73 hi hz .i64 .i64 n n (by omega) (Int.le_refl _) (by rw [hb]; omega) (by omega)
  simp only [Int.toNat_natCast, hs] at this
  exact this

theorem fillI_iota (k : Nat) : fillI k (iota k) = iota k := by have := fillI_all (iota k); rwa [iota_len] at this
set_option maxHeartbeats 1000000 in
theorem iGroups (N : Nat) (w : World) (hN : N ≤ 6) :
    Calls Try.prog 67 #[.int .i64 N] w fun e w' => e = .returned (.slice (some ⟨w.heap.size, 0, none⟩) N N) ∧ Own w' w.heap.size 3 1 N N (iota N) ∧ Below w.heap.size w w' := by
  have hm := fun w => made_groups w N (by omega)
  have h0 : Own (w.alloc (.cells (madeCells (Array.replicate 1 (.int .i64 0)) (N * 1)) 3)) w.heap.size 3 1 N N (fillI 0 (iota N)) := by
    have := Own.made w 3 N 1 (by decide) (by unfold maxLen; omega)
    rw [fillI_zero, iota_len]; rw [Nat.mul_one] at this ⊢; exact this
  have H0 := Lib.hid h0
  clear h0
  go_enter Try.func67, Try.ntmps67
  go_wp2_with fail
  clear hm
  go_loopw [9] (fun i wr => ∃ k : Nat, k ≤ N ∧ i = .int .i64 k ∧ Own wr w.heap.size 3 1 N N (fillI k (iota N)) ∧ Below w.heap.size w wr) (fun i _ => N - (intOf i).toNat)
  case atStart => exact ⟨0, Nat.zero_le _, rfl, by simpa using H0.out, (by repeat (first | assumption | exact Below.refl _ _ | (refine below_chain ?_ (by assumption) (by first | omega | (simp <;> omega) | simp)) | (refine Below.alloc ?_ (by first | omega | (simp <;> omega) | simp) _) | (apply below_drewN) | (apply below_drew) | (refine Below.setCell ?_ (by first | omega | (simp <;> omega) | simp) _)))⟩
  case round =>
    clear H0
    obtain ⟨k, hk, rfl, how, hbr⟩ := hrel
    have hbs := hbr.size
    have HO := Lib.hid how
    by_cases hlt : k < N
    · have hf := how.frozen k
      have hlo := how.lt
      have hcx := how.cells (i := k) (z := ((fillI k (iota N))[k]?).getD 0) (by have := fillI_len k (iota N) (by rw [iota_len]; omega); rw [iota_len] at this; rw [List.getElem?_eq_getElem (by omega)]; rfl)
      have HR := Lib.hid (iota_nth hlt)
      clear how
      go_wp2_with fail
      go_roundw
      case rel => exact ⟨k + 1, by omega, by go_num, by rw [← fillI_set HR.out]; exact HO.out.set k k (by rw [fillI_len _ _ (by rw [iota_len]; omega), iota_len]; exact hlt), (by repeat (first | assumption | exact Below.refl _ _ | (refine below_chain ?_ (by assumption) (by first | omega | (simp <;> omega) | simp)) | (refine Below.alloc ?_ (by first | omega | (simp <;> omega) | simp) _) | (apply below_drewN) | (apply below_drew) | (refine Below.setCell ?_ (by first | omega | (simp <;> omega) | simp) _)))⟩
      case measure => simp [intOf]; omega
    · have e : k = N := by omega
      subst e
      clear how
      go_wp2_with fail
      go_ret
      exact ⟨rfl, by have := HO.out; rwa [fillI_iota] at this, (by repeat (first | assumption | exact Below.refl _ _ | (refine below_chain ?_ (by assumption) (by first | omega | (simp <;> omega) | simp)) | (refine Below.alloc ?_ (by first | omega | (simp <;> omega) | simp) _) | (apply below_drewN) | (apply below_drew) | (refine Below.setCell ?_ (by first | omega | (simp <;> omega) | simp) _)))⟩

theorem grew_below {w w' : World} {g : Nat} (h : Below w.heap.size w w') : w.grownBy w' (some g) := ⟨h.os, h.tape, h.output, h.size, fun k hk _ => h.block k hk⟩
theorem grew_trans {a b c : World} {g : Nat} (h : a.grownBy b (some g)) (k : b.grownBy c (some g)) : a.grownBy c (some g) := ⟨k.os.trans h.os, k.tape.trans h.tape, k.output.trans h.output, Nat.le_trans h.size k.size, fun i hi hn => (k.block i (Nat.lt_of_lt_of_le hi h.size) hn).trans (h.block i hi hn)⟩
theorem grew_set (w : World) (g o : Nat) (v : Value) : w.grownBy (w.setCell ⟨g, o, none⟩ v) (some g) := (grew.refl w g).set o v |>.1

set_option maxHeartbeats 1000000 in
theorem iJoin (N g a b : Nat) (s q x y : Int) (us : List Rn) (G : List Int) (ok : Bool) (w : World) (hN : N ≤ 6) (hG : Grp N us G) (ho : Own w g 3 1 N N G) (ha : G[a]? = some x) (hb : G[b]? = some y) (hk : (x != y) = ok) :
    Calls Try.prog 68 #[.slice (some ⟨g, 0, none⟩) N N, .agg #[.int .i64 a, .int .i64 b, .int .i64 s, .int .i64 q]] w fun e w' => e = .returned (.bool ok) ∧ ∃ G', Grp N (if ok = true then us ++ [⟨a, b, s, q⟩] else us) G' ∧ Own w' g 3 1 N N G' ∧ w.grownBy w' (some g) := by
  have hl := hG.len
  have haN : a < N := by have := (List.getElem?_eq_some_iff.1 ha).1; omega
  have hbN : b < N := by have := (List.getElem?_eq_some_iff.1 hb).1; omega
  have haN' : (a : Int) < (N : Int) := by omega
  have hbN' : (b : Int) < (N : Int) := by omega
  have c1 := ho.cells ha
  have c2 := ho.cells hb
  have hlo := ho.lt
  by_cases hxy : x = y
  · obtain rfl : ok = false := by rw [← hk]; simp [hxy]
    have hxy' : (x == y) = true := by simpa using hxy
    have H := Lib.hid (And.intro hG ho)
    clear hG ho ha hb hk hxy hl
    go_enter Try.func68, Try.ntmps68
    go_wp2_with fail
    (refine wp_region_grows (by kernel_rfl) (by kernel_rfl) ?_; intro W_wg hWc_wg hWs_wg hWe_wg; (repeat (go_big_quiet_step (fail))); with_reducible refine wpQuiet_nil ?_; clear hWe_wg hWs_wg hWc_wg W_wg; intro wg hb_wg; obtain ⟨hc_wg, hf_wg⟩ := bcell hb_wg; (try simp only [World.size_drew, World.cell?_drew, World.frozen?_drew, World.heap_drewN, World.cell?_drewN, World.frozen?_drewN] at hc_wg hf_wg); have hs_wg := hb_wg.size; (try simp at hs_wg))
    go_wp2_with fail
    go_ret
    exact ⟨rfl, G, H.out.1, (H.out.2.alloc _).below hb_wg, grew_below (by repeat (first | assumption | exact Below.refl _ _ | (refine below_chain ?_ (by assumption) (by first | omega | (simp <;> omega) | simp)) | (refine Below.alloc ?_ (by first | omega | (simp <;> omega) | simp) _) | (apply below_drewN) | (apply below_drew) | (refine Below.setCell ?_ (by first | omega | (simp <;> omega) | simp) _)))⟩
  · obtain rfl : ok = true := by rw [← hk]; simpa using hxy
    have hxy' : (x == y) = false := by simpa using hxy
    have H := Lib.hid (And.intro (hG.join (r := ⟨a, b, s, q⟩) rfl rfl ha hb) (And.intro ho hl))
    clear hG ho ha hb hk hxy hl
    go_enter Try.func68, Try.ntmps68
    go_wp2_with fail
    (refine wp_region_grows (by kernel_rfl) (by kernel_rfl) ?_; intro W_wg hWc_wg hWs_wg hWe_wg; (repeat (go_big_quiet_step (fail))); with_reducible refine wpQuiet_nil ?_; clear hWe_wg hWs_wg hWc_wg W_wg; intro wg hb_wg; obtain ⟨hc_wg, hf_wg⟩ := bcell hb_wg; (try simp only [World.size_drew, World.cell?_drew, World.frozen?_drew, World.heap_drewN, World.cell?_drewN, World.frozen?_drewN] at hc_wg hf_wg); have hs_wg := hb_wg.size; (try simp at hs_wg))
    go_wp2_with fail
    have H1 : Hid (Own wg g 3 1 N N (reg x y 0 G) ∧ w.grownBy wg (some g)) := Lib.hid ⟨by rw [reg_zero]; exact (H.out.2.1.alloc _).below hb_wg, grew_below (by repeat (first | assumption | exact Below.refl _ _ | (refine below_chain ?_ (by assumption) (by first | omega | (simp <;> omega) | simp)) | (refine Below.alloc ?_ (by first | omega | (simp <;> omega) | simp) _) | (apply below_drewN) | (apply below_drew) | (refine Below.setCell ?_ (by first | omega | (simp <;> omega) | simp) _)))⟩
    clear c1 c2 hxy' hb_wg hc_wg hf_wg
    go_loopw [24] (fun i wr => ∃ k : Nat, k ≤ N ∧ i = .int .i64 k ∧ Own wr g 3 1 N N (reg x y k G) ∧ w.grownBy wr (some g)) (fun i _ => N - (intOf i).toNat)
    case atStart => exact ⟨0, Nat.zero_le _, rfl, H1.out.1, H1.out.2⟩
    case round =>
      clear H1
      obtain ⟨k, hk, rfl, how, hgr⟩ := hrel
      have HO := Lib.hid (And.intro how hgr)
      by_cases hlt : k < N
      · obtain ⟨z, hz⟩ : ∃ z, G[k]? = some z := ⟨_, List.getElem?_eq_getElem (by have := H.out.2.2; omega)⟩
        have hf := how.frozen k
        have hlo := how.lt
        have hcx := how.cells (reg_at hz)
        by_cases hzy : z = y
        · subst hzy
          have HZ := Lib.hid hz
          clear how hgr hz
          go_wp2_with fail
          go_roundw
          case rel => exact ⟨k + 1, by omega, by go_num, by rw [← reg_set HZ.out]; exact HO.out.1.set k x (by rw [reg_len]; have := H.out.2.2; omega), grew_trans HO.out.2 (grew_set _ _ _ _)⟩
          case measure => simp [intOf]; omega
        · have hzy' : (z == y) = false := by simpa using hzy
          have HZ := Lib.hid (reg_same (x := x) hz hzy)
          clear how hgr hz hzy
          go_wp2_with fail
          go_roundw
          case rel => exact ⟨k + 1, by omega, by go_num, by rw [← HZ.out]; exact HO.out.1, HO.out.2⟩
          case measure => simp [intOf]; omega
      · have e : k = N := by omega
        subst e
        clear how hgr
        go_wp2_with fail
        go_ret
        exact ⟨rfl, _, H.out.1, HO.out.1, HO.out.2⟩

set_option maxHeartbeats 2000000 in
theorem iLinksAll (N m k : Nat) (p q : Option Addr) (c d : Nat) (rs : List Rn) (T : List Int) (b : Bool) (w : World) (h : Runs w p rs) (hq : Ints w q T) (hm : rs.length = m) (hk : T.length = k) (hn : nOk N rs = true) (ha : Asc m T) (hkN : k + 1 = N) (hb : nWhole N (sub rs T) = b) :
    Calls Try.prog 89 #[.int .i64 N, .slice p m c, .slice q k d] w fun e w' => e = .returned (.bool b) ∧ Below w.heap.size w w' := by
  obtain ⟨hn2, hn6, hl12, -⟩ := nOk_true hn
  have hok := nOk_ends hn
  have c1 := fun w => Lib.hid (iGroups N w (by omega))
  have hsub : EndsIn N (sub rs T) := by rw [← hm] at ha; exact ha.sub_ends hn
  have hsok : nOk N (sub rs T) = true := by rw [← hm] at ha; exact ha.sub_ok hn (by omega)
  have H := Lib.hid (And.intro h (And.intro hq (And.intro hm (And.intro hk (And.intro hn ha)))))
  have HB := Lib.hid (And.intro hb (And.intro hsub (And.intro hsok hok)))
  have hm12 : m ≤ 12 := by omega
  clear h hq hm hk hn ha hb hsub hsok hok hl12
  go_enter Try.func89, Try.ntmps89
  go_wp2_with (go_at_call 67; (with_reducible refine ((c1 _).out).mono ?_); rintro e wo ⟨rfl, ho, hb_wo⟩; have hs_wo := hb_wo.size; have HO0 := Lib.hid ho; clear ho)
  have hlo0 := HO0.out.lt
  have h0 : Hid (Own wo w.heap.size 3 1 N N (iota N) ∧ Below w.heap.size w wo) := Lib.hid ⟨HO0.out, hb_wo⟩
  clear c1 HO0 hb_wo
  go_loopw [14] (fun i wr => ∃ (j : Nat) (G : List Int), j ≤ k ∧ i = .int .i64 j ∧ Grp N (sub rs (T.take j)) G ∧ Free N (sub rs (T.take j)) ∧ Own wr w.heap.size 3 1 N N G ∧ Below w.heap.size w wr) (fun i _ => k - (intOf i).toNat)
  case atStart => exact ⟨0, _, Nat.zero_le _, rfl, Grp.start N, Free.nil N, h0.out.1, h0.out.2⟩
  case round =>
    clear h0 hlo0 hs_wo
    obtain ⟨j, G, hj, rfl, hG, hF, how, hbr⟩ := hrel
    have hbs := hbr.size
    by_cases hlt : j < k
    · obtain ⟨B, o, z, rfl, hz, hB, e0⟩ := (H.out.2.1.below hbr).at (i := j) (by have := H.out.2.2.2.1; omega)
      obtain ⟨z0, z1⟩ := H.out.2.2.2.2.2.rng z (List.mem_of_getElem? hz)
      obtain ⟨u, rfl⟩ : ∃ u : Nat, z = (u : Int) := ⟨z.toNat, by omega⟩
      have hum : u < m := by omega
      obtain ⟨D, o', r, rfl, hr, hD, x0, x1, x2, x3⟩ := (H.out.1.below hbr).at (i := u) (by have := H.out.2.2.1; omega)
      obtain ⟨q0, q1, q2, q3⟩ := HB.out.2.2.2 r (List.mem_of_getElem? hr)
      obtain ⟨rf, rt, rg, rw⟩ := r
      simp only at x0 x1 x2 x3 q0 q1 q2 q3
      obtain ⟨a, rfl⟩ : ∃ a : Nat, rf = (a : Int) := ⟨rf.toNat, by omega⟩
      obtain ⟨b', rfl⟩ : ∃ b : Nat, rt = (b : Int) := ⟨rt.toNat, by omega⟩
      obtain ⟨x, hx⟩ : ∃ x, G[a]? = some x := ⟨_, List.getElem?_eq_getElem (by have := hG.len; omega)⟩
      obtain ⟨y, hy⟩ : ∃ y, G[b']? = some y := ⟨_, List.getElem?_eq_getElem (by have := hG.len; omega)⟩
      obtain ⟨ok, hok⟩ : ∃ ok, (x != y) = ok := ⟨_, rfl⟩
      have cj := fun wz ho => Lib.hid (iJoin N w.heap.size a b' rg rw x y (sub rs (T.take j)) G ok wz (by omega) hG ho hx hy hok)
      have hlink := hG.link (r := ⟨a, b', rg, rw⟩) rfl rfl hx hy
      have hsn : sub rs (T.take (j + 1)) = sub rs (T.take j) ++ [⟨a, b', rg, rw⟩] := by
        rw [take_succ_of hz]; exact sub_snoc rs _ u hr
      have HJ := Lib.hid (And.intro hok (And.intro hlink (And.intro hsn (And.intro hz hr))))
      have HO := Lib.hid (And.intro how (And.intro hF hbr))
      clear hz hr hG hF how hx hy hok hlink hsn q0 q1 q2 q3 z0 z1
      cases ok
      · go_wp2_with (go_at_call 68; (with_reducible refine ((cj _ ?_).out).mono ?_); (focus (exact HO.out.1; done)); rintro e wj ⟨rfl, G', hG', ho', hgr⟩)
        go_ret
        refine ⟨ret_bool ?_, below_gr hbr hgr (Nat.le_refl _) hbs⟩
        rw [← HB.out.1]
        have e := split_at HJ.out.2.2.2.1
        have e2 : sub rs T = sub rs (T.take j) ++ ⟨a, b', rg, rw⟩ :: sub rs (T.drop (j + 1)) := by
          conv => lhs; rw [e, ← List.singleton_append, ← List.append_assoc, sub_append]
          rw [sub_snoc rs _ u HJ.out.2.2.2.2]; simp
        have hE := HB.out.2.1
        have hlk := HJ.out.2.1.1 (by simpa using HJ.out.1)
        have hle : (sub rs T).length + 1 = N := by rw [sub_len]; have := H.out.2.2.2.1; omega
        rw [e2] at hE hle ⊢
        exact (Free.not_whole hE hle hlk).symm
      · go_wp2_with (go_at_call 68; (with_reducible refine ((cj _ ?_).out).mono ?_); (focus (exact HO.out.1; done)); rintro e wj ⟨rfl, G', hG', ho', hgr⟩)
        go_roundw
        case rel =>
          refine ⟨j + 1, G', by omega, by go_num, by rw [HJ.out.2.2.1]; simpa using hG', ?_, ho', below_gr HO.out.2.2 hgr (Nat.le_refl _) hbs⟩
          rw [HJ.out.2.2.1]
          refine Free.snoc ?_ HO.out.2.1 (fun e => by have := HJ.out.2.1.2 e; have := HJ.out.1; simp at this; contradiction)
          rw [← HJ.out.2.2.1]
          exact HB.out.2.1.sub (fun r hr => by
            obtain ⟨y, hy, rfl⟩ := mem_subOf.1 hr
            exact mem_subOf.2 ⟨y, List.mem_of_mem_take hy, rfl⟩)
        case measure => simp [intOf]; omega
    · have e : j = k := by omega
      subst e
      have hb' : nWhole N (sub rs T) = true := by
        rw [List.take_of_length_le (by have := H.out.2.2.2.1; omega)] at hF
        exact Free.whole HB.out.2.2.1 hF (by rw [sub_len]; have := H.out.2.2.2.1; omega)
      clear hG hF how
      go_wp2_with fail
      go_ret
      exact ⟨ret_bool (hb'.symm.trans HB.out.1), hbr⟩
end Go.Proofs.Ytimghdffmdcheaa
