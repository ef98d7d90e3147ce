/-
  Numbers that nodes share just with those nodes that are linked with them, and what a run more does to them. No function of the program is named.
  The program's groups of nodes: how they begin, what a run more does to them, and whether the runs of a list link all nodes.
  The program's TreeIs and TreeFirst.
  The program's TreeFirst.
  The program's TreeHeights.
-/
import Derived.Test.YtoaomjchaihkaaaGreatDoorZi
import Derived.Test.YtoaomjchaihkaaaGreatDoorZg
import Derived.Test.YtoaomjchaihkaaaGreatDoorTrz
namespace Go.Proofs.YtoaomjchaihkaaaGreatDoor
set_option linter.unusedVariables false

theorem Same.nil {i j : Int} : Same [] i j ↔ i = j :=
  ⟨fun h => ((h (fun k => k = i) (fun r hr => by simp at hr)).1 rfl).symm, by rintro rfl; exact Same.refl _ _⟩
theorem Same.more {us : List Rn} {r : Rn} {i j : Int} : Same (us ++ [r]) i j ↔ Same us i j ∨ (Same us i r.f ∧ Same us r.t j) ∨ (Same us i r.t ∧ Same us r.f j) := by
  constructor
  · intro h
    refine (h (fun k => Same us i k ∨ (Same us i r.f ∧ Same us r.t k) ∨ (Same us i r.t ∧ Same us r.f k)) (fun r' hr' => ?_)).1 (.inl (Same.refl _ _))
    rcases List.mem_append.1 hr' with h' | h'
    · have s := Same.run h'
      have e : ∀ a, Same us a r'.f ↔ Same us a r'.t := fun a => ⟨fun h => h.trans s, fun h => h.trans s.symm⟩
      simp only [e]
    · simp at h'; subst h'
      constructor
      · rintro (h1 | ⟨h1, h2⟩ | ⟨h1, h2⟩)
        · exact .inr (.inl ⟨h1, Same.refl _ _⟩)
        · exact .inl (h1.trans h2.symm)
        · exact .inl h1
      · rintro (h1 | ⟨h1, h2⟩ | ⟨h1, h2⟩)
        · exact .inr (.inr ⟨h1, Same.refl _ _⟩)
        · exact .inl h1
        · exact .inl (h1.trans h2.symm)
  · have hm : ∀ {a b : Int}, Same us a b → Same (us ++ [r]) a b := fun h => h.mono (fun x hx => List.mem_append_left _ hx)
    have hr : Same (us ++ [r]) r.f r.t := Same.run (by simp)
    rintro (h1 | ⟨h1, h2⟩ | ⟨h1, h2⟩)
    · exact hm h1
    · exact ((hm h1).trans hr).trans (hm h2)
    · exact ((hm h1).trans hr.symm).trans (hm h2)

structure Grp (N : Nat) (us : List Rn) (G : List Int) : Prop where
  len : G.length = N
  same : ∀ (i j : Nat) (x y : Int), G[i]? = some x → G[j]? = some y → (x = y ↔ Same us i j)
theorem iota_get {N i : Nat} {x : Int} (h : (iota N)[i]? = some x) : i < N ∧ x = i := by
  unfold iota at h
  rw [List.getElem?_map] at h
  obtain ⟨j, hj, rfl⟩ := Option.map_eq_some_iff.1 h
  have hl := (List.getElem?_eq_some_iff.1 hj).1
  simp at hl
  rw [List.getElem?_range hl] at hj
  cases hj
  exact ⟨hl, rfl⟩
theorem iota_nth {N i : Nat} (h : i < N) : (iota N)[i]? = some (i : Int) := by
  unfold iota
  simp [h]
theorem Grp.start (N : Nat) : Grp N [] (iota N) := ⟨iota_len N, fun i j x y hx hy => by
  obtain ⟨-, rfl⟩ := iota_get hx
  obtain ⟨-, rfl⟩ := iota_get hy
  exact Same.nil.symm⟩
/-- the first k numbers: those that are y become x -/
def reg (x y : Int) (k : Nat) (G : List Int) : List Int := (G.take k).map (fun z => if z = y then x else z) ++ G.drop k
theorem reg_len (x y : Int) (k : Nat) (G : List Int) : (reg x y k G).length = G.length := by
  unfold reg; simp; omega
theorem reg_zero (x y : Int) (G : List Int) : reg x y 0 G = G := by simp [reg]
theorem reg_all (x y : Int) (G : List Int) : reg x y G.length G = G.map (fun z => if z = y then x else z) := by simp [reg]
theorem reg_at {x y : Int} {k : Nat} {G : List Int} {z : Int} (h : G[k]? = some z) : (reg x y k G)[k]? = some z := by
  have hl := (List.getElem?_eq_some_iff.1 h).1
  unfold reg
  rw [List.getElem?_append_right (by simp; omega)]
  simp [show min k G.length = k by omega, h]
theorem reg_set {x y : Int} {k : Nat} {G : List Int} (h : G[k]? = some y) : (reg x y k G).set k x = reg x y (k + 1) G := by
  have hl := (List.getElem?_eq_some_iff.1 h).1
  unfold reg
  rw [List.set_append_right _ _ (by simp; omega), List.take_add_one, h]
  simp [show min k G.length = k by omega]
  rw [List.drop_eq_getElem_cons hl]; rfl
theorem reg_same {x y : Int} {k : Nat} {G : List Int} {z : Int} (h : G[k]? = some z) (hz : z ≠ y) : reg x y k G = reg x y (k + 1) G := by
  have hl := (List.getElem?_eq_some_iff.1 h).1
  have he := (List.getElem?_eq_some_iff.1 h).2
  unfold reg
  rw [List.take_add_one, h, List.drop_eq_getElem_cons hl, he]
  simp [hz]
theorem Grp.join {N : Nat} {us : List Rn} {G : List Int} {r : Rn} {a b : Nat} {x y : Int} (h : Grp N us G) (hf : r.f = a) (ht : r.t = b) (hx : G[a]? = some x) (hy : G[b]? = some y) : Grp N (us ++ [r]) (reg x y N G) := by
  have hl := h.len
  rw [← hl, reg_all]
  refine ⟨by simp, fun i j u v hu hv => ?_⟩
  rw [List.getElem?_map] at hu
  rw [List.getElem?_map] at hv
  obtain ⟨u', hu', rfl⟩ := Option.map_eq_some_iff.1 hu
  obtain ⟨v', hv', rfl⟩ := Option.map_eq_some_iff.1 hv
  rw [Same.more, hf, ht, ← h.same i j u' v' hu' hv', ← h.same i a u' x hu' hx, ← h.same b j y v' hy hv', ← h.same i b u' y hu' hy, ← h.same a j x v' hx hv']
  clear hu hv
  split <;> split <;> omega
/-- a run links two nodes that were not linked -/
theorem Grp.link {N : Nat} {us : List Rn} {G : List Int} {r : Rn} {a b : Nat} {x y : Int} (h : Grp N us G) (hf : r.f = a) (ht : r.t = b) (hx : G[a]? = some x) (hy : G[b]? = some y) : x = y ↔ lab N us r.f = lab N us r.t := by
  have ha := (List.getElem?_eq_some_iff.1 hx).1
  have hb := (List.getElem?_eq_some_iff.1 hy).1
  have hl := h.len
  rw [h.same a b x y hx hy, hf, ht]
  exact (lab_same (by omega) (by omega) (by omega) (by omega)).symm
theorem Free.whole {N : Nat} {us : List Rn} (hn : nOk N us = true) (hf : Free N us) (hl : us.length + 1 = N) : nWhole N us = true :=
  whole_iff.2 ⟨hn, by unfold Free at hf; omega⟩
theorem Free.not_whole {N : Nat} {us vs : List Rn} {r : Rn} (hok : EndsIn N (us ++ r :: vs)) (hl : (us ++ r :: vs).length + 1 = N) (he : lab N us r.f = lab N us r.t) : nWhole N (us ++ r :: vs) = false := by
  apply Bool.eq_false_iff.2
  intro hw
  have h1 := (whole_iff.1 hw).2
  have hf : Free N (us ++ r :: vs) := by unfold Free; omega
  have e : us ++ r :: vs = us ++ [r] ++ vs := by simp
  rw [e] at hf hok
  exact (hf.left hok).ne hok.left he
/-- a tree exactly if its runs link all -/
theorem isT_whole {N : Nat} {rs : List Rn} {T : List Int} (hn : nOk N rs = true) (hl : T.length + 1 = N) (ha : Asc rs.length T) : isT N rs T = nWhole N (sub rs T) := by
  apply Bool.eq_iff_iff.2
  rw [isT_true]
  exact ⟨fun h => h.whole, fun h => ⟨hn, by omega, ha, h⟩⟩
end Go.Proofs.YtoaomjchaihkaaaGreatDoor
namespace Go.Proofs.YtoaomjchaihkaaaGreatDoor
open Go.RowKit
set_option linter.unusedVariables false

theorem made_groups (w : World) (n : Nat) (hn : n ≤ 1048576) : (Instr.makeSlice 71 (.int .i64 (n : Int)) (.int .i64 (n : Int))).run Tryz.prog w = .ok (.slice (some ⟨w.heap.size, 0, none⟩) n n) (w.alloc (.cells (madeCells (Array.replicate 1 (.int .i64 0)) (n * 1)) 3)) := by
  obtain ⟨i, hi, hzz⟩ := Option.map_eq_some_iff.1 info_int
  simp only [Prod.mk.injEq] at hzz
  obtain ⟨hz, hs, hb⟩ := hzz
  have := run_make (P := Tryz.prog) w 71 3 i _ Tryz.underlying71 hi hz .i64 .i64 n n (by omega) (Int.le_refl _) (by rw [hb]; omega) (by omega)
  simp only [Int.toNat_natCast, hs] at this
  exact this

theorem fillI_iota (k : Nat) : fillI k (iota k) = iota k := by have := fillI_all (iota k); rwa [iota_len] at this
set_option maxHeartbeats 1000000 in
theorem iGroups (N : Nat) (w : World) (hN : N ≤ 6) :
    Calls Tryz.prog 40 #[.int .i64 N] w fun e w' => e = .returned (.slice (some ⟨w.heap.size, 0, none⟩) N N) ∧ Own w' w.heap.size 3 1 N N (iota N) ∧ Below w.heap.size w w' := by
  have hm := fun w => made_groups w N (by omega)
  have h0 : Own (w.alloc (.cells (madeCells (Array.replicate 1 (.int .i64 0)) (N * 1)) 3)) w.heap.size 3 1 N N (fillI 0 (iota N)) := by
    have := Own.made w 3 N 1 (by decide) (by unfold maxLen; omega)
    rw [fillI_zero, iota_len]; rw [Nat.mul_one] at this ⊢; exact this
  have H0 := Lib.hid h0
  clear h0
  go_enter Tryz.func40, Tryz.ntmps40
  go_wp2_with fail
  clear hm
  go_loopw [9] (fun i wr => ∃ k : Nat, k ≤ N ∧ i = .int .i64 k ∧ Own wr w.heap.size 3 1 N N (fillI k (iota N)) ∧ Below w.heap.size w wr) (fun i _ => N - (intOf i).toNat)
  case atStart => exact ⟨0, Nat.zero_le _, rfl, by simpa using H0.out, (by repeat (first | assumption | exact Below.refl _ _ | (refine below_chain ?_ (by assumption) (by first | omega | (simp <;> omega) | simp)) | (refine Below.alloc ?_ (by first | omega | (simp <;> omega) | simp) _) | (apply below_drewN) | (apply below_drew) | (refine Below.setCell ?_ (by first | omega | (simp <;> omega) | simp) _)))⟩
  case round =>
    clear H0
    obtain ⟨k, hk, rfl, how, hbr⟩ := hrel
    have hbs := hbr.size
    have HO := Lib.hid how
    by_cases hlt : k < N
    · have hf := how.frozen k
      have hlo := how.lt
      have hcx := how.cells (i := k) (z := ((fillI k (iota N))[k]?).getD 0) (by have := fillI_len k (iota N) (by rw [iota_len]; omega); rw [iota_len] at this; rw [List.getElem?_eq_getElem (by omega)]; rfl)
      have HR := Lib.hid (iota_nth hlt)
      clear how
      go_wp2_with fail
      go_roundw
      case rel => exact ⟨k + 1, by omega, by go_num, by rw [← fillI_set HR.out]; exact HO.out.set k k (by rw [fillI_len _ _ (by rw [iota_len]; omega), iota_len]; exact hlt), (by repeat (first | assumption | exact Below.refl _ _ | (refine below_chain ?_ (by assumption) (by first | omega | (simp <;> omega) | simp)) | (refine Below.alloc ?_ (by first | omega | (simp <;> omega) | simp) _) | (apply below_drewN) | (apply below_drew) | (refine Below.setCell ?_ (by first | omega | (simp <;> omega) | simp) _)))⟩
      case measure => simp [intOf]; omega
    · have e : k = N := by omega
      subst e
      clear how
      go_wp2_with fail
      go_ret
      exact ⟨rfl, by have := HO.out; rwa [fillI_iota] at this, (by repeat (first | assumption | exact Below.refl _ _ | (refine below_chain ?_ (by assumption) (by first | omega | (simp <;> omega) | simp)) | (refine Below.alloc ?_ (by first | omega | (simp <;> omega) | simp) _) | (apply below_drewN) | (apply below_drew) | (refine Below.setCell ?_ (by first | omega | (simp <;> omega) | simp) _)))⟩

theorem grew_below {w w' : World} {g : Nat} (h : Below w.heap.size w w') : w.grownBy w' (some g) := ⟨h.os, h.tape, h.output, h.size, fun k hk _ => h.block k hk⟩
theorem grew_trans {a b c : World} {g : Nat} (h : a.grownBy b (some g)) (k : b.grownBy c (some g)) : a.grownBy c (some g) := ⟨k.os.trans h.os, k.tape.trans h.tape, k.output.trans h.output, Nat.le_trans h.size k.size, fun i hi hn => (k.block i (Nat.lt_of_lt_of_le hi h.size) hn).trans (h.block i hi hn)⟩
theorem grew_set (w : World) (g o : Nat) (v : Value) : w.grownBy (w.setCell ⟨g, o, none⟩ v) (some g) := (grew.refl w g).set o v |>.1

set_option maxHeartbeats 1000000 in
theorem iJoin (N g a b : Nat) (s q x y : Int) (us : List Rn) (G : List Int) (ok : Bool) (w : World) (hN : N ≤ 6) (hG : Grp N us G) (ho : Own w g 3 1 N N G) (ha : G[a]? = some x) (hb : G[b]? = some y) (hk : (x != y) = ok) :
    Calls Tryz.prog 41 #[.slice (some ⟨g, 0, none⟩) N N, .agg #[.int .i64 a, .int .i64 b, .int .i64 s, .int .i64 q]] w fun e w' => e = .returned (.bool ok) ∧ ∃ G', Grp N (if ok = true then us ++ [⟨a, b, s, q⟩] else us) G' ∧ Own w' g 3 1 N N G' ∧ w.grownBy w' (some g) := by
  have hl := hG.len
  have haN : a < N := by have := (List.getElem?_eq_some_iff.1 ha).1; omega
  have hbN : b < N := by have := (List.getElem?_eq_some_iff.1 hb).1; omega
  have haN' : (a : Int) < (N : Int) := by omega
  have hbN' : (b : Int) < (N : Int) := by omega
  have c1 := ho.cells ha
  have c2 := ho.cells hb
  have hlo := ho.lt
  by_cases hxy : x = y
  · obtain rfl : ok = false := by rw [← hk]; simp [hxy]
    have hxy' : (x == y) = true := by simpa using hxy
    have H := Lib.hid (And.intro hG ho)
    clear hG ho ha hb hk hxy hl
    go_enter Tryz.func41, Tryz.ntmps41
    go_wp2_with fail
    (refine wp_region_grows (by kernel_rfl) (by kernel_rfl) ?_; intro W_wg hWc_wg hWs_wg hWe_wg; (repeat (go_big_quiet_step (fail))); with_reducible refine wpQuiet_nil ?_; clear hWe_wg hWs_wg hWc_wg W_wg; intro wg hb_wg; obtain ⟨hc_wg, hf_wg⟩ := bcell hb_wg; (try simp only [World.size_drew, World.cell?_drew, World.frozen?_drew, World.heap_drewN, World.cell?_drewN, World.frozen?_drewN] at hc_wg hf_wg); have hs_wg := hb_wg.size; (try simp at hs_wg))
    go_wp2_with fail
    go_ret
    exact ⟨rfl, G, H.out.1, (H.out.2.alloc _).below hb_wg, grew_below (by repeat (first | assumption | exact Below.refl _ _ | (refine below_chain ?_ (by assumption) (by first | omega | (simp <;> omega) | simp)) | (refine Below.alloc ?_ (by first | omega | (simp <;> omega) | simp) _) | (apply below_drewN) | (apply below_drew) | (refine Below.setCell ?_ (by first | omega | (simp <;> omega) | simp) _)))⟩
  · obtain rfl : ok = true := by rw [← hk]; simpa using hxy
    have hxy' : (x == y) = false := by simpa using hxy
    have H := Lib.hid (And.intro (hG.join (r := ⟨a, b, s, q⟩) rfl rfl ha hb) (And.intro ho hl))
    clear hG ho ha hb hk hxy hl
    go_enter Tryz.func41, Tryz.ntmps41
    go_wp2_with fail
    (refine wp_region_grows (by kernel_rfl) (by kernel_rfl) ?_; intro W_wg hWc_wg hWs_wg hWe_wg; (repeat (go_big_quiet_step (fail))); with_reducible refine wpQuiet_nil ?_; clear hWe_wg hWs_wg hWc_wg W_wg; intro wg hb_wg; obtain ⟨hc_wg, hf_wg⟩ := bcell hb_wg; (try simp only [World.size_drew, World.cell?_drew, World.frozen?_drew, World.heap_drewN, World.cell?_drewN, World.frozen?_drewN] at hc_wg hf_wg); have hs_wg := hb_wg.size; (try simp at hs_wg))
    go_wp2_with fail
    have H1 : Hid (Own wg g 3 1 N N (reg x y 0 G) ∧ w.grownBy wg (some g)) := Lib.hid ⟨by rw [reg_zero]; exact (H.out.2.1.alloc _).below hb_wg, grew_below (by repeat (first | assumption | exact Below.refl _ _ | (refine below_chain ?_ (by assumption) (by first | omega | (simp <;> omega) | simp)) | (refine Below.alloc ?_ (by first | omega | (simp <;> omega) | simp) _) | (apply below_drewN) | (apply below_drew) | (refine Below.setCell ?_ (by first | omega | (simp <;> omega) | simp) _)))⟩
    clear c1 c2 hxy' hb_wg hc_wg hf_wg
    go_loopw [24] (fun i wr => ∃ k : Nat, k ≤ N ∧ i = .int .i64 k ∧ Own wr g 3 1 N N (reg x y k G) ∧ w.grownBy wr (some g)) (fun i _ => N - (intOf i).toNat)
    case atStart => exact ⟨0, Nat.zero_le _, rfl, H1.out.1, H1.out.2⟩
    case round =>
      clear H1
      obtain ⟨k, hk, rfl, how, hgr⟩ := hrel
      have HO := Lib.hid (And.intro how hgr)
      by_cases hlt : k < N
      · obtain ⟨z, hz⟩ : ∃ z, G[k]? = some z := ⟨_, List.getElem?_eq_getElem (by have := H.out.2.2; omega)⟩
        have hf := how.frozen k
        have hlo := how.lt
        have hcx := how.cells (reg_at hz)
        by_cases hzy : z = y
        · subst hzy
          have HZ := Lib.hid hz
          clear how hgr hz
          go_wp2_with fail
          go_roundw
          case rel => exact ⟨k + 1, by omega, by go_num, by rw [← reg_set HZ.out]; exact HO.out.1.set k x (by rw [reg_len]; have := H.out.2.2; omega), grew_trans HO.out.2 (grew_set _ _ _ _)⟩
          case measure => simp [intOf]; omega
        · have hzy' : (z == y) = false := by simpa using hzy
          have HZ := Lib.hid (reg_same (x := x) hz hzy)
          clear how hgr hz hzy
          go_wp2_with fail
          go_roundw
          case rel => exact ⟨k + 1, by omega, by go_num, by rw [← HZ.out]; exact HO.out.1, HO.out.2⟩
          case measure => simp [intOf]; omega
      · have e : k = N := by omega
        subst e
        clear how hgr
        go_wp2_with fail
        go_ret
        exact ⟨rfl, _, H.out.1, HO.out.1, HO.out.2⟩

set_option maxHeartbeats 2000000 in
theorem iLinksAll (N m k : Nat) (p q : Option Addr) (c d : Nat) (rs : List Rn) (T : List Int) (b : Bool) (w : World) (h : Runs w p rs) (hq : Ints w q T) (hm : rs.length = m) (hk : T.length = k) (hn : nOk N rs = true) (ha : Asc m T) (hkN : k + 1 = N) (hb : nWhole N (sub rs T) = b) :
    Calls Tryz.prog 86 #[.int .i64 N, .slice p m c, .slice q k d] w fun e w' => e = .returned (.bool b) ∧ Below w.heap.size w w' := by
  obtain ⟨hn2, hn6, hl12, -⟩ := nOk_true hn
  have hok := nOk_ends hn
  have c1 := fun w => Lib.hid (iGroups N w (by omega))
  have hsub : EndsIn N (sub rs T) := by rw [← hm] at ha; exact ha.sub_ends hn
  have hsok : nOk N (sub rs T) = true := by rw [← hm] at ha; exact ha.sub_ok hn (by omega)
  have H := Lib.hid (And.intro h (And.intro hq (And.intro hm (And.intro hk (And.intro hn ha)))))
  have HB := Lib.hid (And.intro hb (And.intro hsub (And.intro hsok hok)))
  have hm12 : m ≤ 12 := by omega
  clear h hq hm hk hn ha hb hsub hsok hok hl12
  go_enter Tryz.func86, Tryz.ntmps86
  go_wp2_with (go_at_call 40; (with_reducible refine ((c1 _).out).mono ?_); rintro e wo ⟨rfl, ho, hb_wo⟩; have hs_wo := hb_wo.size; have HO0 := Lib.hid ho; clear ho)
  have hlo0 := HO0.out.lt
  have h0 : Hid (Own wo w.heap.size 3 1 N N (iota N) ∧ Below w.heap.size w wo) := Lib.hid ⟨HO0.out, hb_wo⟩
  clear c1 HO0 hb_wo
  go_loopw [14] (fun i wr => ∃ (j : Nat) (G : List Int), j ≤ k ∧ i = .int .i64 j ∧ Grp N (sub rs (T.take j)) G ∧ Free N (sub rs (T.take j)) ∧ Own wr w.heap.size 3 1 N N G ∧ Below w.heap.size w wr) (fun i _ => k - (intOf i).toNat)
  case atStart => exact ⟨0, _, Nat.zero_le _, rfl, Grp.start N, Free.nil N, h0.out.1, h0.out.2⟩
  case round =>
    clear h0 hlo0 hs_wo
    obtain ⟨j, G, hj, rfl, hG, hF, how, hbr⟩ := hrel
    have hbs := hbr.size
    by_cases hlt : j < k
    · obtain ⟨B, o, z, rfl, hz, hB, e0⟩ := (H.out.2.1.below hbr).at (i := j) (by have := H.out.2.2.2.1; omega)
      obtain ⟨z0, z1⟩ := H.out.2.2.2.2.2.rng z (List.mem_of_getElem? hz)
      obtain ⟨u, rfl⟩ : ∃ u : Nat, z = (u : Int) := ⟨z.toNat, by omega⟩
      have hum : u < m := by omega
      obtain ⟨D, o', r, rfl, hr, hD, x0, x1, x2, x3⟩ := (H.out.1.below hbr).at (i := u) (by have := H.out.2.2.1; omega)
      obtain ⟨q0, q1, q2, q3⟩ := HB.out.2.2.2 r (List.mem_of_getElem? hr)
      obtain ⟨rf, rt, rg, rw⟩ := r
      simp only at x0 x1 x2 x3 q0 q1 q2 q3
      obtain ⟨a, rfl⟩ : ∃ a : Nat, rf = (a : Int) := ⟨rf.toNat, by omega⟩
      obtain ⟨b', rfl⟩ : ∃ b : Nat, rt = (b : Int) := ⟨rt.toNat, by omega⟩
      obtain ⟨x, hx⟩ : ∃ x, G[a]? = some x := ⟨_, List.getElem?_eq_getElem (by have := hG.len; omega)⟩
      obtain ⟨y, hy⟩ : ∃ y, G[b']? = some y := ⟨_, List.getElem?_eq_getElem (by have := hG.len; omega)⟩
      obtain ⟨ok, hok⟩ : ∃ ok, (x != y) = ok := ⟨_, rfl⟩
      have cj := fun wz ho => Lib.hid (iJoin N w.heap.size a b' rg rw x y (sub rs (T.take j)) G ok wz (by omega) hG ho hx hy hok)
      have hlink := hG.link (r := ⟨a, b', rg, rw⟩) rfl rfl hx hy
      have hsn : sub rs (T.take (j + 1)) = sub rs (T.take j) ++ [⟨a, b', rg, rw⟩] := by
        rw [take_succ_of hz]; exact sub_snoc rs _ u hr
      have HJ := Lib.hid (And.intro hok (And.intro hlink (And.intro hsn (And.intro hz hr))))
      have HO := Lib.hid (And.intro how (And.intro hF hbr))
      clear hz hr hG hF how hx hy hok hlink hsn q0 q1 q2 q3 z0 z1
      cases ok
      · go_wp2_with (go_at_call 41; (with_reducible refine ((cj _ ?_).out).mono ?_); (focus (exact HO.out.1; done)); rintro e wj ⟨rfl, G', hG', ho', hgr⟩)
        go_ret
        refine ⟨ret_bool ?_, below_gr hbr hgr (Nat.le_refl _) hbs⟩
        rw [← HB.out.1]
        have e := split_at HJ.out.2.2.2.1
        have e2 : sub rs T = sub rs (T.take j) ++ ⟨a, b', rg, rw⟩ :: sub rs (T.drop (j + 1)) := by
          conv => lhs; rw [e, ← List.singleton_append, ← List.append_assoc, sub_append]
          rw [sub_snoc rs _ u HJ.out.2.2.2.2]; simp
        have hE := HB.out.2.1
        have hlk := HJ.out.2.1.1 (by simpa using HJ.out.1)
        have hle : (sub rs T).length + 1 = N := by rw [sub_len]; have := H.out.2.2.2.1; omega
        rw [e2] at hE hle ⊢
        exact (Free.not_whole hE hle hlk).symm
      · go_wp2_with (go_at_call 41; (with_reducible refine ((cj _ ?_).out).mono ?_); (focus (exact HO.out.1; done)); rintro e wj ⟨rfl, G', hG', ho', hgr⟩)
        go_roundw
        case rel =>
          refine ⟨j + 1, G', by omega, by go_num, by rw [HJ.out.2.2.1]; simpa using hG', ?_, ho', below_gr HO.out.2.2 hgr (Nat.le_refl _) hbs⟩
          rw [HJ.out.2.2.1]
          refine Free.snoc ?_ HO.out.2.1 (fun e => by have := HJ.out.2.1.2 e; have := HJ.out.1; simp at this; contradiction)
          rw [← HJ.out.2.2.1]
          exact HB.out.2.1.sub (fun r hr => by
            obtain ⟨y, hy, rfl⟩ := mem_subOf.1 hr
            exact mem_subOf.2 ⟨y, List.mem_of_mem_take hy, rfl⟩)
        case measure => simp [intOf]; omega
    · have e : j = k := by omega
      subst e
      have hb' : nWhole N (sub rs T) = true := by
        rw [List.take_of_length_le (by have := H.out.2.2.2.1; omega)] at hF
        exact Free.whole HB.out.2.2.1 hF (by rw [sub_len]; have := H.out.2.2.2.1; omega)
      clear hG hF how
      go_wp2_with fail
      go_ret
      exact ⟨ret_bool (hb'.symm.trans HB.out.1), hbr⟩
end Go.Proofs.YtoaomjchaihkaaaGreatDoor
namespace Go.Proofs.YtoaomjchaihkaaaGreatDoor
open Go.RowKit
set_option linter.unusedVariables false

theorem iValid_n {n : Int} {p : Option Addr} {c m : Nat} {rs : List Rn} {b : Bool} (w : World) (hm : rs.length = m) (h : Runs w p rs) (hl : m ≤ 4000000000000000000) (hb : nOk n rs = b) :
    Calls Tryz.prog 52 #[.int .i64 n, .slice p m c] w fun e w' => e = .returned (.bool b) ∧ Below w.heap.size w w' := by
  subst hm; exact iValid n p c rs b w h hl hb
theorem iWhole_n {n : Int} {p : Option Addr} {c m : Nat} {rs : List Rn} {b : Bool} (w : World) (hm : rs.length = m) (h : Runs w p rs) (hl : m ≤ 4000000000000000000) (hb : nWhole n rs = b) :
    Calls Tryz.prog 39 #[.int .i64 n, .slice p m c] w fun e w' => e = .returned (.bool b) ∧ Below w.heap.size w w' := by
  subst hm; exact iWhole n p c rs b w h hl hb
theorem up_step {T : List Int} {j : Nat} {x y : Int} (h : (T.take (j + 1)).Pairwise (· < ·)) (hx : T[j]? = some x) (hy : T[j + 1]? = some y) (hlt : x < y) : (T.take (j + 1 + 1)).Pairwise (· < ·) := by
  rw [take_succ_of hy]
  refine List.pairwise_append.2 ⟨h, by simp, fun a ha b hb => ?_⟩
  simp at hb; subst hb
  rw [take_succ_of hx] at h ha
  rcases List.mem_append.1 ha with ha | ha
  · have := (List.pairwise_append.1 h).2.2 a ha x (by simp)
    omega
  · simp at ha; subst ha; exact hlt
theorem up_no {T : List Int} {j : Nat} {x y : Int} (hx : T[j]? = some x) (hy : T[j + 1]? = some y) (h : y ≤ x) : ¬ T.Pairwise (· < ·) := fun hp => by
  rw [List.pairwise_iff_getElem] at hp
  obtain ⟨hl1, e1⟩ := List.getElem?_eq_some_iff.1 hx
  obtain ⟨hl2, e2⟩ := List.getElem?_eq_some_iff.1 hy
  have := hp j (j + 1) hl1 hl2 (by omega)
  rw [e1, e2] at this; omega

set_option maxHeartbeats 1000000 in
theorem iAsc (q : Option Addr) (d k : Nat) (T : List Int) (b : Bool) (w : World) (hq : Ints w q T) (hk : T.length = k) (hl : k ≤ 4000000000000000000) (hb : b = true ↔ T.Pairwise (· < ·)) :
    Calls Tryz.prog 85 #[.slice q k d] w fun e w' => e = .returned (.bool b) ∧ Below w.heap.size w w' := by
  have H := Lib.hid (And.intro hq (And.intro hk hb))
  clear hq hk hb
  go_enter Tryz.func85, Tryz.ntmps85
  go_wp2_with fail
  go_loopw [3] (fun i wr => ∃ j : Nat, (j + 1 ≤ k ∨ j = 0) ∧ i = .int .i64 ((j : Int) + 1) ∧ (T.take (j + 1)).Pairwise (· < ·) ∧ Below w.heap.size w wr) (fun i _ => k + 1 - (intOf i).toNat)
  case atStart => exact ⟨0, .inr rfl, rfl, by cases T <;> simp, Below.refl _ _⟩
  case round =>
    obtain ⟨j, hj, rfl, hup, hbr⟩ := hrel
    have hbs := hbr.size
    by_cases hlt : j + 1 < k
    · have hlt' : (j : Int) + 1 < (k : Int) := by omega
      have hj2 : (j : Int) + 1 - 1 = (j : Int) := by omega
      obtain ⟨B, o, x, rfl, hx, hB, e0⟩ := (H.out.1.below hbr).at (i := j) (by have := H.out.2.1; omega)
      obtain ⟨B', o', y, e1, hy, -, e2⟩ := (H.out.1.below hbr).at (i := j + 1) (by have := H.out.2.1; omega)
      simp only [Option.some.injEq, Addr.mk.injEq, and_true] at e1
      obtain ⟨rfl, rfl⟩ := e1
      obtain ⟨u, hu⟩ : ∃ u : Nat, u = j + 1 := ⟨_, rfl⟩
      have hu' : (j : Int) + 1 = (u : Int) := by omega
      have hul : (u : Int) < (k : Int) := by omega
      have hu1 : (u : Int) - 1 = (j : Int) := by omega
      rw [← hu] at e2
      have HU := Lib.hid hu
      clear hu
      by_cases hxy : y ≤ x
      · have HX : Hid (false = b) := Lib.hid (by
          rw [eq_comm, Bool.eq_false_iff]; exact fun hbt => up_no hx hy hxy (H.out.2.2.1 hbt))
        clear hx hy hup
        rw [hu']
        clear hu'
        go_wp2_with fail
        (refine wp_region_grows (by kernel_rfl) (by kernel_rfl) ?_; intro W_wg hWc_wg hWs_wg hWe_wg; (repeat (go_big_quiet_step (fail))); with_reducible refine wpQuiet_nil ?_; clear hWe_wg hWs_wg hWc_wg W_wg; intro wg hb_wg; obtain ⟨hc_wg, hf_wg⟩ := bcell hb_wg; (try simp only [World.size_drew, World.cell?_drew, World.frozen?_drew, World.heap_drewN, World.cell?_drewN, World.frozen?_drewN] at hc_wg hf_wg); have hs_wg := hb_wg.size; (try simp at hs_wg))
        go_wp2_with fail
        go_ret
        exact ⟨ret_bool HX.out, hbr.trans (hb_wg.mono hbs)⟩
      · have hxy' : x < y := by omega
        have HX := Lib.hid (up_step hup hx hy hxy')
        clear hx hy hup
        rw [hu']
        clear hu'
        go_wp2_with fail
        (refine wp_region_grows (by kernel_rfl) (by kernel_rfl) ?_; intro W_wg hWc_wg hWs_wg hWe_wg; (repeat (go_big_quiet_step (fail))); with_reducible refine wpQuiet_nil ?_; clear hWe_wg hWs_wg hWc_wg W_wg; intro wg hb_wg; obtain ⟨hc_wg, hf_wg⟩ := bcell hb_wg; (try simp only [World.size_drew, World.cell?_drew, World.frozen?_drew, World.heap_drewN, World.cell?_drewN, World.frozen?_drewN] at hc_wg hf_wg); have hs_wg := hb_wg.size; (try simp at hs_wg))
        go_wp2_with fail
        go_roundw
        case rel => exact ⟨j + 1, by omega, by have := HU.out; subst this; go_num, HX.out, hbr.trans (hb_wg.mono hbs)⟩
        case measure => simp [intOf]; omega
    · have hno : ¬ ((j : Int) + 1 < (k : Int)) := by omega
      have HX : Hid (true = b) := Lib.hid (by
        rw [eq_comm, H.out.2.2]; rw [List.take_of_length_le (by have := H.out.2.1; omega)] at hup; exact hup)
      clear hup
      go_wp2_with fail
      go_ret
      exact ⟨ret_bool HX.out, hbr⟩

theorem asc_ends {m k : Nat} {T : List Int} {x y : Int} (hk : T.length = k + 1) (hup : T.Pairwise (· < ·)) (hx : T[0]? = some x) (hy : T[k]? = some y) : Asc m T ↔ (0 ≤ x ∧ x < (m : Int)) ∧ (0 ≤ y ∧ y < (m : Int)) := by
  constructor
  · intro h; exact ⟨h.rng x (List.mem_of_getElem? hx), h.rng y (List.mem_of_getElem? hy)⟩
  · rintro ⟨⟨x0, -⟩, -, y1⟩
    refine ⟨fun z hz => ?_, hup⟩
    obtain ⟨i, hi⟩ := List.getElem?_of_mem hz
    rw [List.pairwise_iff_getElem] at hup
    obtain ⟨hl, e⟩ := List.getElem?_eq_some_iff.1 hi
    obtain ⟨hl0, e0⟩ := List.getElem?_eq_some_iff.1 hx
    obtain ⟨hlk, ek⟩ := List.getElem?_eq_some_iff.1 hy
    have a : x ≤ z := by
      by_cases h : i = 0
      · subst h; rw [hx] at hi; cases hi; exact Int.le_refl _
      · have := hup 0 i hl0 hl (by omega); rw [e0, e] at this; omega
    have b : z ≤ y := by
      by_cases h : i = k
      · subst h; rw [hy] at hi; cases hi; exact Int.le_refl _
      · have := hup i k hl hlk (by omega); rw [e, ek] at this; omega
    omega

set_option maxHeartbeats 4000000 in
theorem iTreeIs_at (n : Int) (m k : Nat) (p q : Option Addr) (c d : Nat) (rs : List Rn) (T : List Int) (b : Bool) (w : World) (h : Runs w p rs) (hq : Ints w q T) (hm : rs.length = m) (hk : T.length = k) (hl : m ≤ 4000000000000000000) (hl2 : k ≤ 4000000000000000000) (hb : isT n rs T = b) :
    Calls Tryz.prog 42 #[.int .i64 n, .slice p m c, .slice q k d] w fun e w' => e = .returned (.bool b) ∧ Below w.heap.size w w' := by
  obtain ⟨v, hv⟩ : ∃ v, nOk n rs = v := ⟨_, rfl⟩
  have c1 := fun w h => Lib.hid (iValid_n (p := p) (c := c) w hm h hl hv)
  have H := Lib.hid (And.intro h (And.intro hq (And.intro hm hk)))
  cases v
  · obtain rfl : b = false := by rw [← hb]; exact isT_false.2 (fun ht => by rw [ht.ok] at hv; cases hv)
    clear h hq hm hk hb hv
    go_enter Tryz.func42, Tryz.ntmps42
    go_wp2_with ((go_at_call 52; (with_reducible refine ((c1 _ ?_).out).mono ?_); (focus ((exact H.out.1); done)); rintro e wa ⟨rfl, hb_wa⟩; have hs_wa := hb_wa.size; (try simp at hs_wa)))
    go_ret
    exact ⟨rfl, (by repeat (first | assumption | exact Below.refl _ _ | (refine below_chain ?_ (by assumption) (by first | omega | (simp <;> omega) | simp)) | (refine Below.alloc ?_ (by first | omega | (simp <;> omega) | simp) _) | (apply below_drewN) | (apply below_drew) | (refine Below.setCell ?_ (by first | omega | (simp <;> omega) | simp) _)))⟩
  · obtain ⟨hn2, hn6, hl12, -⟩ := nOk_true hv
    have hm12 : m ≤ 12 := by omega
    obtain ⟨N, rfl⟩ : ∃ N : Nat, n = (N : Int) := ⟨n.toNat, by omega⟩
    by_cases hkN : (k : Int) = (N : Int) - 1
    · have hkn : ((k : Int) != (N : Int) - 1) = false := by simpa using hkN
      obtain ⟨u, huN⟩ : ∃ u, u + 2 = N := ⟨N - 2, by omega⟩
      have huk : u + 1 = k := by omega
      obtain ⟨a, ha⟩ : ∃ a : Bool, (a = true ↔ T.Pairwise (· < ·)) := ⟨open Classical in decide (T.Pairwise (· < ·)), by simp⟩
      have c2 := fun w hq => Lib.hid (iAsc q d k T a w hq hk hl2 ha)
      cases a
      · obtain rfl : b = false := by rw [← hb]; exact isT_false.2 (fun ht => by have := ha.2 ht.asc.up; cases this)
        clear h hq hm hk hb hv ha hl12 hkN huk huN
        go_enter Tryz.func42, Tryz.ntmps42
        go_wp2_with (first | (go_at_call 52; (with_reducible refine ((c1 _ ?_).out).mono ?_); (focus ((exact H.out.1); done)); rintro e wa ⟨rfl, hb_wa⟩; have hs_wa := hb_wa.size; (try simp at hs_wa)) | (go_at_call 85; (with_reducible refine ((c2 _ ?_).out).mono ?_); (focus ((exact H.out.2.1.below hb_wa); done)); rintro e wb ⟨rfl, hb_wb⟩; have hs_wb := hb_wb.size; (try simp at hs_wb)))
        go_ret
        exact ⟨rfl, (by repeat (first | assumption | exact Below.refl _ _ | (refine below_chain ?_ (by assumption) (by first | omega | (simp <;> omega) | simp)) | (refine Below.alloc ?_ (by first | omega | (simp <;> omega) | simp) _) | (apply below_drewN) | (apply below_drew) | (refine Below.setCell ?_ (by first | omega | (simp <;> omega) | simp) _)))⟩
      · have hup := ha.1 rfl
        obtain ⟨B, o, x, rfl, hx, hB, e0⟩ := hq.at (i := 0) (by omega)
        obtain ⟨B', o', y, e1, hy, -, e2⟩ := hq.at (i := u) (by omega)
        simp only [Option.some.injEq, Addr.mk.injEq, and_true] at e1
        obtain ⟨rfl, rfl⟩ := e1
        have hae := asc_ends (m := m) (hk.trans huk.symm) hup hx hy
        have hu2 : (N : Int) - 2 = (u : Int) := by omega
        have hk0 : (0 : Int) < (k : Int) := by omega
        have huk' : (u : Int) < (k : Int) := by omega
        rw [Nat.add_zero] at e0
        by_cases h1 : 0 ≤ x ∧ x < (m : Int)
        · have c3 := fun w => Lib.hid (nHasRun p m c x true w (by simpa using h1))
          by_cases h2 : 0 ≤ y ∧ y < (m : Int)
          · have c4 := fun w => Lib.hid (nHasRun p m c y true w (by simpa using h2))
            have hasc : Asc m T := hae.2 ⟨h1, h2⟩
            have hwb : nWhole (N : Int) (sub rs T) = b := by rw [← hb]; exact (isT_whole hv (by omega) (by rw [hm]; exact hasc)).symm
            have c5 := fun w h hq => Lib.hid (iLinksAll N m k p (some ⟨B, o, none⟩) c d rs T b w h hq hm hk hv hasc (by omega) hwb)
            clear h hq hm hk hb hv ha hup hx hy hae h1 h2 hasc hwb hl12 hkN huk huN
            go_enter Tryz.func42, Tryz.ntmps42
            go_wp2_with (first | (go_at_call 52; (with_reducible refine ((c1 _ ?_).out).mono ?_); (focus ((exact H.out.1); done)); rintro e wa ⟨rfl, hb_wa⟩; have hs_wa := hb_wa.size; (try simp at hs_wa)) | ((go_at_call 85; (with_reducible refine ((c2 _ ?_).out).mono ?_); (focus ((exact H.out.2.1.below hb_wa); done)); rintro e wb ⟨rfl, hb_wb⟩; have hs_wb := hb_wb.size; (try simp at hs_wb)); have y0 := ((hb_wa.trans (hb_wb.mono hs_wa)).cell (p := ⟨B, o, none⟩) hB).trans e0; have y1 := ((hb_wa.trans (hb_wb.mono hs_wa)).cell (p := ⟨B, o + u, none⟩) hB).trans e2; have hBb : B < wb.heap.size := by omega) | (go_at_call 48; (with_reducible refine ((c3 _).out).mono ?_); rintro e w' ⟨rfl, rfl⟩) | (go_at_call 48; (with_reducible refine ((c4 _).out).mono ?_); rintro e w' ⟨rfl, rfl⟩) | (go_at_call 86; (with_reducible refine ((c5 _ ?_ ?_).out).mono ?_); (focus ((exact H.out.1.below (by repeat (first | assumption | exact Below.refl _ _ | (refine below_chain ?_ (by assumption) (by first | omega | (simp <;> omega) | simp)) | (refine Below.alloc ?_ (by first | omega | (simp <;> omega) | simp) _) | (apply below_drewN) | (apply below_drew) | (refine Below.setCell ?_ (by first | omega | (simp <;> omega) | simp) _)))); done)); (focus ((exact H.out.2.1.below (by repeat (first | assumption | exact Below.refl _ _ | (refine below_chain ?_ (by assumption) (by first | omega | (simp <;> omega) | simp)) | (refine Below.alloc ?_ (by first | omega | (simp <;> omega) | simp) _) | (apply below_drewN) | (apply below_drew) | (refine Below.setCell ?_ (by first | omega | (simp <;> omega) | simp) _)))); done)); rintro e wl ⟨rfl, hb_wl⟩; have hs_wl := hb_wl.size; (try simp at hs_wl)))
            go_ret
            exact ⟨rfl, (by repeat (first | assumption | exact Below.refl _ _ | (refine below_chain ?_ (by assumption) (by first | omega | (simp <;> omega) | simp)) | (refine Below.alloc ?_ (by first | omega | (simp <;> omega) | simp) _) | (apply below_drewN) | (apply below_drew) | (refine Below.setCell ?_ (by first | omega | (simp <;> omega) | simp) _)))⟩
          · have c4 := fun w => Lib.hid (nHasRun p m c y false w (by simpa using h2))
            obtain rfl : b = false := by rw [← hb]; exact isT_false.2 (fun ht => h2 ((asc_ends (hk.trans huk.symm) hup hx hy).1 (by have := ht.asc; rw [hm] at this; exact this)).2)
            clear h hq hm hk hb hv ha hup hx hy hae h1 h2 hl12 hkN huk huN
            go_enter Tryz.func42, Tryz.ntmps42
            go_wp2_with (first | (go_at_call 52; (with_reducible refine ((c1 _ ?_).out).mono ?_); (focus ((exact H.out.1); done)); rintro e wa ⟨rfl, hb_wa⟩; have hs_wa := hb_wa.size; (try simp at hs_wa)) | ((go_at_call 85; (with_reducible refine ((c2 _ ?_).out).mono ?_); (focus ((exact H.out.2.1.below hb_wa); done)); rintro e wb ⟨rfl, hb_wb⟩; have hs_wb := hb_wb.size; (try simp at hs_wb)); have y0 := ((hb_wa.trans (hb_wb.mono hs_wa)).cell (p := ⟨B, o, none⟩) hB).trans e0; have y1 := ((hb_wa.trans (hb_wb.mono hs_wa)).cell (p := ⟨B, o + u, none⟩) hB).trans e2; have hBb : B < wb.heap.size := by omega) | (go_at_call 48; (with_reducible refine ((c3 _).out).mono ?_); rintro e w' ⟨rfl, rfl⟩) | (go_at_call 48; (with_reducible refine ((c4 _).out).mono ?_); rintro e w' ⟨rfl, rfl⟩))
            go_ret
            exact ⟨rfl, (by repeat (first | assumption | exact Below.refl _ _ | (refine below_chain ?_ (by assumption) (by first | omega | (simp <;> omega) | simp)) | (refine Below.alloc ?_ (by first | omega | (simp <;> omega) | simp) _) | (apply below_drewN) | (apply below_drew) | (refine Below.setCell ?_ (by first | omega | (simp <;> omega) | simp) _)))⟩
        · have c3 := fun w => Lib.hid (nHasRun p m c x false w (by simpa using h1))
          obtain rfl : b = false := by rw [← hb]; exact isT_false.2 (fun ht => h1 ((asc_ends (hk.trans huk.symm) hup hx hy).1 (by have := ht.asc; rw [hm] at this; exact this)).1)
          clear h hq hm hk hb hv ha hup hx hy hae h1 hl12 hkN huk huN
          go_enter Tryz.func42, Tryz.ntmps42
          go_wp2_with (first | (go_at_call 52; (with_reducible refine ((c1 _ ?_).out).mono ?_); (focus ((exact H.out.1); done)); rintro e wa ⟨rfl, hb_wa⟩; have hs_wa := hb_wa.size; (try simp at hs_wa)) | ((go_at_call 85; (with_reducible refine ((c2 _ ?_).out).mono ?_); (focus ((exact H.out.2.1.below hb_wa); done)); rintro e wb ⟨rfl, hb_wb⟩; have hs_wb := hb_wb.size; (try simp at hs_wb)); have y0 := ((hb_wa.trans (hb_wb.mono hs_wa)).cell (p := ⟨B, o, none⟩) hB).trans e0; have hBb : B < wb.heap.size := by omega) | (go_at_call 48; (with_reducible refine ((c3 _).out).mono ?_); rintro e w' ⟨rfl, rfl⟩))
          go_ret
          exact ⟨rfl, (by repeat (first | assumption | exact Below.refl _ _ | (refine below_chain ?_ (by assumption) (by first | omega | (simp <;> omega) | simp)) | (refine Below.alloc ?_ (by first | omega | (simp <;> omega) | simp) _) | (apply below_drewN) | (apply below_drew) | (refine Below.setCell ?_ (by first | omega | (simp <;> omega) | simp) _)))⟩
    · have hkn : ((k : Int) != (N : Int) - 1) = true := by simpa using hkN
      obtain rfl : b = false := by rw [← hb]; exact isT_false.2 (fun ht => by have := ht.len; omega)
      clear h hq hm hk hb hv hkN hl12
      go_enter Tryz.func42, Tryz.ntmps42
      go_wp2_with ((go_at_call 52; (with_reducible refine ((c1 _ ?_).out).mono ?_); (focus ((exact H.out.1); done)); rintro e wa ⟨rfl, hb_wa⟩; have hs_wa := hb_wa.size; (try simp at hs_wa)))
      go_ret
      exact ⟨rfl, (by repeat (first | assumption | exact Below.refl _ _ | (refine below_chain ?_ (by assumption) (by first | omega | (simp <;> omega) | simp)) | (refine Below.alloc ?_ (by first | omega | (simp <;> omega) | simp) _) | (apply below_drewN) | (apply below_drew) | (refine Below.setCell ?_ (by first | omega | (simp <;> omega) | simp) _)))⟩
end Go.Proofs.YtoaomjchaihkaaaGreatDoor
namespace Go.Proofs.YtoaomjchaihkaaaGreatDoor
open Go.RowKit
set_option linter.unusedVariables false

/-- the list begun: none yet, or in a block of its own behind b -/
def Begun (w : World) (b : Nat) (T : List Int) (v : Value) : Prop :=
  (T = [] ∧ v = .slice none 0 0) ∨ ∃ g cap k : Nat, v = .slice (some ⟨g, 0, none⟩) k cap ∧ T.length = k ∧ b < g ∧ Own w g 3 1 k cap T

set_option maxHeartbeats 4000000 in
theorem iFirst_yes (N m : Nat) (p : Option Addr) (c : Nat) (rs : List Rn) (w : World) (h : Runs w p rs) (hm : rs.length = m) (hw : nWhole N rs = true) :
    Calls Tryz.prog 10 #[.int .i64 N, .slice p m c] w fun e w' => ∃ (g cap k : Nat), e = .returned (.tuple #[.slice (some ⟨g, 0, none⟩) k cap, .bool true]) ∧ (firstT N rs rs.length).length = k ∧ w.heap.size ≤ g ∧ Own w' g 3 1 k cap (firstT N rs rs.length) ∧ Below w.heap.size w w' := by
  have hn : nOk N rs = true := (whole_iff.1 hw).1
  obtain ⟨hn2, hn6, hl12, -⟩ := nOk_true hn
  have hok : Hid (EndsIn N rs) := Lib.hid (nOk_ends hn)
  have hm12 : m ≤ 12 := by omega
  have HW := Lib.hid hw
  have H := Lib.hid (And.intro h (And.intro hm hn))
  have c1 := fun w h => Lib.hid (iWhole_n (p := p) (c := c) w hm h (by omega) hw)
  have c2 := fun w => Lib.hid (iGroups N w (by omega))
  clear h hm hw hn hl12
  go_enter Tryz.func10, Tryz.ntmps10
  go_wp2_with (first | (go_at_call 39; (with_reducible refine ((c1 _ ?_).out).mono ?_); (focus ((exact H.out.1.below (by repeat (first | assumption | exact Below.refl _ _ | (refine below_chain ?_ (by assumption) (by first | omega | (simp <;> omega) | simp)) | (refine Below.alloc ?_ (by first | omega | (simp <;> omega) | simp) _) | (apply below_drewN) | (apply below_drew) | (refine Below.setCell ?_ (by first | omega | (simp <;> omega) | simp) _)))); done)); rintro e wa ⟨rfl, hb_wa⟩; have hs_wa := hb_wa.size; (try simp at hs_wa)) | (go_at_call 40; (with_reducible refine ((c2 _).out).mono ?_); rintro e wo ⟨rfl, ho, hb_wo⟩; have hs_wo := hb_wo.size; have HO0 := Lib.hid ho; clear ho))
  have hB : Below w.heap.size w wo := (by repeat (first | assumption | exact Below.refl _ _ | (refine below_chain ?_ (by assumption) (by first | omega | (simp <;> omega) | simp)) | (refine Below.alloc ?_ (by first | omega | (simp <;> omega) | simp) _) | (apply below_drewN) | (apply below_drew) | (refine Below.setCell ?_ (by first | omega | (simp <;> omega) | simp) _)))
  have h0 : Hid (Own wo wa.heap.size 3 1 N N (iota N) ∧ Below w.heap.size w wo) := Lib.hid ⟨HO0.out, hB⟩
  clear c1 c2 HO0 hb_wa hb_wo hs_wo hB
  go_loopw [7, 18] (fun v i wr => ∃ (j : Nat) (T G : List Int), j ≤ m ∧ i = .int .i64 j ∧ Begun wr wa.heap.size T v ∧ firstT N rs j = T ∧ Grp N (sub rs T) G ∧ Own wr wa.heap.size 3 1 N N G ∧ Below w.heap.size w wr) (fun _ i _ => m - (intOf i).toNat)
  case atStart => exact ⟨0, [], _, Nat.zero_le _, rfl, .inl ⟨rfl, rfl⟩, rfl, Grp.start N, h0.out.1, h0.out.2⟩
  case round =>
    clear h0
    obtain ⟨j, T, G, hj, rfl, hv, hTf, hG, how, hbr⟩ := hrel
    have hF : First N rs j T := by rw [← hTf]; exact firstT_is hok.out j (by have := H.out.2.1; omega)
    have hbs := hbr.size
    have hlo := how.lt
    have hT6 : T.length ≤ 6 := by have := hF.cnt; omega
    by_cases hlt : j < m
    · obtain ⟨D, o, r, rfl, hr, hD, x0, x1, x2, x3⟩ := (H.out.1.below hbr).at (i := j) (by have := H.out.2.1; omega)
      obtain ⟨q0, q1, q2, q3⟩ := hok.out r (List.mem_of_getElem? hr)
      obtain ⟨rf, rt, rg, rw⟩ := r
      simp only at x0 x1 x2 x3 q0 q1 q2 q3
      obtain ⟨a, rfl⟩ : ∃ a : Nat, rf = (a : Int) := ⟨rf.toNat, by omega⟩
      obtain ⟨b, rfl⟩ : ∃ b : Nat, rt = (b : Int) := ⟨rt.toNat, by omega⟩
      obtain ⟨x, hx⟩ : ∃ x, G[a]? = some x := ⟨_, List.getElem?_eq_getElem (by have := hG.len; omega)⟩
      obtain ⟨y, hy⟩ : ∃ y, G[b]? = some y := ⟨_, List.getElem?_eq_getElem (by have := hG.len; omega)⟩
      obtain ⟨ok, hok'⟩ : ∃ ok, (x != y) = ok := ⟨_, rfl⟩
      have cj := fun wz ho => Lib.hid (iJoin N wa.heap.size a b rg rw x y (sub rs T) G ok wz (by omega) hG ho hx hy hok')
      have hlink := hG.link (r := ⟨a, b, rg, rw⟩) rfl rfl hx hy
      have hs := sub_snoc rs T j hr
      have hnext : firstT N rs (j + 1) = if ok = true then T ++ [(j : Int)] else T := by
        cases ok
        · rw [firstT_skip hr (by rw [hTf]; exact hlink.1 (by simpa using hok'))]; exact hTf
        · rw [firstT_take hr (by rw [hTf]; intro e; have := hlink.2 e; subst this; simp at hok'), hTf]; rfl
      have HJ := Lib.hid (And.intro hs (And.intro hnext hTf))
      have HO := Lib.hid (And.intro how hbr)
      have hDs : D < wr.heap.size := hD
      clear hr hF hTf hG how hx hy hok' hlink hs hnext q0 q1 q2 q3
      rcases hv with ⟨rfl, rfl⟩ | ⟨g, cap, k, rfl, hTk, hgb, hot⟩
      · cases ok
        · go_wp2_with (go_at_call 41; (with_reducible refine ((cj _ ?_).out).mono ?_); (focus (exact HO.out.1.alloc _; done)); rintro e wj ⟨rfl, G', hG', ho', hgr⟩; have HN := Lib.hid (And.intro hG' (And.intro ho' hgr)); clear hG' ho' hgr)
          go_roundw
          case rel =>
            obtain ⟨hG', ho', hgr⟩ := HN.out
            exact ⟨j + 1, [], G', by omega, by go_num, .inl ⟨rfl, rfl⟩, by rw [HJ.out.2.1]; rfl, by simpa using hG', ho', below_gr (hbr.alloc hbs _) hgr hs_wa (by simp; omega)⟩
          case measure => simp [intOf]; omega
        · go_wp2_with (first | (go_at_call 41; (with_reducible refine ((cj _ ?_).out).mono ?_); (focus (exact HO.out.1.alloc _; done)); rintro e wj ⟨rfl, G', hG', ho', hgr⟩; have hs_wj := hgr.size; (try simp at hs_wj); have hlj := ho'.lt; have HN := Lib.hid (And.intro hG' (And.intro ho' hgr)); clear hG' ho' hgr) | (at_builtin; refine wp_append_nil _ rfl _ _ 30 rfl 3 _ 1 8 Tryz.underlying30 info_int rfl (by decide) (by decide) rfl _ _ _ [(j : Int)] rfl (by decide) rfl (one_cell _ _ _) (by omega) ?_; intro cap' w' hown hbe hlt; have HA := Lib.hid (And.intro hown (And.intro hbe hlt)); clear hown hbe hlt))
          go_roundw
          case rel =>
            obtain ⟨hG', ho', hgr⟩ := HN.out
            obtain ⟨hown, hbe, hlt⟩ := HA.out
            have hb1 := below_gr (hbr.alloc hbs (.cells #[.int .i64 a, .int .i64 b, .int .i64 rg, .int .i64 rw] 42)) hgr hs_wa (by simp; omega)
            have hb2 := hb1.alloc (by have := hb1.size; omega) (.cells #[.int .i64 j] 3)
            refine ⟨j + 1, [(j : Int)], G', by omega, by go_num, .inr ⟨_, cap', 1, rfl, rfl, ?_, by simpa using hown⟩, by rw [HJ.out.2.1]; rfl, by have := HJ.out.1; rw [List.nil_append] at this; rw [this]; simpa using hG', (ho'.alloc _).below hbe, hb2.trans (hbe.mono (by simp; have := hb1.size; omega))⟩
            omega
          case measure => simp [intOf]; omega
      · have hgw := hot.lt
        have hk6 : k ≤ 6 := by omega
        have HT := Lib.hid (And.intro hot hTk)
        clear hot hTk
        cases ok
        · go_wp2_with (go_at_call 41; (with_reducible refine ((cj _ ?_).out).mono ?_); (focus (exact HO.out.1.alloc _; done)); rintro e wj ⟨rfl, G', hG', ho', hgr⟩; have HN := Lib.hid (And.intro hG' (And.intro ho' hgr)); clear hG' ho' hgr)
          go_roundw
          case rel =>
            obtain ⟨hG', ho', hgr⟩ := HN.out
            exact ⟨j + 1, T, G', by omega, by go_num, .inr ⟨g, cap, k, rfl, HT.out.2, hgb, (HT.out.1.alloc _).grown hgr (by omega)⟩, by rw [HJ.out.2.1]; rfl, by simpa using hG', ho', below_gr (hbr.alloc hbs _) hgr hs_wa (by simp; omega)⟩
          case measure => simp [intOf]; omega
        · go_wp2_with (first | (go_at_call 41; (with_reducible refine ((cj _ ?_).out).mono ?_); (focus (exact HO.out.1.alloc _; done)); rintro e wj ⟨rfl, G', hG', ho', hgr⟩; have hs_wj := hgr.size; (try simp at hs_wj); have hlj := ho'.lt; have HT2 := Lib.hid ((HT.out.1.alloc _).grown hgr (by omega)); have HN := Lib.hid (And.intro hG' (And.intro ho' hgr)); clear hG' ho' hgr) | (at_builtin; refine wp_append _ rfl _ _ 30 rfl 3 _ 1 8 Tryz.underlying30 info_int rfl (by decide) (by decide) _ k cap T rfl (HT2.out.alloc _) _ _ _ [(j : Int)] rfl rfl (one_cell _ _ _) (by omega) ?_; intro g' cap' w' hown hgr2 hloc hsz; have HA := Lib.hid (And.intro hown (And.intro hgr2 hloc)); clear hown hgr2 hloc))
          go_roundw
          case rel =>
            obtain ⟨hG', ho', hgr⟩ := HN.out
            obtain ⟨hown, hgr2, hloc⟩ := HA.out
            have hb1 := below_gr (hbr.alloc hbs (.cells #[.int .i64 a, .int .i64 b, .int .i64 rg, .int .i64 rw] 42)) hgr hs_wa (by simp; omega)
            have hb2 := hb1.alloc (by have := hb1.size; omega) (.cells #[.int .i64 j] 3)
            have hg' : wa.heap.size < g' := by
              rcases hloc with rfl | rfl
              · exact hgb
              · simp; omega
            exact ⟨j + 1, T ++ [(j : Int)], G', by omega, by go_num, .inr ⟨g', cap', k + 1, rfl, by simp [HT.out.2], hg', hown⟩, by rw [HJ.out.2.1]; rfl, by rw [HJ.out.1]; simpa using hG', (ho'.alloc _).grown hgr2 (by omega), below_gr hb2 hgr2 (by omega) (by simp; have := hb1.size; omega)⟩
          case measure => simp [intOf]; omega
    · have e : j = m := by omega
      subst e
      have htree := first_tree HW.out
      have hlen := htree.len
      rw [H.out.2.1, hTf] at hlen
      rcases hv with ⟨rfl, rfl⟩ | ⟨g, cap, k, rfl, hTk, hgb, hot⟩
      · simp at hlen; omega
      · have HT := Lib.hid (And.intro hot (And.intro hTk hTf))
        clear how hF hTf hG hot hTk htree hlen
        go_wp2_with fail
        exact bodyPost_ret (v := .tuple #[.slice (some ⟨g, 0, none⟩) k cap, .bool true]) (by simp [results, Tryz.results10, go_sem]) rfl ⟨g, cap, k, rfl, by rw [H.out.2.1, HT.out.2.2]; exact HT.out.2.1, by omega, by rw [H.out.2.1, HT.out.2.2]; exact HT.out.1, hbr⟩

set_option maxHeartbeats 1000000 in
theorem iFirst_no (n : Int) (m : Nat) (p : Option Addr) (c : Nat) (rs : List Rn) (w : World) (h : Runs w p rs) (hm : rs.length = m) (hl : m ≤ 4000000000000000000) (hw : nWhole n rs = false) :
    Calls Tryz.prog 10 #[.int .i64 n, .slice p m c] w fun e w' => e = .returned (.tuple #[.slice none 0 0, .bool false]) ∧ Below w.heap.size w w' := by
  have H := Lib.hid h
  have c1 := fun w h => Lib.hid (iWhole_n (p := p) (c := c) w hm h hl hw)
  clear h hw
  go_enter Tryz.func10, Tryz.ntmps10
  go_wp2_with ((go_at_call 39; (with_reducible refine ((c1 _ ?_).out).mono ?_); (focus ((exact H.out.below (by repeat (first | assumption | exact Below.refl _ _ | (refine below_chain ?_ (by assumption) (by first | omega | (simp <;> omega) | simp)) | (refine Below.alloc ?_ (by first | omega | (simp <;> omega) | simp) _) | (apply below_drewN) | (apply below_drew) | (refine Below.setCell ?_ (by first | omega | (simp <;> omega) | simp) _)))); done)); rintro e wa ⟨rfl, hb_wa⟩; have hs_wa := hb_wa.size; (try simp at hs_wa)))
  exact bodyPost_ret (v := .tuple #[.slice none 0 0, .bool false]) (by simp [results, Tryz.results10, go_sem]) rfl ⟨rfl, (by repeat (first | assumption | exact Below.refl _ _ | (refine below_chain ?_ (by assumption) (by first | omega | (simp <;> omega) | simp)) | (refine Below.alloc ?_ (by first | omega | (simp <;> omega) | simp) _) | (apply below_drewN) | (apply below_drew) | (refine Below.setCell ?_ (by first | omega | (simp <;> omega) | simp) _)))⟩
end Go.Proofs.YtoaomjchaihkaaaGreatDoor
namespace Go.Proofs.YtoaomjchaihkaaaGreatDoor
open Go.RowKit
set_option linter.unusedVariables false

theorem set_same {α : Type} {l : List α} {i : Nat} {x : α} (h : l[i]? = some x) : l.set i x = l := by
  obtain ⟨hl, e⟩ := List.getElem?_eq_some_iff.1 h
  rw [← e]; exact List.set_getElem_self hl
section
variable {N : Nat} {us : List Rn} {P : Int → Int} {t k : Nat} {ks : List Bool} {L : List Int} {r : Rn}
theorem Known.full (h : Known N us P t 0 ks L) (ht : t + 1 = N) : Known N us P N 0 ks L := ⟨h.len, h.lenL, h.zero, h.pot, h.low, .inl (by rcases h.go with g | g | ⟨g, -⟩ <;> omega)⟩
theorem Known.self (h : Known N us P t k ks L) {y : Nat} {z : Int} (hy : ks[y]? = some true) (hz : z = P y) : ks.set y true = ks ∧ L.set y z = L := by
  refine ⟨set_same hy, ?_⟩
  have hl := (List.getElem?_eq_some_iff.1 hy).1
  rw [h.len] at hl
  have := htAt_get (L := L) (x := (y : Int)) (by omega) (by rw [h.lenL]; omega)
  rw [Int.toNat_natCast, h.pot y hy, ← hz] at this
  exact set_same this
/-- the end of a run from its beginning, and the other way, whatever is known of it -/
theorem Known.forth (h : Known N us P t k ks L) (hr : us[k]? = some r) {a b : Nat} {bb : Bool} (ha : r.f = a) (hb : r.t = b) (hP : P b - P a = r.s) (hs : -100000 ≤ r.s ∧ r.s ≤ 100000) (hka : ks[a]? = some true) (hkb : ks[b]? = some bb) :
    Known N us P t (k + 1) (ks.set b true) (L.set b (htAt L a + r.s)) := by
  have hz : htAt L a + r.s = P b := by rw [h.pot a hka]; omega
  cases bb
  · exact h.more (x := a) hka hkb hz (by omega)
  · obtain ⟨e1, e2⟩ := h.self hkb hz
    rw [e1, e2]
    exact h.same hr (by rw [ha, hb, Int.toNat_natCast, Int.toNat_natCast, hka, hkb])
theorem Known.back (h : Known N us P t k ks L) (hr : us[k]? = some r) {a b : Nat} {ba : Bool} (ha : r.f = a) (hb : r.t = b) (hP : P b - P a = r.s) (hs : -100000 ≤ r.s ∧ r.s ≤ 100000) (hka : ks[a]? = some ba) (hkb : ks[b]? = some true) :
    Known N us P t (k + 1) (ks.set a true) (L.set a (htAt L b + -r.s)) := by
  have hz : htAt L b + -r.s = P a := by rw [h.pot b hkb]; omega
  cases ba
  · exact h.more (x := b) hkb hka hz (by omega)
  · obtain ⟨e1, e2⟩ := h.self hka hz
    rw [e1, e2]
    exact h.same hr (by rw [ha, hb, Int.toNat_natCast, Int.toNat_natCast, hka, hkb])
end

set_option maxHeartbeats 8000000 in
set_option maxRecDepth 100000 in
theorem iTreeHeights_yes (N m K : Nat) (p q : Option Addr) (c d : Nat) (rs : List Rn) (T : List Int) (w : World) (h : Runs w p rs) (hq : Ints w q T) (hm : rs.length = m) (hk : T.length = K) (ht : IsTree N rs T) :
    Calls Tryz.prog 11 #[.int .i64 N, .slice p m c, .slice q K d] w fun e w' => ∃ (L : List Int) (g : Nat), e = .returned (.tuple #[.slice (some ⟨g, 0, none⟩) N N, .bool true]) ∧ IsHt N (sub rs T) L ∧ w.heap.size ≤ g ∧ Own w' g 3 1 N N L ∧ Below w.heap.size w w' := by
  have hn := ht.ok
  obtain ⟨hn2, hn6, hl12, hall⟩ := nOk_true hn
  have hN6 : N ≤ 6 := by omega
  have hKN : K + 1 = N := by have := ht.len; omega
  obtain ⟨P, hP0, hPr⟩ := pot_zero ht.ends ht.rk
  have hm12 : m ≤ 12 := by omega
  have c1 := fun w h hq => Lib.hid (iTreeIs_at N m K p q c d rs T true w h hq hm hk (by omega) (by omega) (isT_true.2 ht))
  have HP := Lib.hid (And.intro hP0 (And.intro hPr ht))
  have H := Lib.hid (And.intro h (And.intro hq (And.intro hm (And.intro hk hall))))
  have hmi := fun w => made_ints w N (by omega)
  have hmb := fun w => made_bools w N (by omega)
  have HO0 := fun w => Lib.hid (Own.made w 3 N 1 (by decide) (by unfold maxLen; omega))
  have HF0 := fun w => Lib.hid (Bools.made w N)
  have hlN : (0 : Int) < (N : Int) := by omega
  clear h hq hm hk hn hall hl12 hP0 hPr ht
  go_enter Tryz.func11, Tryz.ntmps11
  go_upto_region 5 with ((go_at_call 42; (with_reducible refine ((c1 _ ?_ ?_).out).mono ?_); (focus ((exact H.out.1); done)); (focus ((exact H.out.2.1); done)); rintro e wa ⟨rfl, hb_wa⟩; have hs_wa := hb_wa.size; (try simp at hs_wa)))
  refine gen_world (fun W => Own W wa.heap.size 3 1 N N (List.replicate (N * 1) 0) ∧ Bools W (wa.heap.size + 1) (List.replicate N false) ∧ Below w.heap.size w W) ?_ (fun w1 h1 => ?_)
  · have hF1 := (HF0 (wa.alloc (.cells (madeCells #[.int .i64 0] N) 3))).out
    have hO1 : Own (wa.alloc (.cells (madeCells #[.int .i64 0] N) 3)) wa.heap.size 3 1 N N (List.replicate (N * 1) 0) := by simpa using (HO0 wa).out
    exact ⟨hO1.alloc _, by simpa using hF1, (by repeat (first | assumption | exact Below.refl _ _ | (refine below_chain ?_ (by assumption) (by first | omega | (simp <;> omega) | simp)) | (refine Below.alloc ?_ (by first | omega | (simp <;> omega) | simp) _) | (apply below_drewN) | (apply below_drew) | (refine Below.setCell ?_ (by first | omega | (simp <;> omega) | simp) _)))⟩
  obtain ⟨ho1, hf1, hb1⟩ := h1
  have hb0 := hf1.cell (i := 0) (b := false) (by simp [List.getElem?_replicate]; omega)
  have hz0 := hf1.frozen 0
  have HS := Lib.hid (And.intro ho1 (And.intro hf1 hb1))
  clear hmi hmb HF0 HO0 ho1 hf1 hb1 c1
  go_wp2_with fail
  refine gen_world (fun W => Own W wa.heap.size 3 1 N N (List.replicate (N * 1) 0) ∧ Bools W (wa.heap.size + 1) ((List.replicate N false).set 0 true) ∧ Below w.heap.size w W) ⟨HS.out.1.setOther (a := ⟨wa.heap.size + 1, 0, none⟩) (by simp) _, HS.out.2.1.set 0 true, HS.out.2.2.setCell (p := ⟨wa.heap.size + 1, 0, none⟩) (by simp; omega) _⟩ (fun w0 h0 => ?_)
  clear HS hb0 hz0 hb_wa
  go_loopw [26] (fun i wr => ∃ (t : Nat) (ks : List Bool) (L : List Int), t ≤ K ∧ i = .int .i64 t ∧ Known N (sub rs T) P t 0 ks L ∧ Own wr wa.heap.size 3 1 N N L ∧ Bools wr (wa.heap.size + 1) ks ∧ Below w.heap.size w wr) (fun i _ => K - (intOf i).toNat)
  case atStart => obtain ⟨a1, a2, a3⟩ := h0; exact ⟨0, _, _, Nat.zero_le _, rfl, Known.start (by omega) HP.out.1, by rw [Nat.mul_one] at a1; exact a1, a2, a3⟩
  case round =>
    clear h0
    obtain ⟨t, ks, L, ht, rfl, hkn, how, hfl, hbr⟩ := hrel
    have HK := Lib.hid hkn
    clear hkn
    have HO := Lib.hid (And.intro how (And.intro hfl hbr))
    clear how hfl hbr
    by_cases hlt : t < K
    · go_wp2_with fail
      go_loopw [30] (fun i wr => ∃ (k : Nat) (ks : List Bool) (L : List Int), k ≤ K ∧ i = .int .i64 k ∧ Known N (sub rs T) P t k ks L ∧ Own wr wa.heap.size 3 1 N N L ∧ Bools wr (wa.heap.size + 1) ks ∧ Below w.heap.size w wr) (fun i _ => K - (intOf i).toNat)
      case atStart => exact ⟨0, ks, L, Nat.zero_le _, rfl, HK.out, HO.out.1, HO.out.2.1, HO.out.2.2⟩
      case round =>
        clear HO HK
        rename World => wq
        obtain ⟨k, ks, L, hk, rfl, hkn, how, hfl, hbr⟩ := hrel
        have hbs := hbr.size
        have hlf := hfl.lt
        have hlh := how.lt
        by_cases hlt2 : k < K
        · obtain ⟨B, ob, z, rfl, hz, hB, y0⟩ := (H.out.2.1.below hbr).at (i := k) (by have := H.out.2.2.2.1; omega)
          obtain ⟨z0, z1⟩ := HP.out.2.2.asc.rng z (List.mem_of_getElem? hz)
          obtain ⟨u, rfl⟩ : ∃ u : Nat, z = (u : Int) := ⟨z.toNat, by omega⟩
          have hum : u < m := by have := H.out.2.2.1; omega
          have hum' : (u : Int) < (m : Int) := by omega
          obtain ⟨D, o, r, rfl, hr, hD, x0, x1, x2, x3⟩ := (H.out.1.below hbr).at (i := u) (by have := H.out.2.2.1; omega)
          obtain ⟨q0, q1, q2, q3, q4, q5, q6, -⟩ := rOk_true (H.out.2.2.2.2 u r hr)
          have hus : (sub rs T)[k]? = some r := by rw [sub_get hz]; unfold runOf; simp [hr]
          have hPr := HP.out.2.1 r (List.mem_of_getElem? hus)
          obtain ⟨a, ha⟩ : ∃ a : Nat, r.f = (a : Int) := ⟨r.f.toNat, by omega⟩
          obtain ⟨b, hb⟩ : ∃ b : Nat, r.t = (b : Int) := ⟨r.t.toNat, by omega⟩
          have haN : a < N := by omega
          have hbN : b < N := by omega
          have haN' : (a : Int) < (N : Int) := by omega
          have hbN' : (b : Int) < (N : Int) := by omega
          have hab : ¬ a = b := by omega
          have hba : ¬ b = a := by omega
          have hLl := how.len
          have v1 := how.cells (htAt_get (L := L) (x := (a : Int)) (by omega) (by omega))
          have v2 := how.cells (htAt_get (L := L) (x := (b : Int)) (by omega) (by omega))
          rw [Int.toNat_natCast] at v1 v2
          obtain ⟨ba, g1⟩ : ∃ x, ks[a]? = some x := ⟨_, List.getElem?_eq_getElem (by have := hkn.len; omega)⟩
          obtain ⟨bb, g2⟩ : ∃ x, ks[b]? = some x := ⟨_, List.getElem?_eq_getElem (by have := hkn.len; omega)⟩
          have k1 := hfl.cell g1
          have k2 := hfl.cell g2
          have f1 := hfl.frozen a
          have f2 := hfl.frozen b
          have f3 := how.frozen a
          have f4 := how.frozen b
          have HV1 : ba = true → -600000 ≤ htAt L (a : Int) ∧ htAt L (a : Int) ≤ 600000 := fun e => hkn.bound hN6 (by omega) (by rw [Int.toNat_natCast, g1, e])
          have HV2 : bb = true → -600000 ≤ htAt L (b : Int) ∧ htAt L (b : Int) ≤ 600000 := fun e => hkn.bound hN6 (by omega) (by rw [Int.toNat_natCast, g2, e])
          have HO := Lib.hid (And.intro how (And.intro hfl hbr))
          have HR1 : Hid (bb = true → Known N (sub rs T) P t (k + 1) (ks.set a true) (L.set a (htAt L b + -r.s))) := Lib.hid (fun e => hkn.back hus ha hb (by rw [← ha, ← hb]; exact hPr) ⟨q5, q6⟩ g1 (by rw [g2, e]))
          have HR2 : Hid (ba = true → Known N (sub rs T) P t (k + 1) (ks.set b true) (L.set b (htAt L a + r.s))) := Lib.hid (fun e => hkn.forth hus ha hb (by rw [← ha, ← hb]; exact hPr) ⟨q5, q6⟩ (by rw [g1, e]) g2)
          have HR3 : Hid (ba = bb → Known N (sub rs T) P t (k + 1) ks L) := Lib.hid (fun e => hkn.same hus (by rw [ha, hb, Int.toNat_natCast, Int.toNat_natCast, g1, g2, e]))
          have hks := hkn.len
          obtain ⟨rf, rt, rg, rw⟩ := r
          simp only at ha hb x0 x1 x2 x3 q5 q6 HR1 HR2
          subst ha hb
          clear how hfl hbr hr q0 q1 q2 q3 q4 hkn g1 g2 hz z0 z1 hus hPr
          cases bb
          · cases ba
            · go_wp2_with fail
              go_roundw
              case rel => exact ⟨k + 1, ks, L, by omega, by go_num, HR3.out rfl, HO.out.1.alloc _, HO.out.2.1.alloc _, HO.out.2.2.alloc hbs _⟩
              case measure => simp [intOf]; omega
            · go_upto_region 15 with fail
              refine gen_world (fun W => (Own W wa.heap.size 3 1 N N L ∧ Bools W (wa.heap.size + 1) ks ∧ Below w.heap.size w W) ∧ (W.cell? ⟨wq.heap.size, 0, none⟩ = some (.int .i64 a) ∧ W.cell? ⟨wq.heap.size, 1, none⟩ = some (.int .i64 b) ∧ W.cell? ⟨wq.heap.size, 2, none⟩ = some (.int .i64 (rg)) ∧ wq.heap.size < W.heap.size)) ?_ (fun w5 h5 => ?_)
              · exact ⟨⟨HO.out.1.alloc _, HO.out.2.1.alloc _, HO.out.2.2.alloc hbs _⟩, by simp [*, go_sem], by simp [*, go_sem], by simp [*, go_sem], by simp⟩
              obtain ⟨⟨o5, l5, b5⟩, ⟨u0, u1, u2, hX⟩⟩ := h5
              obtain ⟨hv0, hv1⟩ := HV1 (by trivial)
              have hLl := o5.len
              have y1 := o5.cells (htAt_get (L := L) (x := (a : Int)) (by omega) (by omega))
              have y2 := o5.cells (htAt_get (L := L) (x := (b : Int)) (by omega) (by omega))
              rw [Int.toNat_natCast] at y1 y2
              have hlo5 := o5.lt
              have hlf5 := l5.lt
              have hbs5 := b5.size
              have O5 := Lib.hid (And.intro o5 (And.intro l5 (And.intro b5 hLl)))
              clear o5 l5 b5 hLl v1 v2 k1 k2 f1 f2 f3 f4 x0 x1 x2 x3 HO
              (refine wp_region_grows_tail 12 (by kernel_rfl) (by kernel_rfl) ?_; simp only [List.take_succ_cons, List.take_zero, List.drop_succ_cons, List.drop_zero]; intro W_wg hWc_wg hWs_wg hWe_wg; (repeat (go_big_quiet_step (fail))); with_reducible refine wpQuiet_nil ?_; clear hWe_wg hWs_wg hWc_wg W_wg; intro wg hb_wg; obtain ⟨hc_wg, hf_wg⟩ := bcell hb_wg; (try simp only [World.size_drew, World.cell?_drew, World.frozen?_drew, World.heap_drewN, World.cell?_drewN, World.frozen?_drewN] at hc_wg hf_wg); have hs_wg := hb_wg.size; (try simp at hs_wg))
              have og := O5.out.1.below hb_wg
              have lg := O5.out.2.1.below hb_wg
              have fg := og.frozen b
              have fg2 := lg.frozen b
              obtain ⟨bk, hbk⟩ : ∃ bk, ks[b]? = some bk := ⟨_, List.getElem?_eq_getElem (by have := hks; omega)⟩
              have kc := lg.cell hbk
              have hlg := og.lt
              have z1 : wg.cell? ⟨wa.heap.size, a, none⟩ = _ := (hc_wg _ a hlo5).trans y1
              have z2 : wg.cell? ⟨wa.heap.size, b, none⟩ = _ := (hc_wg _ b hlo5).trans y2
              have t0 : wg.cell? ⟨wq.heap.size, 0, none⟩ = _ := (hc_wg _ 0 hX).trans u0
              have t1 : wg.cell? ⟨wq.heap.size, 1, none⟩ = _ := (hc_wg _ 1 hX).trans u1
              have t2 : wg.cell? ⟨wq.heap.size, 2, none⟩ = _ := (hc_wg _ 2 hX).trans u2
              have hnX : ¬ wq.heap.size = wa.heap.size := by omega
              have OG := Lib.hid (And.intro og lg)
              clear og lg hc_wg hf_wg y1 y2 u0 u1 u2 hbk
              go_wp2_with fail
              go_roundw
              case rel => exact ⟨k + 1, ks.set b true, L.set b (htAt L (a : Int) + rg), by omega, by go_num, HR2.out (by trivial), (OG.out.1.set b _ (by have := O5.out.2.2.2; omega)).setOther (by simp) _, (OG.out.2.setOther (by simp) _).set b true, ((O5.out.2.2.1.trans (hb_wg.mono hbs5)).setCell (by simp; omega) _).setCell (by simp; omega) _⟩
              case measure => simp [intOf]; omega
          · go_upto_region 15 with ((go_at_call 43; (with_reducible refine (turned_is _ _ _ _ _ q5 q6).mono ?_); rintro e wt ⟨rfl, hb_wt⟩; have hs_wt := hb_wt.size; (try simp at hs_wt)); obtain ⟨hcn, hfn⟩ := bcell hb_wt)
            refine gen_world (fun W => (Own W wa.heap.size 3 1 N N L ∧ Bools W (wa.heap.size + 1) ks ∧ Below w.heap.size w W) ∧ (W.cell? ⟨wq.heap.size, 0, none⟩ = some (.int .i64 b) ∧ W.cell? ⟨wq.heap.size, 1, none⟩ = some (.int .i64 a) ∧ W.cell? ⟨wq.heap.size, 2, none⟩ = some (.int .i64 (-rg)) ∧ wq.heap.size < W.heap.size)) ?_ (fun w5 h5 => ?_)
            · exact ⟨⟨((((((HO.out.1.alloc _).below hb_wt).setOther (a := ⟨wq.heap.size, 0, none⟩) (by simp; omega) _).setOther (a := ⟨wq.heap.size, 1, none⟩) (by simp; omega) _).setOther (a := ⟨wq.heap.size, 2, none⟩) (by simp; omega) _).setOther (a := ⟨wq.heap.size, 3, none⟩) (by simp; omega) _), ((((((HO.out.2.1.alloc _).below hb_wt).setOther (a := ⟨wq.heap.size, 0, none⟩) (by simp; omega) _).setOther (a := ⟨wq.heap.size, 1, none⟩) (by simp; omega) _).setOther (a := ⟨wq.heap.size, 2, none⟩) (by simp; omega) _).setOther (a := ⟨wq.heap.size, 3, none⟩) (by simp; omega) _), ((((((HO.out.2.2.alloc hbs _).trans (hb_wt.mono (by simp; omega))).setCell (p := ⟨wq.heap.size, 0, none⟩) (by simp; omega) _).setCell (p := ⟨wq.heap.size, 1, none⟩) (by simp; omega) _).setCell (p := ⟨wq.heap.size, 2, none⟩) (by simp; omega) _).setCell (p := ⟨wq.heap.size, 3, none⟩) (by simp; omega) _)⟩, by simp [*, go_sem], by simp [*, go_sem], by simp [*, go_sem], by simp; omega⟩
            clear hb_wt hcn hfn hs_wt
            obtain ⟨⟨o5, l5, b5⟩, ⟨u0, u1, u2, hX⟩⟩ := h5
            obtain ⟨hv0, hv1⟩ := HV2 (by trivial)
            have hLl := o5.len
            have y1 := o5.cells (htAt_get (L := L) (x := (b : Int)) (by omega) (by omega))
            have y2 := o5.cells (htAt_get (L := L) (x := (a : Int)) (by omega) (by omega))
            rw [Int.toNat_natCast] at y1 y2
            have hlo5 := o5.lt
            have hlf5 := l5.lt
            have hbs5 := b5.size
            have O5 := Lib.hid (And.intro o5 (And.intro l5 (And.intro b5 hLl)))
            clear o5 l5 b5 hLl v1 v2 k1 k2 f1 f2 f3 f4 x0 x1 x2 x3 HO
            (refine wp_region_grows_tail 12 (by kernel_rfl) (by kernel_rfl) ?_; simp only [List.take_succ_cons, List.take_zero, List.drop_succ_cons, List.drop_zero]; intro W_wg hWc_wg hWs_wg hWe_wg; (repeat (go_big_quiet_step (fail))); with_reducible refine wpQuiet_nil ?_; clear hWe_wg hWs_wg hWc_wg W_wg; intro wg hb_wg; obtain ⟨hc_wg, hf_wg⟩ := bcell hb_wg; (try simp only [World.size_drew, World.cell?_drew, World.frozen?_drew, World.heap_drewN, World.cell?_drewN, World.frozen?_drewN] at hc_wg hf_wg); have hs_wg := hb_wg.size; (try simp at hs_wg))
            have og := O5.out.1.below hb_wg
            have lg := O5.out.2.1.below hb_wg
            have fg := og.frozen a
            have fg2 := lg.frozen a
            obtain ⟨bk, hbk⟩ : ∃ bk, ks[a]? = some bk := ⟨_, List.getElem?_eq_getElem (by have := hks; omega)⟩
            have kc := lg.cell hbk
            have hlg := og.lt
            have z1 : wg.cell? ⟨wa.heap.size, b, none⟩ = _ := (hc_wg _ b hlo5).trans y1
            have z2 : wg.cell? ⟨wa.heap.size, a, none⟩ = _ := (hc_wg _ a hlo5).trans y2
            have t0 : wg.cell? ⟨wq.heap.size, 0, none⟩ = _ := (hc_wg _ 0 hX).trans u0
            have t1 : wg.cell? ⟨wq.heap.size, 1, none⟩ = _ := (hc_wg _ 1 hX).trans u1
            have t2 : wg.cell? ⟨wq.heap.size, 2, none⟩ = _ := (hc_wg _ 2 hX).trans u2
            have hnX : ¬ wq.heap.size = wa.heap.size := by omega
            have OG := Lib.hid (And.intro og lg)
            clear og lg hc_wg hf_wg y1 y2 u0 u1 u2 hbk
            go_wp2_with fail
            go_roundw
            case rel => exact ⟨k + 1, ks.set a true, L.set a (htAt L (b : Int) + -rg), by omega, by go_num, HR1.out (by trivial), (OG.out.1.set a _ (by have := O5.out.2.2.2; omega)).setOther (by simp) _, (OG.out.2.setOther (by simp) _).set a true, ((O5.out.2.2.1.trans (hb_wg.mono hbs5)).setCell (by simp; omega) _).setCell (by simp; omega) _⟩
            case measure => simp [intOf]; omega
        · have e : k = K := by omega
          subst e
          have HO := Lib.hid (And.intro how (And.intro hfl hbr))
          have HK : Hid (Known N (sub rs T) P t (sub rs T).length ks L) := Lib.hid (by rw [sub_len, H.out.2.2.2.1]; exact hkn)
          clear how hfl hbr hkn
          go_wp2_with fail
          go_roundw
          case rel => exact ⟨t + 1, ks, L, by omega, by go_num, HK.out.next (by omega) HP.out.2.2.ends (fun i hi => whole_same HP.out.2.2.whole hi), HO.out.1, HO.out.2.1, HO.out.2.2⟩
          case measure => simp [intOf]; omega
    · have e : t = K := by omega
      subst e
      go_wp2_with fail
      exact bodyPost_ret (v := .tuple #[.slice (some ⟨wa.heap.size, 0, none⟩) N N, .bool true]) (by simp [results, Tryz.results11, go_sem]) rfl ⟨L, wa.heap.size, rfl, (HK.out.full hKN).done (by omega) HP.out.2.2.ends HP.out.1 HP.out.2.1, hs_wa, HO.out.1, HO.out.2.2⟩

set_option maxHeartbeats 1000000 in
theorem iTreeHeights_no (n : Int) (m k : Nat) (p q : Option Addr) (c d : Nat) (rs : List Rn) (T : List Int) (w : World) (h : Runs w p rs) (hq : Ints w q T) (hm : rs.length = m) (hk : T.length = k) (hl : m ≤ 4000000000000000000) (hl2 : k ≤ 4000000000000000000) (ht : isT n rs T = false) :
    Calls Tryz.prog 11 #[.int .i64 n, .slice p m c, .slice q k d] w fun e w' => e = .returned (.tuple #[.slice none 0 0, .bool false]) ∧ Below w.heap.size w w' := by
  have c1 := fun w h hq => Lib.hid (iTreeIs_at n m k p q c d rs T false w h hq hm hk hl hl2 ht)
  have H := Lib.hid (And.intro h hq)
  clear h hq hm hk ht
  go_enter Tryz.func11, Tryz.ntmps11
  go_wp2_with ((go_at_call 42; (with_reducible refine ((c1 _ ?_ ?_).out).mono ?_); (focus ((exact H.out.1); done)); (focus ((exact H.out.2); done)); rintro e wa ⟨rfl, hb_wa⟩; have hs_wa := hb_wa.size; (try simp at hs_wa)))
  exact bodyPost_ret (v := .tuple #[.slice none 0 0, .bool false]) (by simp [results, Tryz.results11, go_sem]) rfl ⟨rfl, (by repeat (first | assumption | exact Below.refl _ _ | (refine below_chain ?_ (by assumption) (by first | omega | (simp <;> omega) | simp)) | (refine Below.alloc ?_ (by first | omega | (simp <;> omega) | simp) _) | (apply below_drewN) | (apply below_drew) | (refine Below.setCell ?_ (by first | omega | (simp <;> omega) | simp) _)))⟩
end Go.Proofs.YtoaomjchaihkaaaGreatDoor
