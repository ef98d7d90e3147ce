/-
  What the reference model's labels of linked nodes are.
-/
import Derived.Test.YtimghdffmdcheaaNLab
import Derived.Test.YtimghdffmdcheaaApp
import Derived.Test.YtimghdffmdcheaaNl
import Derived.Deep.Draws
namespace Go.Proofs.Ytimghdffmdcheaa
open Go.RowKit
set_option linter.unusedVariables false

noncomputable def labs (n : Int) (rs : List Rn) : List Int := open Classical in if h : ∃ L, IsLab n rs L then Classical.choose h else []
theorem labs_eq {n : Int} {rs : List Rn} {L : List Int} (h : IsLab n rs L) : L = labs n rs := by
  have hex : ∃ L, IsLab n rs L := ⟨L, h⟩
  unfold labs
  rw [dif_pos hex]
  exact h.unique (Classical.choose_spec hex)
theorem labs_le {N : Nat} {rs : List Rn} : (labs N rs).length ≤ N := by
  by_cases h : ∃ L, IsLab N rs L
  · obtain ⟨L, hL⟩ := h
    rw [← labs_eq hL]
    have := hL.len
    omega
  · unfold labs; rw [dif_neg h]; simp
/-- the answer of a call that makes a new list of integers -/
def NewInts (w : World) (zs : List Int) (v : Value) (w' : World) : Prop :=
  ∃ g cap, v = .slice (some ⟨g, 0, none⟩) zs.length cap ∧ w.heap.size ≤ g ∧ Own w' g 3 1 zs.length cap zs ∧ Below w.heap.size w w'
def iota (k : Nat) : List Int := (List.range k).map Int.ofNat
theorem iota_succ (k : Nat) : iota (k + 1) = iota k ++ [(k : Int)] := by simp [iota, List.range_succ]
theorem iota_len (k : Nat) : (iota k).length = k := by simp [iota]
theorem iota_at {k i : Nat} {z : Int} (h : (iota k)[i]? = some z) : z = i := by
  unfold iota at h
  rw [List.getElem?_map] at h
  obtain ⟨x, hx, rfl⟩ := Option.map_eq_some_iff.1 h
  have := List.getElem?_eq_some_iff.1 hx
  obtain ⟨h1, h2⟩ := this
  simp at h2
  simp [h2]
/-- one cell that was just laid -/
theorem one_cell (w : World) (z : Int) (t : TypeId) : ∀ (j : Nat) (y : Int), [z][j]? = some y → (w.alloc (.cells #[.int .i64 z] t)).cell? ((⟨w.heap.size, 0, none⟩ : Addr).add j) = some (.int .i64 y) := by
  intro j y h
  have := cell_one_new w (.int .i64 z) t j (.int .i64 y) (by
    match j, h with
    | 0, h => simp at h; subst h; rfl)
  exact this
theorem run_min (P : Program) (ts : Array TypeId) (t : TypeId) (a b m : Int) (w : World) (h : min a b = m) : (Builtin.min_ ts t #[.int .i64 a, .int .i64 b]).run P w = .ok (.int .i64 m) w := by
  have e : (if b < a then b else a) = m := by rw [← h]; split <;> omega
  simp [Builtin.min_, Builtin.min2]
  simpa using e
theorem run_max (P : Program) (ts : Array TypeId) (t : TypeId) (a b m : Int) (w : World) (h : max a b = m) : (Builtin.max_ ts t #[.int .i64 a, .int .i64 b]).run P w = .ok (.int .i64 m) w := by
  have e : (if b > a then b else a) = m := by rw [← h]; split <;> omega
  simp [Builtin.max_, Builtin.max2]
  simpa using e

theorem lower_own {w : World} {g T cap N : Nat} {L : List Int} {r : Rn} {a b : Nat} (h : Own w g T 1 N cap L) (ha : r.f = (a : Int)) (hb : r.t = (b : Int)) (h1 : a < N) (h2 : b < N) :
    Own ((w.setCell ⟨g, a, none⟩ (.int .i64 (low L r))).setCell ⟨g, b, none⟩ (.int .i64 (low L r))) g T 1 N cap (lower L r) := by
  have hl := h.len
  have := (h.set a (low L r) (by omega)).set b (low L r) (by simp; omega)
  unfold lower
  rw [ha, hb]
  simpa using this

set_option maxHeartbeats 4000000 in
theorem sLabels (N : Nat) (p : Option Addr) (c : Nat) (rs : List Rn) (w : World) (h : Runs w p rs) (hn : nOk N rs = true) :
    Calls Try.prog 86 #[.int .i64 N, .slice p rs.length c] w fun e w' => ∃ v, e = .returned v ∧ NewInts w (labs N rs) v w' := by
  have H := Lib.hid h
  obtain ⟨hn2, hn6, hl12, hall⟩ := nOk_true hn
  have HA := Lib.hid hall
  have hok : Hid (∀ r ∈ rs, 0 ≤ r.f ∧ r.f < (N : Int) ∧ 0 ≤ r.t ∧ r.t < (N : Int)) := Lib.hid (fun r hr => by
    obtain ⟨i, hi⟩ := List.getElem?_of_mem hr
    obtain ⟨a1, a2, a3, a4, _⟩ := rOk_true (hall i r hi)
    exact ⟨a1, a2, a3, a4⟩)
  have HE := Lib.hid (Own.empty w 3 1)
  clear h hall hn
  go_enter Try.func86, Try.ntmps86
  go_wp2_with fail
  go_loopw [5, 6] (fun v i wr => ∃ (k g cap : Nat), k ≤ N ∧ i = .int .i64 k ∧ v = .slice (some ⟨g, 0, none⟩) k cap ∧ w.heap.size ≤ g ∧ Own wr g 3 1 k cap (iota k) ∧ Below w.heap.size w wr) (fun _ i _ => N - (intOf i).toNat)
  case atStart => exact ⟨0, _, _, Nat.zero_le _, rfl, rfl, Nat.le_refl _, HE.out, (by repeat (first | assumption | exact Below.refl _ _ | (refine below_chain ?_ (by assumption) (by first | omega | (simp <;> omega) | simp)) | (refine Below.alloc ?_ (by first | omega | (simp <;> omega) | simp) _) | (apply below_drewN) | (apply below_drew) | (refine Below.setCell ?_ (by first | omega | (simp <;> omega) | simp) _)))⟩
  case round =>
    clear HE
    obtain ⟨k, g, cap, hk, rfl, rfl, hg, how, hbr⟩ := hrel
    have hbs := hbr.size
    have hlo := how.lt
    have HO := Lib.hid how
    clear how
    by_cases hlt : k < N
    · go_wp2_with (at_builtin; refine wp_append _ rfl _ _ 24 rfl 3 _ 1 8 Try.underlying24 info_int rfl (by decide) (by decide) _ k cap (iota k) rfl (HO.out.alloc _) _ _ _ [(k : Int)] rfl rfl (one_cell _ _ _) (by omega) ?_; intro g' cap' w' hown hgr hloc hsz; have HN := Lib.hid (And.intro hown (And.intro hgr hloc)); clear hown hgr hloc)
      go_roundw
      case rel => exact ⟨k + 1, g', cap', by omega, by go_num, rfl, by rcases HN.out.2.2 with h | h <;> (try simp at h) <;> omega, by rw [iota_succ]; exact HN.out.1, below_gr (hbr.alloc hbs _) HN.out.2.1 hg (by simp; omega)⟩
      case measure => simp [intOf]; omega
    · have e : k = N := by omega
      subst e
      go_wp2_with fail
      have HS : Hid (Base k rs (iota k) ∧ Far k rs 0 (iota k)) := Lib.hid (base_start (by rw [iota_len]) (fun i z h => iota_at h))
      clear hlt
      go_loopw [7] (fun i wr => ∃ (q : Nat) (L : List Int), q ≤ k ∧ i = .int .i64 q ∧ Own wr g 3 1 k cap L ∧ (Base k rs L ∧ Far k rs q L) ∧ Below w.heap.size w wr) (fun i _ => k - (intOf i).toNat)
      case atStart => exact ⟨0, _, Nat.zero_le _, rfl, HO.out, HS.out, hbr⟩
      case round =>
        clear HS HO hbr hbs hlo
        rename World => w0
        obtain ⟨q, L, hq, rfl, how, hbf, hbr⟩ := hrel
        have hbs := hbr.size
        have hlo := how.lt
        have HO := Lib.hid how
        have HF := Lib.hid hbf
        clear how hbf
        by_cases hlt : q < k
        · go_wp2_with fail
          go_loopw [8] (fun i wr => ∃ (j : Nat) (L : List Int), j ≤ rs.length ∧ i = .int .i64 j ∧ Own wr g 3 1 k cap L ∧ Round k rs q j L ∧ Below w.heap.size w wr) (fun i _ => rs.length - (intOf i).toNat)
          case atStart => exact ⟨0, L, Nat.zero_le _, rfl, HO.out, Round.start HF.out.1 HF.out.2, hbr⟩
          case round =>
            clear HO HF hbr hbs hlo
            rename World => w00
            obtain ⟨j, L', hj, rfl, how, hro, hbr⟩ := hrel
            have hbs := hbr.size
            have hlo := how.lt
            have HO := Lib.hid how
            have HR := Lib.hid hro
            by_cases hlt2 : j < rs.length
            · obtain ⟨B, o, r, rfl, hr, hB, e0, e1, e2, e3⟩ := (H.out.below hbr).at hlt2
              obtain ⟨a1, a2, a3, a4⟩ := hok.out r (List.mem_of_getElem? hr)
              have hLl := how.len
              have c0 := how.cells (htAt_get (L := L') (x := r.f) a1 (by omega))
              have c1 := how.cells (htAt_get (L := L') (x := r.t) a3 (by omega))
              obtain ⟨a, ha⟩ : ∃ a : Nat, r.f = (a : Int) := ⟨r.f.toNat, by omega⟩
              obtain ⟨b, hb⟩ : ∃ b : Nat, r.t = (b : Int) := ⟨r.t.toNat, by omega⟩
              obtain ⟨x, hx⟩ : ∃ x, htAt L' r.f = x := ⟨_, rfl⟩
              obtain ⟨y, hy⟩ : ∃ x, htAt L' r.t = x := ⟨_, rfl⟩
              obtain ⟨m, hm⟩ : ∃ m, min x y = m := ⟨_, rfl⟩
              have hlow : low L' r = m := by unfold low; rw [hx, hy, hm]
              rw [hx] at c0
              rw [hy] at c1
              rw [ha] at e0 c0
              rw [hb] at e1 c1
              rw [Int.toNat_natCast] at c0 c1
              have hfa := how.frozen a
              have hfb := how.frozen b
              have hak : a < k := by omega
              have hbk : b < k := by omega
              have hrm := fun (w : World) (ts : Array TypeId) (t : TypeId) => run_min Try.prog ts t x y m w hm
              have HH := Lib.hid (And.intro hr (And.intro ha (And.intro hb hlow)))
              clear hr ha hb hx hy hm hlow how hro a1 a2 a3 a4
              go_wp2_with fail
              (refine wp_region_grows (by kernel_rfl) (by kernel_rfl) ?_; intro W_wg hWc_wg hWs_wg hWe_wg; (repeat (go_big_quiet_step (fail))); with_reducible refine wpQuiet_nil ?_; clear hWe_wg hWs_wg hWc_wg W_wg; intro wg hb_wg; obtain ⟨hc_wg, hf_wg⟩ := bcell hb_wg; (try simp only [World.size_drew, World.cell?_drew, World.frozen?_drew, World.heap_drewN, World.cell?_drewN, World.frozen?_drewN] at hc_wg hf_wg); have hs_wg := hb_wg.size; (try simp at hs_wg))
              have HOg := Lib.hid (HO.out.below hb_wg)
              have hfa' := HOg.out.frozen a
              have hfb' := HOg.out.frozen b
              have hlg := HOg.out.lt
              obtain ⟨B', o', r', e', hr', hB', y0, y1, y2, y3⟩ := ((H.out.below hbr).below hb_wg).at hlt2
              simp at e'
              obtain ⟨rfl, rfl⟩ := e'
              obtain rfl : r = r' := by have := HH.out.1; rw [hr'] at this; cases this; rfl
              rw [HH.out.2.1] at y0
              rw [HH.out.2.2.1] at y1
              have d0 : wg.cell? ⟨g, a, none⟩ = some (.int .i64 x) := (hc_wg g a hlo).trans c0
              have d1 : wg.cell? ⟨g, b, none⟩ = some (.int .i64 y) := (hc_wg g b hlo).trans c1
              have hBw := H.out.lt (by intro e; rw [e] at hlt2; simp at hlt2)
              have hne : ¬ B = g := by omega
              have hab : ¬ a = b := by
                have := (rOk_true (HA.out _ _ HH.out.1)).2.2.2.2.1
                have h1 := HH.out.2.1
                have h2 := HH.out.2.2.1
                omega
              have hba : ¬ b = a := fun e => hab e.symm
              clear hr' hc_wg hf_wg c0 c1 e0 e1 e2 e3 hfa hfb
              go_wp2_with fail
              go_roundw
              case rel => exact ⟨j + 1, lower L' r, by omega, by go_num, by have := lower_own HOg.out HH.out.2.1 HH.out.2.2.1 hak hbk; rw [HH.out.2.2.2] at this; exact this, HR.out.step hok.out HH.out.1, ((hbr.trans (hb_wg.mono hbs)).setCell hg _).setCell hg _⟩
              case measure => simp [intOf]; omega
            · have e : j = rs.length := by omega
              subst e
              clear how hro
              go_wp2_with fail
              go_roundw
              case rel => exact ⟨q + 1, L', by omega, by go_num, HO.out, HR.out.done hok.out, hbr⟩
              case measure => simp [intOf]; omega
        · have e : q = k := by omega
          subst e
          have hlab : Hid (L = labs q rs) := Lib.hid (labs_eq (labels_done HF.out.1 HF.out.2))
          have hLl : L.length = q := by have := HO.out.len; omega
          have HL := Lib.hid hLl
          clear hLl
          go_wp2_with fail
          go_ret
          exact ⟨.slice (some ⟨g, 0, none⟩) q cap, rfl, g, cap, by rw [← hlab.out, HL.out], hg, by rw [← hlab.out, HL.out]; exact HO.out, hbr⟩

set_option maxHeartbeats 1000000 in
theorem sLinked_yes (N : Nat) (p : Option Addr) (c : Nat) (rs : List Rn) (w : World) (h : Runs w p rs) (hn : nOk N rs = true) :
    Calls Try.prog 90 #[.int .i64 N, .slice p rs.length c] w fun e w' => ∃ v, e = .returned v ∧ NewInts w (labs N rs) v w' := by
  have H := Lib.hid h
  have hl := (nOk_true hn).2.2.1
  have c1 := fun w h => Lib.hid (sValid N p c rs true w h (by omega) hn)
  have c2 := fun w h => Lib.hid (sLabels N p c rs w h hn)
  clear h hn
  go_enter Try.func90, Try.ntmps90
  go_wp2_with (first | (go_at_call 53; (with_reducible refine ((c1 _ ?_).out).mono ?_); (focus ((exact H.out); done)); rintro e wa ⟨rfl, hb_wa⟩; have hs_wa := hb_wa.size; (try simp at hs_wa)) | (go_at_call 86; (with_reducible refine ((c2 _ ?_).out).mono ?_); (focus ((exact H.out.below (by repeat (first | assumption | exact Below.refl _ _ | (refine below_chain ?_ (by assumption) (by first | omega | (simp <;> omega) | simp)) | (refine Below.alloc ?_ (by first | omega | (simp <;> omega) | simp) _) | (apply below_drewN) | (apply below_drew) | (refine Below.setCell ?_ (by first | omega | (simp <;> omega) | simp) _)))); done)); rintro e wl ⟨v, rfl, g, cap, rfl, hg, hown, hb_wl⟩; have hs_wl := hb_wl.size; (try simp at hs_wl)))
  refine bodyPost_ret (v := .slice (some ⟨g, 0, none⟩) (labs N rs).length cap) (by simp [results, Try.results90, go_sem]) rfl ⟨_, rfl, g, cap, rfl, by omega, hown, (by repeat (first | assumption | exact Below.refl _ _ | (refine below_chain ?_ (by assumption) (by first | omega | (simp <;> omega) | simp)) | (refine Below.alloc ?_ (by first | omega | (simp <;> omega) | simp) _) | (apply below_drewN) | (apply below_drew) | (refine Below.setCell ?_ (by first | omega | (simp <;> omega) | simp) _)))⟩
theorem sLinked_no (n : Int) (p : Option Addr) (c : Nat) (rs : List Rn) (w : World) (h : Runs w p rs) (hl : rs.length ≤ 4000000000000000000) (hn : nOk n rs = false) :
    Calls Try.prog 90 #[.int .i64 n, .slice p rs.length c] w fun e w' => (∃ q, e = .returned (.slice q 0 0)) ∧ Below w.heap.size w w' := by
  have H := Lib.hid h
  have c1 := fun w h => Lib.hid (sValid n p c rs false w h hl hn)
  clear h hn
  go_enter Try.func90, Try.ntmps90
  go_wp2_with ((go_at_call 53; (with_reducible refine ((c1 _ ?_).out).mono ?_); (focus ((exact H.out); done)); rintro e wa ⟨rfl, hb_wa⟩; have hs_wa := hb_wa.size; (try simp at hs_wa)))
  go_ret
  exact ⟨⟨_, rfl⟩, (by repeat (first | assumption | exact Below.refl _ _ | (refine below_chain ?_ (by assumption) (by first | omega | (simp <;> omega) | simp)) | (refine Below.alloc ?_ (by first | omega | (simp <;> omega) | simp) _) | (apply below_drewN) | (apply below_drew) | (refine Below.setCell ?_ (by first | omega | (simp <;> omega) | simp) _)))⟩
end Go.Proofs.Ytimghdffmdcheaa
