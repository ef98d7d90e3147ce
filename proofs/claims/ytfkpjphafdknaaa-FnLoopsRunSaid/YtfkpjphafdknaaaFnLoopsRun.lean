/-
  For every code the law FnLoopsRun returns true: impl.NetLoops answers as the reference model does, and without the last run it is the same or 1 less: the same exactly if this run links two nodes that impl.NetLinked tells apart without it. No condition: every list of bytes is taken.
-/
import Derived.Test.YtfkpjphafdknaaaDNc
import Derived.Test.YtfkpjphafdknaaaCode
import Derived.Test.YtfkpjphafdknaaaNRoots
namespace Go.Proofs.Ytfkpjphafdknaaa.fnLoopsRun
open Go.ChangeShapes Go.WideShapes Go.ChangeAt Go.RowKit
set_option linter.unusedVariables false

theorem runs_init {w : World} {p : Option Addr} {rs : List Rn} {r : Rn} (h : Runs w p (rs ++ [r])) : Runs w p rs := by
  rcases h with h | ⟨B, o, e, hB, hc⟩
  · simp at h
  · exact .inr ⟨B, o, e, hB, fun i r' hi => hc i r' (by rw [List.getElem?_append_left (List.getElem?_eq_some_iff.1 hi).1]; exact hi)⟩
theorem nOk_init {n : Int} {rs : List Rn} {r : Rn} (h : nOk n (rs ++ [r]) = true) : nOk n rs = true := by
  obtain ⟨h1, h2, h3, h4⟩ := nOk_true h
  exact nOk_of h1 h2 (by simp at h3; omega) (fun i r' hi => h4 i r' (by rw [List.getElem?_append_left (List.getElem?_eq_some_iff.1 hi).1]; exact hi))
theorem snoc_of {rs : List Rn} (h : 0 < rs.length) : ∃ rs' r, rs = rs' ++ [r] := ⟨rs.dropLast, rs.getLast (by intro e; simp [e] at h), (List.dropLast_concat_getLast _).symm⟩

theorem roots_all {L : List Int} : ∀ k : Nat, (∀ i : Nat, i < k → htAt L i = i) → roots L k = k
  | 0, _ => rfl
  | k + 1, h => by simp only [roots]; rw [roots_all k (fun i hi => h i (by omega)), if_pos (h k (by omega))]
theorem loops_none {N : Nat} (hn : nOk N [] = true) : nLoops N [] = 0 := by
  rw [nLoops_yes hn, roots_all N (fun i hi => ?_)]
  · simp; omega
  · have l := (labs_is N []).lst i (by omega) (by omega)
    exact ((l.same (fun x => x = (i : Int)) (fun r hr => by simp at hr)).2 rfl)
/-- each run takes at most one least node away -/
theorem roots_many {N : Nat} {rs : List Rn} (hok : ∀ r' ∈ rs, 0 ≤ r'.f ∧ r'.f < (N : Int) ∧ 0 ≤ r'.t ∧ r'.t < (N : Int)) : ∀ k : Nat, k ≤ rs.length → N ≤ roots (labs N (rs.take k)) N + k
  | 0, _ => by
    rw [roots_all N (fun i hi => ?_)]
    · omega
    · have l := (labs_is N (rs.take 0)).lst i (by omega) (by omega)
      exact ((l.same (fun x => x = (i : Int)) (fun r hr => by simp at hr)).2 rfl)
  | k + 1, h => by
    have ih := roots_many hok k (by omega)
    have hk : k < rs.length := by omega
    have e : rs.take (k + 1) = rs.take k ++ [rs[k]] := by rw [List.take_add_one, List.getElem?_eq_getElem hk]; rfl
    obtain ⟨q0, q1, q2, q3⟩ := hok rs[k] (List.getElem_mem hk)
    rw [e]
    by_cases he : htAt (labs N (rs.take k)) rs[k].f = htAt (labs N (rs.take k)) rs[k].t
    · rw [labs_loop q0 q1 q2 q3 he]; omega
    · have := roots_link (N := N) (rs := rs.take k) (r := rs[k]) (fun r' hr' => hok r' (by rw [← e] at hr'; exact List.mem_of_mem_take hr')) he
      omega
section
variable {N : Nat} {rs : List Rn} {m : Nat} {q : Option Addr} {c : Nat} {v : Int}
theorem iLoops_at (w : World) (hm : rs.length = m) (h : Runs w q rs) (hl : m ≤ 12) (hb : nLoops N rs = v) :
    Calls Try.prog 20 #[.int .i64 N, .slice q m c] w fun e w' => e = .returned (.int .i64 v) ∧ Below w.heap.size w w' := by
  subst hm; exact iLoops N q c rs v w h (by omega) hb
theorem sLoops_at (w : World) (hm : rs.length = m) (h : Runs w q rs) (hl : m ≤ 12) (hb : nLoops N rs = v) :
    Calls Try.prog 21 #[.int .i64 N, .slice q m c] w fun e w' => e = .returned (.int .i64 v) ∧ Below w.heap.size w w' := by
  subst hm; exact sLoops N q c rs v w h (by omega) hb
theorem iLinked_at (w : World) (hm : rs.length = m) (h : Runs w q rs) (hn : nOk N rs = true) :
    Calls Try.prog 15 #[.int .i64 N, .slice q m c] w fun e w' => ∃ v, e = .returned v ∧ NewInts w (labs N rs) v w' := by
  subst hm; exact iLinked_yes N q c rs w h hn
end

set_option maxHeartbeats 4000000 in
set_option maxRecDepth 100000 in
theorem walk (len cap : Nat) (p : Option Addr) (w : World) (hl : len ≤ 1048576) (h : Hid (Code' w (.slice p len cap))) :
    Calls Try.prog 4 #[.slice p len cap] w fun e w' => e = .returned (.bool true) ∧ Below w.heap.size w w' := by
  have hl' : ¬ (1048576 : Int) < (len : Int) := by omega
  go_enter Try.func4, Try.ntmps4
  go_wp2_with (go_at_call 19; (with_reducible refine (drawLoops_at _ _ h).mono ?_); rintro e wd ⟨N, rs, q, m, ⟨c, hmc, rfl⟩, hmm, ⟨⟨hN2, hN6⟩, hl8, hR, hb_wd⟩⟩; have hs_wd := hb_wd.size; have HR := Lib.hid hR; have HM := Lib.hid hmm; clear hR)
  have hm8 : m ≤ 8 := by omega
  clear h hl8 hmm
  by_cases hn : nOk N rs = true
  · obtain ⟨v, hv⟩ : ∃ v, nLoops N rs = v := ⟨_, rfl⟩
    have c1 := fun w h => Lib.hid (iLoops_at (q := q) (c := c) w HM.out h (by omega) hv)
    have c2 := fun w h => Lib.hid (sLoops_at (q := q) (c := c) w HM.out h (by omega) hv)
    have hvr : v = (m : Int) - N + roots (labs N rs) N := by rw [← hv, nLoops_yes hn, HM.out]
    by_cases h0 : m = 0
    · subst h0
      have hrs : rs = [] := List.eq_nil_of_length_eq_zero HM.out
      subst hrs
      have hv0 : v = 0 := by rw [← hv]; exact loops_none hn
      subst hv0
      clear hn hv hvr HM
      go_wp2_with (first | (go_at_call 20; (with_reducible refine ((c1 _ ?_).out).mono ?_); (focus ((exact HR.out); done)); rintro e wi ⟨rfl, hb_wi⟩; have hs_wi := hb_wi.size; (try simp at hs_wi)) | (go_at_call 21; (with_reducible refine ((c2 _ ?_).out).mono ?_); (focus ((exact HR.out.below (by repeat (first | assumption | exact Below.refl _ _ | (refine below_chain ?_ (by assumption) (by first | omega | (simp <;> omega) | simp)) | (refine Below.alloc ?_ (by first | omega | (simp <;> omega) | simp) _) | (apply below_drewN) | (apply below_drew) | (refine Below.setCell ?_ (by first | omega | (simp <;> omega) | simp) _)))); done)); rintro e ws ⟨rfl, hb_ws⟩; have hs_ws := hb_ws.size; (try simp at hs_ws)))
      go_ret
      exact ⟨rfl, (by repeat (first | assumption | exact Below.refl _ _ | (refine below_chain ?_ (by assumption) (by first | omega | (simp <;> omega) | simp)) | (refine Below.alloc ?_ (by first | omega | (simp <;> omega) | simp) _) | (apply below_drewN) | (apply below_drew) | (refine Below.setCell ?_ (by first | omega | (simp <;> omega) | simp) _)))⟩
    · obtain ⟨K, rfl⟩ : ∃ K, m = K + 1 := ⟨m - 1, by omega⟩
      obtain ⟨rs', r, rfl⟩ := snoc_of (rs := rs) (by have := HM.out; omega)
      have hK : rs'.length = K := by have := HM.out; simp at this; omega
      have hok : ∀ r' ∈ rs' ++ [r], 0 ≤ r'.f ∧ r'.f < (N : Int) ∧ 0 ≤ r'.t ∧ r'.t < (N : Int) := fun r' hr' => by
        obtain ⟨i, hi⟩ := List.getElem?_of_mem hr'
        obtain ⟨a1, a2, a3, a4, -⟩ := rOk_true ((nOk_true hn).2.2.2 i r' hi)
        exact ⟨a1, a2, a3, a4⟩
      have hn' := nOk_init hn
      obtain ⟨q0, q1, q2, q3⟩ := hok r (by simp)
      obtain ⟨B, o, r', rfl, hr', hB, y0, y1, y2, y3⟩ := HR.out.at (i := K) (by simp; omega)
      obtain rfl : r = r' := by rw [List.getElem?_append_right (by omega), hK] at hr'; simpa using hr'
      have hv1 : nLoops N rs' = (K : Int) - N + roots (labs N rs') N := by rw [nLoops_yes hn', hK]
      have c3 := fun w h => Lib.hid (iLinked_at (q := some ⟨B, o, none⟩) (c := c) w hK h hn')
      have hlen := labs_len N rs'
      have e1 := htAt_get (L := labs N rs') q0 (by omega)
      have e2 := htAt_get (L := labs N rs') q2 (by omega)
      obtain ⟨a, ha⟩ : ∃ a : Nat, r.f = (a : Int) := ⟨r.f.toNat, by omega⟩
      obtain ⟨b, hb⟩ : ∃ b : Nat, r.t = (b : Int) := ⟨r.t.toNat, by omega⟩
      have hr1 := roots_le (labs N rs') N
      have hr2 := roots_le (labs N (rs' ++ [r])) N
      have hmany := roots_many hok (K + 1) (by simp; omega)
      rw [List.take_of_length_le (by simp; omega)] at hmany
      have HV0 := Lib.hid hmany
      clear hmany
      by_cases he : htAt (labs N rs') r.f = htAt (labs N rs') r.t
      · have hlab := labs_loop q0 q1 q2 q3 he
        rw [hlab] at hvr HV0
        have hv2 : nLoops N rs' = v - 1 := by rw [hv1, hvr]; omega
        have c4 := fun w h => Lib.hid (iLoops_at (q := some ⟨B, o, none⟩) (c := c) w hK h (by omega) hv2)
        have hvm : v - 1 = v - 1 := rfl
        have HRK := Lib.hid (runs_init HR.out)
        have hB0 := hB
        have hv0 : 0 ≤ v := by have := HV0.out; rw [hvr]; omega
        have hv9 : v ≤ 20 := by rw [hvr]; omega
        have hKc : (K : Int) ≤ (c : Int) := by omega
        obtain ⟨x, hx⟩ : ∃ x, htAt (labs N rs') r.f = x := ⟨_, rfl⟩
        obtain ⟨y, hy⟩ : ∃ y, htAt (labs N rs') r.t = y := ⟨_, rfl⟩
        rw [hx] at e1
        rw [hy] at e2
        rw [ha, Int.toNat_natCast] at e1
        rw [hb, Int.toNat_natCast] at e2
        rw [ha] at y0
        rw [hb] at y1
        have hxy : (x == y) = true := by simpa [hx, hy] using he
        have haN : a < N := by omega
        have hbN : b < N := by omega
        generalize labs N rs' = zs at c3 hlen e1 e2
        obtain rfl : zs.length = N := hlen
        have E := Lib.hid (And.intro e1 e2)
        have HA := Lib.hid (And.intro ha hb)
        clear hok hn hn' hvr hv hv1 hv2 hr1 hr2 he hx hy e1 e2 ha hb q0 q1 q2 q3 hr' hlab
        go_wp2_with (first | (go_at_call 20; (with_reducible refine ((c1 _ ?_).out).mono ?_); (focus ((exact HR.out); done)); rintro e wi ⟨rfl, hb_wi⟩; have hs_wi := hb_wi.size; (try simp at hs_wi)) | (go_at_call 21; (with_reducible refine ((c2 _ ?_).out).mono ?_); (focus ((exact HR.out.below (by repeat (first | assumption | exact Below.refl _ _ | (refine below_chain ?_ (by assumption) (by first | omega | (simp <;> omega) | simp)) | (refine Below.alloc ?_ (by first | omega | (simp <;> omega) | simp) _) | (apply below_drewN) | (apply below_drew) | (refine Below.setCell ?_ (by first | omega | (simp <;> omega) | simp) _)))); done)); rintro e ws ⟨rfl, hb_ws⟩; have hs_ws := hb_ws.size; (try simp at hs_ws)) | (go_at_call 15; (with_reducible refine ((c3 _ ?_).out).mono ?_); (focus ((exact HRK.out.below (by repeat (first | assumption | exact Below.refl _ _ | (refine below_chain ?_ (by assumption) (by first | omega | (simp <;> omega) | simp)) | (refine Below.alloc ?_ (by first | omega | (simp <;> omega) | simp) _) | (apply below_drewN) | (apply below_drew) | (refine Below.setCell ?_ (by first | omega | (simp <;> omega) | simp) _)))); done)); rintro e wl ⟨u, rfl, g, cp, rfl, hg, hown, hb_wl⟩; have hs_wl := hb_wl.size; (try simp at hs_wl)))
        obtain ⟨B', o', r', e', hr', hB', u0, u1, u2, u3⟩ := (HR.out.below (w' := wl) (by repeat (first | assumption | exact Below.refl _ _ | (refine below_chain ?_ (by assumption) (by first | omega | (simp <;> omega) | simp)) | (refine Below.alloc ?_ (by first | omega | (simp <;> omega) | simp) _) | (apply below_drewN) | (apply below_drew) | (refine Below.setCell ?_ (by first | omega | (simp <;> omega) | simp) _)))).at (i := K) (by simp; omega)
        simp at e'
        obtain ⟨rfl, rfl⟩ := e'
        obtain rfl : r = r' := by rw [List.getElem?_append_right (by omega), hK] at hr'; simpa using hr'
        rw [HA.out.1] at u0
        rw [HA.out.2] at u1
        have hlg := hown.lt
        have d0 := hown.cells E.out.1
        have d1 := hown.cells E.out.2
        have HO := Lib.hid hown
        clear hown hr' y0 y1 y2 y3
        (refine wp_region_grows (by kernel_rfl) (by kernel_rfl) ?_; intro W_wg hWc_wg hWs_wg hWe_wg; (repeat (go_big_quiet_step (fail))); with_reducible refine wpQuiet_nil ?_; clear hWe_wg hWs_wg hWc_wg W_wg; intro wg hb_wg; obtain ⟨hc_wg, hf_wg⟩ := bcell hb_wg; (try simp only [World.size_drew, World.cell?_drew, World.frozen?_drew, World.heap_drewN, World.cell?_drewN, World.frozen?_drewN] at hc_wg hf_wg); have hs_wg := hb_wg.size; (try simp at hs_wg))
        go_wp2_with ((go_at_call 20; (with_reducible refine ((c4 _ ?_).out).mono ?_); (focus ((exact HRK.out.below (by repeat (first | assumption | exact Below.refl _ _ | (refine below_chain ?_ (by assumption) (by first | omega | (simp <;> omega) | simp)) | (refine Below.alloc ?_ (by first | omega | (simp <;> omega) | simp) _) | (apply below_drewN) | (apply below_drew) | (refine Below.setCell ?_ (by first | omega | (simp <;> omega) | simp) _)))); done)); rintro e wz ⟨rfl, hb_wz⟩; have hs_wz := hb_wz.size; (try simp at hs_wz)))
        go_ret
        exact ⟨ret_bool (by simp), (by repeat (first | assumption | exact Below.refl _ _ | (refine below_chain ?_ (by assumption) (by first | omega | (simp <;> omega) | simp)) | (refine Below.alloc ?_ (by first | omega | (simp <;> omega) | simp) _) | (apply below_drewN) | (apply below_drew) | (refine Below.setCell ?_ (by first | omega | (simp <;> omega) | simp) _)))⟩
      · have hrl := roots_link hok he
        have hv2 : nLoops N rs' = v := by rw [hv1, hvr]; omega
        have c4 := fun w h => Lib.hid (iLoops_at (q := some ⟨B, o, none⟩) (c := c) w hK h (by omega) hv2)
        have hvm : v - 1 = v - 1 := rfl
        have HRK := Lib.hid (runs_init HR.out)
        have hB0 := hB
        have hv0 : 0 ≤ v := by have := HV0.out; rw [hvr]; omega
        have hv9 : v ≤ 20 := by rw [hvr]; omega
        have hKc : (K : Int) ≤ (c : Int) := by omega
        obtain ⟨x, hx⟩ : ∃ x, htAt (labs N rs') r.f = x := ⟨_, rfl⟩
        obtain ⟨y, hy⟩ : ∃ y, htAt (labs N rs') r.t = y := ⟨_, rfl⟩
        rw [hx] at e1
        rw [hy] at e2
        rw [ha, Int.toNat_natCast] at e1
        rw [hb, Int.toNat_natCast] at e2
        rw [ha] at y0
        rw [hb] at y1
        have hxy : (x == y) = false := by simpa [hx, hy] using he
        have haN : a < N := by omega
        have hbN : b < N := by omega
        generalize labs N rs' = zs at c3 hlen e1 e2
        obtain rfl : zs.length = N := hlen
        have E := Lib.hid (And.intro e1 e2)
        have HA := Lib.hid (And.intro ha hb)
        clear hok hn hn' hvr hv hv1 hv2 hr1 hr2 he hx hy e1 e2 ha hb q0 q1 q2 q3 hr' hrl
        go_wp2_with (first | (go_at_call 20; (with_reducible refine ((c1 _ ?_).out).mono ?_); (focus ((exact HR.out); done)); rintro e wi ⟨rfl, hb_wi⟩; have hs_wi := hb_wi.size; (try simp at hs_wi)) | (go_at_call 21; (with_reducible refine ((c2 _ ?_).out).mono ?_); (focus ((exact HR.out.below (by repeat (first | assumption | exact Below.refl _ _ | (refine below_chain ?_ (by assumption) (by first | omega | (simp <;> omega) | simp)) | (refine Below.alloc ?_ (by first | omega | (simp <;> omega) | simp) _) | (apply below_drewN) | (apply below_drew) | (refine Below.setCell ?_ (by first | omega | (simp <;> omega) | simp) _)))); done)); rintro e ws ⟨rfl, hb_ws⟩; have hs_ws := hb_ws.size; (try simp at hs_ws)) | (go_at_call 15; (with_reducible refine ((c3 _ ?_).out).mono ?_); (focus ((exact HRK.out.below (by repeat (first | assumption | exact Below.refl _ _ | (refine below_chain ?_ (by assumption) (by first | omega | (simp <;> omega) | simp)) | (refine Below.alloc ?_ (by first | omega | (simp <;> omega) | simp) _) | (apply below_drewN) | (apply below_drew) | (refine Below.setCell ?_ (by first | omega | (simp <;> omega) | simp) _)))); done)); rintro e wl ⟨u, rfl, g, cp, rfl, hg, hown, hb_wl⟩; have hs_wl := hb_wl.size; (try simp at hs_wl)))
        obtain ⟨B', o', r', e', hr', hB', u0, u1, u2, u3⟩ := (HR.out.below (w' := wl) (by repeat (first | assumption | exact Below.refl _ _ | (refine below_chain ?_ (by assumption) (by first | omega | (simp <;> omega) | simp)) | (refine Below.alloc ?_ (by first | omega | (simp <;> omega) | simp) _) | (apply below_drewN) | (apply below_drew) | (refine Below.setCell ?_ (by first | omega | (simp <;> omega) | simp) _)))).at (i := K) (by simp; omega)
        simp at e'
        obtain ⟨rfl, rfl⟩ := e'
        obtain rfl : r = r' := by rw [List.getElem?_append_right (by omega), hK] at hr'; simpa using hr'
        rw [HA.out.1] at u0
        rw [HA.out.2] at u1
        have hlg := hown.lt
        have d0 := hown.cells E.out.1
        have d1 := hown.cells E.out.2
        have HO := Lib.hid hown
        clear hown hr' y0 y1 y2 y3
        (refine wp_region_grows (by kernel_rfl) (by kernel_rfl) ?_; intro W_wg hWc_wg hWs_wg hWe_wg; (repeat (go_big_quiet_step (fail))); with_reducible refine wpQuiet_nil ?_; clear hWe_wg hWs_wg hWc_wg W_wg; intro wg hb_wg; obtain ⟨hc_wg, hf_wg⟩ := bcell hb_wg; (try simp only [World.size_drew, World.cell?_drew, World.frozen?_drew, World.heap_drewN, World.cell?_drewN, World.frozen?_drewN] at hc_wg hf_wg); have hs_wg := hb_wg.size; (try simp at hs_wg))
        go_wp2_with ((go_at_call 20; (with_reducible refine ((c4 _ ?_).out).mono ?_); (focus ((exact HRK.out.below (by repeat (first | assumption | exact Below.refl _ _ | (refine below_chain ?_ (by assumption) (by first | omega | (simp <;> omega) | simp)) | (refine Below.alloc ?_ (by first | omega | (simp <;> omega) | simp) _) | (apply below_drewN) | (apply below_drew) | (refine Below.setCell ?_ (by first | omega | (simp <;> omega) | simp) _)))); done)); rintro e wz ⟨rfl, hb_wz⟩; have hs_wz := hb_wz.size; (try simp at hs_wz)))
        go_ret
        exact ⟨ret_bool (by simp), (by repeat (first | assumption | exact Below.refl _ _ | (refine below_chain ?_ (by assumption) (by first | omega | (simp <;> omega) | simp)) | (refine Below.alloc ?_ (by first | omega | (simp <;> omega) | simp) _) | (apply below_drewN) | (apply below_drew) | (refine Below.setCell ?_ (by first | omega | (simp <;> omega) | simp) _)))⟩
  · have hn' : nOk N rs = false := by simpa using hn
    have hv := nLoops_no hn'
    have c1 := fun w h => Lib.hid (iLoops_at (q := q) (c := c) w HM.out h (by omega) hv)
    have c2 := fun w h => Lib.hid (sLoops_at (q := q) (c := c) w HM.out h (by omega) hv)
    clear hn hn' hv
    go_wp2_with (first | (go_at_call 20; (with_reducible refine ((c1 _ ?_).out).mono ?_); (focus ((exact HR.out); done)); rintro e wi ⟨rfl, hb_wi⟩; have hs_wi := hb_wi.size; (try simp at hs_wi)) | (go_at_call 21; (with_reducible refine ((c2 _ ?_).out).mono ?_); (focus ((exact HR.out.below (by repeat (first | assumption | exact Below.refl _ _ | (refine below_chain ?_ (by assumption) (by first | omega | (simp <;> omega) | simp)) | (refine Below.alloc ?_ (by first | omega | (simp <;> omega) | simp) _) | (apply below_drewN) | (apply below_drew) | (refine Below.setCell ?_ (by first | omega | (simp <;> omega) | simp) _)))); done)); rintro e ws ⟨rfl, hb_ws⟩; have hs_ws := hb_ws.size; (try simp at hs_ws)))
    go_ret
    exact ⟨rfl, (by repeat (first | assumption | exact Below.refl _ _ | (refine below_chain ?_ (by assumption) (by first | omega | (simp <;> omega) | simp)) | (refine Below.alloc ?_ (by first | omega | (simp <;> omega) | simp) _) | (apply below_drewN) | (apply below_drew) | (refine Below.setCell ?_ (by first | omega | (simp <;> omega) | simp) _)))⟩

theorem walk_long (len cap : Nat) (p : Option Addr) (w : World) (hl : 1048576 < len) :
    Calls Try.prog 4 #[.slice p len cap] w fun e w' => e = .returned (.bool true) ∧ Below w.heap.size w w' := by
  have hl' : (1048576 : Int) < (len : Int) := by omega
  go_enter Try.func4, Try.ntmps4
  go_wp2
  go_ret
  exact ⟨rfl, Below.refl _ _⟩

set_option maxRecDepth 100000 in
theorem lifted (os : Os) (started : os.Started) (H : Type) (enc : TypeId × Value → H) :
    ReturnsInHanded {} Try.checked os 4 .any (Rows.fnLoopsRunSpec.pre6 enc Try.prog Try.f4 Rows.fnLoopsRunRow.domain false) (Rows.fnLoopsRunSpec.post enc Try.prog Try.f4 false true false false) := by
  refine returnsInHanded_of_change (C := Try.checked) own started (by kernel_rfl) Try.func4
    (ChangeSpec.witness6 (enc := enc) (C := Try.checked) false ⟨#[], #[.slice none 0 0], []⟩ 8 (by kernel_rfl) (by kernel_rfl) (by kernel_rfl) (by kernel_rfl)) ?_
  intro W base args ds gs before hval0 hW hcnd _
  have hval : ∀ (j : Nat) t v, Try.f4.params[j]? = some t → args[j]? = some v → Value.okWide Try.prog W .any base t v := hval0
  have hW' := hW
  obtain ⟨p, q, hA0, hV, rfl, hfz, hnd⟩ := hW
  have hA : DataW.TrodAll enc Try.prog W 0 (fun _ => true) true Try.f4.params.toList args.toList ds p := hA0
  rw [Try.params4] at hA hval
  obtain ⟨v0, vs0, d0, ds0, p0, q0, hargs, rfl, rfl, h0, r0⟩ := trodAll_cons hA
  obtain ⟨rfl, rfl, rfl⟩ := trodAll_nil r0
  obtain rfl : args = #[v0] := by cases args; simp_all
  obtain ⟨rfl, rfl⟩ := trodVars_none hV
  obtain ⟨a0, len0, cap0, rfl⟩ := okWide_slice Try.underlying22 (hval 0 22 v0 rfl rfl)
  have k0 := h0
  have lt0 : ∀ x ∈ p0, x.block < W.heap.size := by obtain ⟨m, hm⟩ := k0; exact DataW.trod_lt m _ _ _ hm
  obtain ⟨z0, w0⟩ : ∃ zs, IsRow .u8 W a0 len0 cap0 zs := by
    obtain ⟨fuel, hf⟩ := h0
    rcases open_ints Try.underlying22 Try.underlying5 (by kernel_rfl) hf with ⟨hcs, _⟩ | ⟨x, l, c, zs, hcs, _, hl, hm, hz, _, hcell, hwz⟩
    · simp [Value.cells] at hcs
      obtain ⟨rfl, rfl, rfl⟩ := hcs
      exact ⟨[], .inl ⟨rfl, rfl, rfl, rfl⟩⟩
    · simp [Value.cells] at hcs
      obtain ⟨rfl, rfl, rfl⟩ := hcs
      exact ⟨zs, .inr ⟨_, rfl, hl, hm, by simpa using hz, hcell, hwz⟩⟩
  clear hA0 hval0
  have hw : Calls Try.prog 4 #[.slice a0 len0 cap0] W fun e w' => e = .returned (.bool true) ∧ Below W.heap.size W w' := by
    by_cases hl : len0 ≤ 1048576
    · exact walk len0 cap0 a0 W hl (Lib.hid (code_of_row w0 hl))
    · exact walk_long len0 cap0 a0 W (by omega)
  refine hw.mono fun e W' ⟨he, bel⟩ => ?_
  subst he
  exact ⟨_, rfl, _, _, _, [], _, [], hW', trodAll_mk1 (shut_bool Try.underlying4 _), (trodAll_cons_mk (Below.trod laidOut (by kernel_rfl) (of_decide_eq_true (by kernel_rfl)) k0 bel lt0) trodAll_mk0), rfl, bel.frame _, fun h => by cases h⟩

theorem over : Rows.fnLoopsRunRow.holds Try.pinned (OpenSpec.ofChange Rows.fnLoopsRunSpec) :=
  OpenClaim.holds_of_wide 4 Try.f4 rfl rfl rfl rfl rfl rfl rfl ⟨rfl, rfl, rfl, rfl, rfl⟩ rfl rfl rfl rfl rfl (by kernel_rfl) Try.func4 (by kernel_rfl)
    (of_decide_eq_true (by kernel_rfl)) (by unfold Func.isWrapper; first | (rw [if_pos (by decide +kernel)]; kernel_rfl) | (rw [if_neg (by decide +kernel)]; exact ⟨rfl, rfl⟩))
    (fun os started H enc _ => lifted os started H enc)

theorem proved : Rows.FnLoopsRunSaid := over
end Go.Proofs.Ytfkpjphafdknaaa.fnLoopsRun

