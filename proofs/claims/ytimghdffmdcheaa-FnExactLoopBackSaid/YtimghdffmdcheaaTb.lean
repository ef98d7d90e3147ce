/-
  The program's TreeIs and TreeFirst.
-/
import Derived.Test.YtimghdffmdcheaaTa
import Derived.Test.YtimghdffmdcheaaTrc
namespace Go.Proofs.Ytimghdffmdcheaa
open Go.RowKit
set_option linter.unusedVariables false

theorem iValid_n {n : Int} {p : Option Addr} {c m : Nat} {rs : List Rn} {b : Bool} (w : World) (hm : rs.length = m) (h : Runs w p rs) (hl : m ≤ 4000000000000000000) (hb : nOk n rs = b) :
    Calls Try.prog 39 #[.int .i64 n, .slice p m c] w fun e w' => e = .returned (.bool b) ∧ Below w.heap.size w w' := by
  subst hm; exact iValid n p c rs b w h hl hb
theorem iWhole_n {n : Int} {p : Option Addr} {c m : Nat} {rs : List Rn} {b : Bool} (w : World) (hm : rs.length = m) (h : Runs w p rs) (hl : m ≤ 4000000000000000000) (hb : nWhole n rs = b) :
    Calls Try.prog 38 #[.int .i64 n, .slice p m c] w fun e w' => e = .returned (.bool b) ∧ Below w.heap.size w w' := by
  subst hm; exact iWhole n p c rs b w h hl hb
theorem up_step {T : List Int} {j : Nat} {x y : Int} (h : (T.take (j + 1)).Pairwise (· < ·)) (hx : T[j]? = some x) (hy : T[j + 1]? = some y) (hlt : x < y) : (T.take (j + 1 + 1)).Pairwise (· < ·) := by
  rw [take_succ_of hy]
  refine List.pairwise_append.2 ⟨h, by simp, fun a ha b hb => ?_⟩
  simp at hb; subst hb
  rw [take_succ_of hx] at h ha
  rcases List.mem_append.1 ha with ha | ha
  · have := (List.pairwise_append.1 h).2.2 a ha x (by simp)
    omega
  · simp at ha; subst ha; exact hlt
theorem up_no {T : List Int} {j : Nat} {x y : Int} (hx : T[j]? = some x) (hy : T[j + 1]? = some y) (h : y ≤ x) : ¬ T.Pairwise (· < ·) := fun hp => by
  rw [List.pairwise_iff_getElem] at hp
  obtain ⟨hl1, e1⟩ := List.getElem?_eq_some_iff.1 hx
  obtain ⟨hl2, e2⟩ := List.getElem?_eq_some_iff.1 hy
  have := hp j (j + 1) hl1 hl2 (by omega)
  rw [e1, e2] at this; omega

set_option maxHeartbeats 1000000 in
theorem iAsc (q : Option Addr) (d k : Nat) (T : List Int) (b : Bool) (w : World) (hq : Ints w q T) (hk : T.length = k) (hl : k ≤ 4000000000000000000) (hb : b = true ↔ T.Pairwise (· < ·)) :
    Calls Try.prog 88 #[.slice q k d] w fun e w' => e = .returned (.bool b) ∧ Below w.heap.size w w' := by
  have H := Lib.hid (And.intro hq (And.intro hk hb))
  clear hq hk hb
  go_enter Try.func88, Try.ntmps88
  go_wp2_with fail
  go_loopw [3] (fun i wr => ∃ j : Nat, (j + 1 ≤ k ∨ j = 0) ∧ i = .int .i64 ((j : Int) + 1) ∧ (T.take (j + 1)).Pairwise (· < ·) ∧ Below w.heap.size w wr) (fun i _ => k + 1 - (intOf i).toNat)
  case atStart => exact ⟨0, .inr rfl, rfl, by cases T <;> simp, Below.refl _ _⟩
  case round =>
    obtain ⟨j, hj, rfl, hup, hbr⟩ := hrel
    have hbs := hbr.size
    by_cases hlt : j + 1 < k
    · have hlt' : (j : Int) + 1 < (k : Int) := by omega
      have hj2 : (j : Int) + 1 - 1 = (j : Int) := by omega
      obtain ⟨B, o, x, rfl, hx, hB, e0⟩ := (H.out.1.below hbr).at (i := j) (by have := H.out.2.1; omega)
      obtain ⟨B', o', y, e1, hy, -, e2⟩ := (H.out.1.below hbr).at (i := j + 1) (by have := H.out.2.1; omega)
      simp only [Option.some.injEq, Addr.mk.injEq, and_true] at e1
      obtain ⟨rfl, rfl⟩ := e1
      obtain ⟨u, hu⟩ : ∃ u : Nat, u = j + 1 := ⟨_, rfl⟩
      have hu' : (j : Int) + 1 = (u : Int) := by omega
      have hul : (u : Int) < (k : Int) := by omega
      have hu1 : (u : Int) - 1 = (j : Int) := by omega
      rw [← hu] at e2
      have HU := Lib.hid hu
      clear hu
      by_cases hxy : y ≤ x
      · have HX : Hid (false = b) := Lib.hid (by
          rw [eq_comm, Bool.eq_false_iff]; exact fun hbt => up_no hx hy hxy (H.out.2.2.1 hbt))
        clear hx hy hup
        rw [hu']
        clear hu'
        go_wp2_with fail
        (refine wp_region_grows (by kernel_rfl) (by kernel_rfl) ?_; intro W_wg hWc_wg hWs_wg hWe_wg; (repeat (go_big_quiet_step (fail))); with_reducible refine wpQuiet_nil ?_; clear hWe_wg hWs_wg hWc_wg W_wg; intro wg hb_wg; obtain ⟨hc_wg, hf_wg⟩ := bcell hb_wg; (try simp only [World.size_drew, World.cell?_drew, World.frozen?_drew, World.heap_drewN, World.cell?_drewN, World.frozen?_drewN] at hc_wg hf_wg); have hs_wg := hb_wg.size; (try simp at hs_wg))
        go_wp2_with fail
        go_ret
        exact ⟨ret_bool HX.out, hbr.trans (hb_wg.mono hbs)⟩
      · have hxy' : x < y := by omega
        have HX := Lib.hid (up_step hup hx hy hxy')
        clear hx hy hup
        rw [hu']
        clear hu'
        go_wp2_with fail
        (refine wp_region_grows (by kernel_rfl) (by kernel_rfl) ?_; intro W_wg hWc_wg hWs_wg hWe_wg; (repeat (go_big_quiet_step (fail))); with_reducible refine wpQuiet_nil ?_; clear hWe_wg hWs_wg hWc_wg W_wg; intro wg hb_wg; obtain ⟨hc_wg, hf_wg⟩ := bcell hb_wg; (try simp only [World.size_drew, World.cell?_drew, World.frozen?_drew, World.heap_drewN, World.cell?_drewN, World.frozen?_drewN] at hc_wg hf_wg); have hs_wg := hb_wg.size; (try simp at hs_wg))
        go_wp2_with fail
        go_roundw
        case rel => exact ⟨j + 1, by omega, by have := HU.out; subst this; go_num, HX.out, hbr.trans (hb_wg.mono hbs)⟩
        case measure => simp [intOf]; omega
    · have hno : ¬ ((j : Int) + 1 < (k : Int)) := by omega
      have HX : Hid (true = b) := Lib.hid (by
        rw [eq_comm, H.out.2.2]; rw [List.take_of_length_le (by have := H.out.2.1; omega)] at hup; exact hup)
      clear hup
      go_wp2_with fail
      go_ret
      exact ⟨ret_bool HX.out, hbr⟩

theorem asc_ends {m k : Nat} {T : List Int} {x y : Int} (hk : T.length = k + 1) (hup : T.Pairwise (· < ·)) (hx : T[0]? = some x) (hy : T[k]? = some y) : Asc m T ↔ (0 ≤ x ∧ x < (m : Int)) ∧ (0 ≤ y ∧ y < (m : Int)) := by
  constructor
  · intro h; exact ⟨h.rng x (List.mem_of_getElem? hx), h.rng y (List.mem_of_getElem? hy)⟩
  · rintro ⟨⟨x0, -⟩, -, y1⟩
    refine ⟨fun z hz => ?_, hup⟩
    obtain ⟨i, hi⟩ := List.getElem?_of_mem hz
    rw [List.pairwise_iff_getElem] at hup
    obtain ⟨hl, e⟩ := List.getElem?_eq_some_iff.1 hi
    obtain ⟨hl0, e0⟩ := List.getElem?_eq_some_iff.1 hx
    obtain ⟨hlk, ek⟩ := List.getElem?_eq_some_iff.1 hy
    have a : x ≤ z := by
      by_cases h : i = 0
      · subst h; rw [hx] at hi; cases hi; exact Int.le_refl _
      · have := hup 0 i hl0 hl (by omega); rw [e0, e] at this; omega
    have b : z ≤ y := by
      by_cases h : i = k
      · subst h; rw [hy] at hi; cases hi; exact Int.le_refl _
      · have := hup i k hl hlk (by omega); rw [e, ek] at this; omega
    omega

set_option maxHeartbeats 4000000 in
theorem iTreeIs_at (n : Int) (m k : Nat) (p q : Option Addr) (c d : Nat) (rs : List Rn) (T : List Int) (b : Bool) (w : World) (h : Runs w p rs) (hq : Ints w q T) (hm : rs.length = m) (hk : T.length = k) (hl : m ≤ 4000000000000000000) (hl2 : k ≤ 4000000000000000000) (hb : isT n rs T = b) :
    Calls Try.prog 69 #[.int .i64 n, .slice p m c, .slice q k d] w fun e w' => e = .returned (.bool b) ∧ Below w.heap.size w w' := by
  obtain ⟨v, hv⟩ : ∃ v, nOk n rs = v := ⟨_, rfl⟩
  have c1 := fun w h => Lib.hid (iValid_n (p := p) (c := c) w hm h hl hv)
  have H := Lib.hid (And.intro h (And.intro hq (And.intro hm hk)))
  cases v
  · obtain rfl : b = false := by rw [← hb]; exact isT_false.2 (fun ht => by rw [ht.ok] at hv; cases hv)
    clear h hq hm hk hb hv
    go_enter Try.func69, Try.ntmps69
    go_wp2_with ((go_at_call 39; (with_reducible refine ((c1 _ ?_).out).mono ?_); (focus ((exact H.out.1); done)); rintro e wa ⟨rfl, hb_wa⟩; have hs_wa := hb_wa.size; (try simp at hs_wa)))
    go_ret
    exact ⟨rfl, (by repeat (first | assumption | exact Below.refl _ _ | (refine below_chain ?_ (by assumption) (by first | omega | (simp <;> omega) | simp)) | (refine Below.alloc ?_ (by first | omega | (simp <;> omega) | simp) _) | (apply below_drewN) | (apply below_drew) | (refine Below.setCell ?_ (by first | omega | (simp <;> omega) | simp) _)))⟩
  · obtain ⟨hn2, hn6, hl12, -⟩ := nOk_true hv
    have hm12 : m ≤ 12 := by omega
    obtain ⟨N, rfl⟩ : ∃ N : Nat, n = (N : Int) := ⟨n.toNat, by omega⟩
    by_cases hkN : (k : Int) = (N : Int) - 1
    · have hkn : ((k : Int) != (N : Int) - 1) = false := by simpa using hkN
      obtain ⟨u, huN⟩ : ∃ u, u + 2 = N := ⟨N - 2, by omega⟩
      have huk : u + 1 = k := by omega
      obtain ⟨a, ha⟩ : ∃ a : Bool, (a = true ↔ T.Pairwise (· < ·)) := ⟨open Classical in decide (T.Pairwise (· < ·)), by simp⟩
      have c2 := fun w hq => Lib.hid (iAsc q d k T a w hq hk hl2 ha)
      cases a
      · obtain rfl : b = false := by rw [← hb]; exact isT_false.2 (fun ht => by have := ha.2 ht.asc.up; cases this)
        clear h hq hm hk hb hv ha hl12 hkN huk huN
        go_enter Try.func69, Try.ntmps69
        go_wp2_with (first | (go_at_call 39; (with_reducible refine ((c1 _ ?_).out).mono ?_); (focus ((exact H.out.1); done)); rintro e wa ⟨rfl, hb_wa⟩; have hs_wa := hb_wa.size; (try simp at hs_wa)) | (go_at_call 88; (with_reducible refine ((c2 _ ?_).out).mono ?_); (focus ((exact H.out.2.1.below hb_wa); done)); rintro e wb ⟨rfl, hb_wb⟩; have hs_wb := hb_wb.size; (try simp at hs_wb)))
        go_ret
        exact ⟨rfl, (by repeat (first | assumption | exact Below.refl _ _ | (refine below_chain ?_ (by assumption) (by first | omega | (simp <;> omega) | simp)) | (refine Below.alloc ?_ (by first | omega | (simp <;> omega) | simp) _) | (apply below_drewN) | (apply below_drew) | (refine Below.setCell ?_ (by first | omega | (simp <;> omega) | simp) _)))⟩
      · have hup := ha.1 rfl
        obtain ⟨B, o, x, rfl, hx, hB, e0⟩ := hq.at (i := 0) (by omega)
        obtain ⟨B', o', y, e1, hy, -, e2⟩ := hq.at (i := u) (by omega)
        simp only [Option.some.injEq, Addr.mk.injEq, and_true] at e1
        obtain ⟨rfl, rfl⟩ := e1
        have hae := asc_ends (m := m) (hk.trans huk.symm) hup hx hy
        have hu2 : (N : Int) - 2 = (u : Int) := by omega
        have hk0 : (0 : Int) < (k : Int) := by omega
        have huk' : (u : Int) < (k : Int) := by omega
        rw [Nat.add_zero] at e0
        by_cases h1 : 0 ≤ x ∧ x < (m : Int)
        · have c3 := fun w => Lib.hid (nHasRun p m c x true w (by simpa using h1))
          by_cases h2 : 0 ≤ y ∧ y < (m : Int)
          · have c4 := fun w => Lib.hid (nHasRun p m c y true w (by simpa using h2))
            have hasc : Asc m T := hae.2 ⟨h1, h2⟩
            have hwb : nWhole (N : Int) (sub rs T) = b := by rw [← hb]; exact (isT_whole hv (by omega) (by rw [hm]; exact hasc)).symm
            have c5 := fun w h hq => Lib.hid (iLinksAll N m k p (some ⟨B, o, none⟩) c d rs T b w h hq hm hk hv hasc (by omega) hwb)
            clear h hq hm hk hb hv ha hup hx hy hae h1 h2 hasc hwb hl12 hkN huk huN
            go_enter Try.func69, Try.ntmps69
            go_wp2_with (first | (go_at_call 39; (with_reducible refine ((c1 _ ?_).out).mono ?_); (focus ((exact H.out.1); done)); rintro e wa ⟨rfl, hb_wa⟩; have hs_wa := hb_wa.size; (try simp at hs_wa)) | ((go_at_call 88; (with_reducible refine ((c2 _ ?_).out).mono ?_); (focus ((exact H.out.2.1.below hb_wa); done)); rintro e wb ⟨rfl, hb_wb⟩; have hs_wb := hb_wb.size; (try simp at hs_wb)); have y0 := ((hb_wa.trans (hb_wb.mono hs_wa)).cell (p := ⟨B, o, none⟩) hB).trans e0; have y1 := ((hb_wa.trans (hb_wb.mono hs_wa)).cell (p := ⟨B, o + u, none⟩) hB).trans e2; have hBb : B < wb.heap.size := by omega) | (go_at_call 61; (with_reducible refine ((c3 _).out).mono ?_); rintro e w' ⟨rfl, rfl⟩) | (go_at_call 61; (with_reducible refine ((c4 _).out).mono ?_); rintro e w' ⟨rfl, rfl⟩) | (go_at_call 89; (with_reducible refine ((c5 _ ?_ ?_).out).mono ?_); (focus ((exact H.out.1.below (by repeat (first | assumption | exact Below.refl _ _ | (refine below_chain ?_ (by assumption) (by first | omega | (simp <;> omega) | simp)) | (refine Below.alloc ?_ (by first | omega | (simp <;> omega) | simp) _) | (apply below_drewN) | (apply below_drew) | (refine Below.setCell ?_ (by first | omega | (simp <;> omega) | simp) _)))); done)); (focus ((exact H.out.2.1.below (by repeat (first | assumption | exact Below.refl _ _ | (refine below_chain ?_ (by assumption) (by first | omega | (simp <;> omega) | simp)) | (refine Below.alloc ?_ (by first | omega | (simp <;> omega) | simp) _) | (apply below_drewN) | (apply below_drew) | (refine Below.setCell ?_ (by first | omega | (simp <;> omega) | simp) _)))); done)); rintro e wl ⟨rfl, hb_wl⟩; have hs_wl := hb_wl.size; (try simp at hs_wl)))
            go_ret
            exact ⟨rfl, (by repeat (first | assumption | exact Below.refl _ _ | (refine below_chain ?_ (by assumption) (by first | omega | (simp <;> omega) | simp)) | (refine Below.alloc ?_ (by first | omega | (simp <;> omega) | simp) _) | (apply below_drewN) | (apply below_drew) | (refine Below.setCell ?_ (by first | omega | (simp <;> omega) | simp) _)))⟩
          · have c4 := fun w => Lib.hid (nHasRun p m c y false w (by simpa using h2))
            obtain rfl : b = false := by rw [← hb]; exact isT_false.2 (fun ht => h2 ((asc_ends (hk.trans huk.symm) hup hx hy).1 (by have := ht.asc; rw [hm] at this; exact this)).2)
            clear h hq hm hk hb hv ha hup hx hy hae h1 h2 hl12 hkN huk huN
            go_enter Try.func69, Try.ntmps69
            go_wp2_with (first | (go_at_call 39; (with_reducible refine ((c1 _ ?_).out).mono ?_); (focus ((exact H.out.1); done)); rintro e wa ⟨rfl, hb_wa⟩; have hs_wa := hb_wa.size; (try simp at hs_wa)) | ((go_at_call 88; (with_reducible refine ((c2 _ ?_).out).mono ?_); (focus ((exact H.out.2.1.below hb_wa); done)); rintro e wb ⟨rfl, hb_wb⟩; have hs_wb := hb_wb.size; (try simp at hs_wb)); have y0 := ((hb_wa.trans (hb_wb.mono hs_wa)).cell (p := ⟨B, o, none⟩) hB).trans e0; have y1 := ((hb_wa.trans (hb_wb.mono hs_wa)).cell (p := ⟨B, o + u, none⟩) hB).trans e2; have hBb : B < wb.heap.size := by omega) | (go_at_call 61; (with_reducible refine ((c3 _).out).mono ?_); rintro e w' ⟨rfl, rfl⟩) | (go_at_call 61; (with_reducible refine ((c4 _).out).mono ?_); rintro e w' ⟨rfl, rfl⟩))
            go_ret
            exact ⟨rfl, (by repeat (first | assumption | exact Below.refl _ _ | (refine below_chain ?_ (by assumption) (by first | omega | (simp <;> omega) | simp)) | (refine Below.alloc ?_ (by first | omega | (simp <;> omega) | simp) _) | (apply below_drewN) | (apply below_drew) | (refine Below.setCell ?_ (by first | omega | (simp <;> omega) | simp) _)))⟩
        · have c3 := fun w => Lib.hid (nHasRun p m c x false w (by simpa using h1))
          obtain rfl : b = false := by rw [← hb]; exact isT_false.2 (fun ht => h1 ((asc_ends (hk.trans huk.symm) hup hx hy).1 (by have := ht.asc; rw [hm] at this; exact this)).1)
          clear h hq hm hk hb hv ha hup hx hy hae h1 hl12 hkN huk huN
          go_enter Try.func69, Try.ntmps69
          go_wp2_with (first | (go_at_call 39; (with_reducible refine ((c1 _ ?_).out).mono ?_); (focus ((exact H.out.1); done)); rintro e wa ⟨rfl, hb_wa⟩; have hs_wa := hb_wa.size; (try simp at hs_wa)) | ((go_at_call 88; (with_reducible refine ((c2 _ ?_).out).mono ?_); (focus ((exact H.out.2.1.below hb_wa); done)); rintro e wb ⟨rfl, hb_wb⟩; have hs_wb := hb_wb.size; (try simp at hs_wb)); have y0 := ((hb_wa.trans (hb_wb.mono hs_wa)).cell (p := ⟨B, o, none⟩) hB).trans e0; have hBb : B < wb.heap.size := by omega) | (go_at_call 61; (with_reducible refine ((c3 _).out).mono ?_); rintro e w' ⟨rfl, rfl⟩))
          go_ret
          exact ⟨rfl, (by repeat (first | assumption | exact Below.refl _ _ | (refine below_chain ?_ (by assumption) (by first | omega | (simp <;> omega) | simp)) | (refine Below.alloc ?_ (by first | omega | (simp <;> omega) | simp) _) | (apply below_drewN) | (apply below_drew) | (refine Below.setCell ?_ (by first | omega | (simp <;> omega) | simp) _)))⟩
    · have hkn : ((k : Int) != (N : Int) - 1) = true := by simpa using hkN
      obtain rfl : b = false := by rw [← hb]; exact isT_false.2 (fun ht => by have := ht.len; omega)
      clear h hq hm hk hb hv hkN hl12
      go_enter Try.func69, Try.ntmps69
      go_wp2_with ((go_at_call 39; (with_reducible refine ((c1 _ ?_).out).mono ?_); (focus ((exact H.out.1); done)); rintro e wa ⟨rfl, hb_wa⟩; have hs_wa := hb_wa.size; (try simp at hs_wa)))
      go_ret
      exact ⟨rfl, (by repeat (first | assumption | exact Below.refl _ _ | (refine below_chain ?_ (by assumption) (by first | omega | (simp <;> omega) | simp)) | (refine Below.alloc ?_ (by first | omega | (simp <;> omega) | simp) _) | (apply below_drewN) | (apply below_drew) | (refine Below.setCell ?_ (by first | omega | (simp <;> omega) | simp) _)))⟩
end Go.Proofs.Ytimghdffmdcheaa
