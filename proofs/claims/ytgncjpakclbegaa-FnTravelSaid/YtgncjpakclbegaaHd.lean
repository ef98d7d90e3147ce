/-
  The program's functions on traverses, by contract.
-/
import Derived.Test.YtgncjpakclbegaaHc
import Derived.Test.YtgncjpakclbegaaSi
namespace Go.Proofs.Ytgncjpakclbegaa
open Go.RowKit Go.Shelf Poly
set_option linter.unusedVariables false

theorem tvV_bad {L : List P2} {i : Nat} (hl : 0 < L.length) (h : stP (cy L i) = false) : tvV L = false :=
  tvV_no (i := i % L.length) (Nat.mod_lt _ hl) (by rw [cy_mod]; exact h)
set_option maxRecDepth 100000 in
set_option maxHeartbeats 2000000 in
theorem iTravOf_len (p : Option Addr) (n c : Nat) (w : World) (h : n = 0 ∨ 12 < n) :
    Calls Try.prog 81 #[.slice p n c] w fun e w' => e = .returned (.tuple #[.nilFunc, .bool false]) ∧ Below w.heap.size w w' := by
  have hst := store_nil Try.prog (W := (w.alloc (.cells #[.nilFunc] 77)).alloc (.cells #[.bool false] 4)) (a := ⟨w.heap.size, 0, none⟩) (v := .nilFunc) (by simp [go_sem]) (by simp [go_sem])
  by_cases h0 : n = 0
  · subst h0
    go_enter Try.func81, Try.ntmps81
    go_wp2_with fail
    exact bodyPost_ret (v := .tuple #[.nilFunc, .bool false]) (by simp [results, Try.results81, go_sem]) rfl ⟨rfl, (by repeat (first | assumption | exact Below.refl _ _ | (refine below_chain ?_ (by assumption) (by first | omega | (simp <;> omega) | simp)) | (refine Below.alloc ?_ (by first | omega | (simp <;> omega) | simp) _) | (apply below_drewN) | (apply below_drew) | (refine Below.setCell ?_ (by first | omega | (simp <;> omega) | simp) _)))⟩
  · have h1 : (12 : Int) < (n : Int) := by omega
    clear h
    go_enter Try.func81, Try.ntmps81
    go_wp2_with fail
    exact bodyPost_ret (v := .tuple #[.nilFunc, .bool false]) (by simp [results, Try.results81, go_sem]) rfl ⟨rfl, (by repeat (first | assumption | exact Below.refl _ _ | (refine below_chain ?_ (by assumption) (by first | omega | (simp <;> omega) | simp)) | (refine Below.alloc ?_ (by first | omega | (simp <;> omega) | simp) _) | (apply below_drewN) | (apply below_drew) | (refine Below.setCell ?_ (by first | omega | (simp <;> omega) | simp) _)))⟩
section
variable {p : Option Addr} {n c : Nat} {L : List P2} {w : World}
theorem iTravOf_no (h : Ints w p (Poly.fl L)) (hn : L.length = n) (hb : tvV L = false) :
    Calls Try.prog 81 #[.slice p n c] w fun e w' => e = .returned (.tuple #[.nilFunc, .bool false]) ∧ Below w.heap.size w w' := by
  by_cases hl : n = 0 ∨ 12 < n
  · exact iTravOf_len p n c w hl
  · obtain ⟨B, o, rfl, hB, -, -⟩ := h.pt (i := 0) (by omega)
    refine (iTravOf B o n c L w hn (by omega) (by omega) hB h).mono ?_
    rintro e w' (⟨hf, -⟩ | ⟨-, h1, h2⟩)
    · rw [tvV_of (by omega) (by omega) (fun i hi => hf i (by omega))] at hb; cases hb
    · exact ⟨h1, h2⟩
theorem iTravOf_yes (h : Ints w p (Poly.fl L)) (hn : L.length = n) (hb : tvV L = true) :
    Calls Try.prog 81 #[.slice p n c] w fun e w' => ∃ t, e = .returned (.tuple #[t, .bool true]) ∧ Trv w.heap.size w' t L ∧ Below w.heap.size w w' := by
  have hl := tvV_len hb
  obtain ⟨B, o, rfl, hB, -, -⟩ := h.pt (i := 0) (by omega)
  refine (iTravOf B o n c L w hn (by omega) (by omega) hB h).mono ?_
  rintro e w' (⟨-, h1⟩ | ⟨⟨i, hi⟩, -⟩)
  · exact h1
  · rw [tvV_bad (by omega) hi] at hb; cases hb
theorem iTravelValid_no (h : Ints w p (Poly.fl L)) (hn : L.length = n) (hb : tvV L = false) :
    Calls Try.prog 51 #[.slice p n c] w fun e w' => e = .returned (.bool false) ∧ Below w.heap.size w w' := by
  have H := Lib.hid h
  have c1 := fun w h => Lib.hid (iTravOf_no (p := p) (n := n) (c := c) (L := L) (w := w) h hn hb)
  clear h hn hb
  go_enter Try.func51, Try.ntmps51
  go_wp2_with ((go_at_call 81; (with_reducible refine ((c1 _ H.out).out).mono ?_); rintro e w1 ⟨rfl, hb_w1⟩; have hs_w1 := hb_w1.size; (try simp at hs_w1)))
  go_ret
  exact ⟨rfl, hb_w1⟩
theorem iTravelValid_yes (h : Ints w p (Poly.fl L)) (hn : L.length = n) (hb : tvV L = true) :
    Calls Try.prog 51 #[.slice p n c] w fun e w' => e = .returned (.bool true) ∧ Below w.heap.size w w' := by
  have H := Lib.hid h
  have c1 := fun w h => Lib.hid (iTravOf_yes (p := p) (n := n) (c := c) (L := L) (w := w) h hn hb)
  clear h hn hb
  go_enter Try.func51, Try.ntmps51
  go_wp2_with ((go_at_call 81; (with_reducible refine ((c1 _ H.out).out).mono ?_); rintro e w1 ⟨t, rfl, hT, hb_w1⟩; have hs_w1 := hb_w1.size; (try simp at hs_w1)))
  go_ret
  exact ⟨rfl, hb_w1⟩
theorem iTravelValid_is {b : Bool} (h : Ints w p (Poly.fl L)) (hn : L.length = n) (hb : tvV L = b) :
    Calls Try.prog 51 #[.slice p n c] w fun e w' => e = .returned (.bool b) ∧ Below w.heap.size w w' := by
  cases b
  · exact iTravelValid_no h hn hb
  · exact iTravelValid_yes h hn hb
/-! ### the points -/
theorem adW_of {p s : P2} (h : pvP p = true) (h' : stP s = true) : adW p s = adP p s := by
  have h1 := Pt.pv_true h
  have h2 := Pt.sv_true h'
  unfold adW adP wrap64
  congr 1 <;> omega
theorem wayW_of : ∀ (L : List P2) (p : P2), (∀ s ∈ L, stP s = true) → (wayW p L).all pvP = (wayT p L).all pvP ∧ ((wayT p L).all pvP = true → wayW p L = wayT p L)
  | [], p, _ => ⟨rfl, fun _ => rfl⟩
  | s :: l, p, h => by
    cases hp : pvP p with
    | false => refine ⟨by simp [wayW, wayT, hp], fun hh => ?_⟩; simp [wayT, hp] at hh
    | true =>
      have e := adW_of hp (h s (by simp))
      have ih := wayW_of l (adP p s) (fun q hq => h q (by simp [hq]))
      refine ⟨by simp only [wayW, wayT, List.all_cons, hp, e, ih.1], fun hh => ?_⟩
      simp only [wayT, List.all_cons, hp, Bool.true_and] at hh
      simp only [wayW, wayT, e, ih.2 hh]
theorem pointsValidN {b : Bool} (h : Ints w p (Poly.fl L)) (hn : L.length = n) (hl : n ≤ 1000) (hb : L.all pvP = b) :
    Calls Try.prog 86 #[.slice p n c] w fun e w' => e = .returned (.bool b) ∧ Below w.heap.size w w' := by
  subst hn
  exact pointsValidS p c L b w h hl hb
end
section
variable {p : Option Addr} {n c : Nat} {L : List P2} {w : World} {x y : Int}
set_option maxHeartbeats 2000000 in
theorem iTravelPoints_not (h : Ints w p (Poly.fl L)) (hn : L.length = n) (hb : tvV L = false) :
    Calls Try.prog 37 #[.agg #[.int .i64 x, .int .i64 y], .slice p n c] w fun e w' => e = .returned (.tuple #[.slice none 0 0, .bool false]) ∧ Below w.heap.size w w' := by
  have H := Lib.hid h
  have c1 := fun w h => Lib.hid (iTravOf_no (p := p) (n := n) (c := c) (L := L) (w := w) h hn hb)
  clear h hn hb
  go_enter Try.func37, Try.ntmps37
  go_wp2_with ((go_at_call 81; (with_reducible refine ((c1 _ (H.out.alloc _)).out).mono ?_); rintro e w1 ⟨rfl, hb_w1⟩; have hs_w1 := hb_w1.size; (try simp at hs_w1)))
  exact bodyPost_ret (v := .tuple #[.slice none 0 0, .bool false]) (by simp [results, Try.results37, go_sem]) rfl ⟨rfl, (by repeat (first | assumption | exact Below.refl _ _ | (refine below_chain ?_ (by assumption) (by first | omega | (simp <;> omega) | simp)) | (refine Below.alloc ?_ (by first | omega | (simp <;> omega) | simp) _) | (apply below_drewN) | (apply below_drew) | (refine Below.setCell ?_ (by first | omega | (simp <;> omega) | simp) _)))⟩
set_option maxHeartbeats 2000000 in
theorem iTravelPoints_off (h : Ints w p (Poly.fl L)) (hn : L.length = n) (ht : tvV L = true) (hb : (wayT (x, y) L).all pvP = false) :
    Calls Try.prog 37 #[.agg #[.int .i64 x, .int .i64 y], .slice p n c] w fun e w' => e = .returned (.tuple #[.slice none 0 0, .bool false]) ∧ Below w.heap.size w w' := by
  have hl := tvV_len ht
  have hn1 : n + 1 ≤ 1000 := by omega
  have H := Lib.hid (And.intro h (And.intro hn ht))
  have hw : (wayW (x, y) L).all pvP = false := by rw [(wayW_of L (x, y) (fun s hs => tvV_mem ht hs)).1]; exact hb
  have c1 := fun w h => Lib.hid (iTravOf_yes (p := p) (n := n) (c := c) (L := L) (w := w) h hn ht)
  have c2 := fun m t w h => Lib.hid (iTPoints m n L t x y w h hn (by omega))
  have c3 := fun p c w h => Lib.hid (pointsValidN (p := p) (n := n + 1) (c := c) (L := wayW (x, y) L) (w := w) h (by rw [wayW_len, hn]) hn1 hw)
  clear h hn hb ht hw
  go_enter Try.func37, Try.ntmps37
  go_wp2_with (first
    | ((go_at_call 81; (with_reducible refine ((c1 _ (H.out.1.alloc _)).out).mono ?_); rintro e w1 ⟨t, rfl, hT, hb_w1⟩; have hs_w1 := hb_w1.size; (try simp at hs_w1)); obtain ⟨hc_w1, hf_w1⟩ := bcell hb_w1; have hz1 : w.heap.size < w1.heap.size := (by omega); have HT := Lib.hid hT; clear hT)
    | ((go_at_call 85; (with_reducible refine (placeOf_any _ _ _).mono ?_); rintro e w2 ⟨rfl, hb_w2⟩; have hs_w2 := hb_w2.size; (try simp at hs_w2)))
    | ((go_at_call 84; (with_reducible refine ((c2 _ _ _ (HT.out.below hb_w2 (Nat.le_refl _))).out).mono ?_); rintro e w3 ⟨g, cap, rfl, hg, ho, hb_w3⟩; have hs_w3 := hb_w3.size; (try simp at hs_w3)))
    | ((go_at_call 86; (with_reducible refine ((c3 _ _ _ ho.pts).out).mono ?_); rintro e w4 ⟨rfl, hb_w4⟩; have hs_w4 := hb_w4.size; (try simp at hs_w4))))
  exact bodyPost_ret (v := .tuple #[.slice none 0 0, .bool false]) (by simp [results, Try.results37, go_sem]) rfl ⟨rfl, (by repeat (first | assumption | exact Below.refl _ _ | (refine below_chain ?_ (by assumption) (by first | omega | (simp <;> omega) | simp)) | (refine Below.alloc ?_ (by first | omega | (simp <;> omega) | simp) _) | (apply below_drewN) | (apply below_drew) | (refine Below.setCell ?_ (by first | omega | (simp <;> omega) | simp) _)))⟩
set_option maxHeartbeats 2000000 in
theorem iTravelPoints_yes (h : Ints w p (Poly.fl L)) (hn : L.length = n) (hg : goT (x, y) L = true) :
    Calls Try.prog 37 #[.agg #[.int .i64 x, .int .i64 y], .slice p n c] w fun e w' => ∃ g cap, e = .returned (.tuple #[.slice (some ⟨g, 0, none⟩) (n + 1) cap, .bool true]) ∧ w.heap.size ≤ g ∧ Own w' g 31 2 (n + 1) cap (Poly.fl (wayT (x, y) L)) ∧ Below w.heap.size w w' := by
  have ht := (goT_parts hg).1
  have ha : (wayT (x, y) L).all pvP = true := by unfold goT at hg; simp only [Bool.and_eq_true] at hg; exact hg.2
  have hl := tvV_len ht
  have hn1 : n + 1 ≤ 1000 := by omega
  have hW := wayW_of L (x, y) (fun s hs => tvV_mem ht hs)
  have H := Lib.hid (And.intro h (And.intro hn (hW.2 ha)))
  have hw : (wayW (x, y) L).all pvP = true := by rw [hW.1]; exact ha
  have c1 := fun w h => Lib.hid (iTravOf_yes (p := p) (n := n) (c := c) (L := L) (w := w) h hn ht)
  have c2 := fun m t w h => Lib.hid (iTPoints m n L t x y w h hn (by omega))
  have c3 := fun p c w h => Lib.hid (pointsValidN (p := p) (n := n + 1) (c := c) (L := wayW (x, y) L) (w := w) h (by rw [wayW_len, hn]) hn1 hw)
  clear h hn ha ht hw hg hW
  go_enter Try.func37, Try.ntmps37
  go_wp2_with (first
    | ((go_at_call 81; (with_reducible refine ((c1 _ (H.out.1.alloc _)).out).mono ?_); rintro e w1 ⟨t, rfl, hT, hb_w1⟩; have hs_w1 := hb_w1.size; (try simp at hs_w1)); obtain ⟨hc_w1, hf_w1⟩ := bcell hb_w1; have hz1 : w.heap.size < w1.heap.size := (by omega); have HT := Lib.hid hT; clear hT)
    | ((go_at_call 85; (with_reducible refine (placeOf_any _ _ _).mono ?_); rintro e w2 ⟨rfl, hb_w2⟩; have hs_w2 := hb_w2.size; (try simp at hs_w2)))
    | ((go_at_call 84; (with_reducible refine ((c2 _ _ _ (HT.out.below hb_w2 (Nat.le_refl _))).out).mono ?_); rintro e w3 ⟨g, cap, rfl, hg, ho, hb_w3⟩; have hs_w3 := hb_w3.size; (try simp at hs_w3)))
    | ((go_at_call 86; (with_reducible refine ((c3 _ _ _ ho.pts).out).mono ?_); rintro e w4 ⟨rfl, hb_w4⟩; have hs_w4 := hb_w4.size; (try simp at hs_w4))))
  exact bodyPost_ret (v := .tuple #[.slice (some ⟨g, 0, none⟩) (n + 1) cap, .bool true]) (by simp [results, Try.results37, go_sem]) rfl ⟨g, cap, rfl, by omega, by rw [← H.out.2.2]; exact ho.below hb_w4, (by repeat (first | assumption | exact Below.refl _ _ | (refine below_chain ?_ (by assumption) (by first | omega | (simp <;> omega) | simp)) | (refine Below.alloc ?_ (by first | omega | (simp <;> omega) | simp) _) | (apply below_drewN) | (apply below_drew) | (refine Below.setCell ?_ (by first | omega | (simp <;> omega) | simp) _)))⟩
end
section
variable {p : Option Addr} {n c : Nat} {L : List P2} {w : World} {x y : Int}
theorem goT_no (h : goT (x, y) L = false) : tvV L = false ∨ (tvV L = true ∧ (wayT (x, y) L).all pvP = false) := by
  unfold goT at h
  cases ht : tvV L with
  | false => exact .inl rfl
  | true => rw [ht] at h; simp only [Bool.true_and] at h; exact .inr ⟨rfl, h⟩
theorem iTravelPoints_no (h : Ints w p (Poly.fl L)) (hn : L.length = n) (hg : goT (x, y) L = false) :
    Calls Try.prog 37 #[.agg #[.int .i64 x, .int .i64 y], .slice p n c] w fun e w' => e = .returned (.tuple #[.slice none 0 0, .bool false]) ∧ Below w.heap.size w w' := by
  rcases goT_no hg with h1 | ⟨h1, h2⟩
  · exact iTravelPoints_not h hn h1
  · exact iTravelPoints_off h hn h1 h2
set_option maxHeartbeats 2000000 in
theorem iTravelEnd_no (h : Ints w p (Poly.fl L)) (hn : L.length = n) (hg : goT (x, y) L = false) :
    Calls Try.prog 33 #[.agg #[.int .i64 x, .int .i64 y], .slice p n c] w fun e w' => e = .returned (.tuple #[.agg #[.int .i64 0, .int .i64 0], .bool false]) ∧ Below w.heap.size w w' := by
  have H := Lib.hid h
  have c1 := fun w h => Lib.hid (iTravelPoints_no (p := p) (n := n) (c := c) (L := L) (w := w) h hn hg)
  clear h hn hg
  go_enter Try.func33, Try.ntmps33
  go_wp2_with ((go_at_call 37; (with_reducible refine ((c1 _ ((H.out.alloc _).alloc _)).out).mono ?_); rintro e w1 ⟨rfl, hb_w1⟩; have hs_w1 := hb_w1.size; (try simp at hs_w1)); obtain ⟨hc_w1, hf_w1⟩ := bcell hb_w1; have hz1 : w.heap.size < w1.heap.size := (by omega); have k0 : w1.cell? ⟨w.heap.size + 1, 0, none⟩ = some (.int .i64 0) := (by rw [hc_w1 _ _ (by simp)]; simp [go_sem]); have k1 : w1.cell? ⟨w.heap.size + 1, 1, none⟩ = some (.int .i64 0) := (by rw [hc_w1 _ _ (by simp)]; simp [go_sem]); have kf : w1.frozen? ⟨w.heap.size + 1, 0, none⟩ = false := (by rw [hf_w1 _ _ (by simp)]; simp [go_sem]); have kg : w1.frozen? ⟨w.heap.size + 1, 1, none⟩ = false := (by rw [hf_w1 _ _ (by simp)]; simp [go_sem]))
  exact bodyPost_ret (v := .tuple #[.agg #[.int .i64 0, .int .i64 0], .bool false]) (by simp [results, Try.results33, go_sem, k0, k1]) rfl ⟨rfl, (by repeat (first | assumption | exact Below.refl _ _ | (refine below_chain ?_ (by assumption) (by first | omega | (simp <;> omega) | simp)) | (refine Below.alloc ?_ (by first | omega | (simp <;> omega) | simp) _) | (apply below_drewN) | (apply below_drew) | (refine Below.setCell ?_ (by first | omega | (simp <;> omega) | simp) _)))⟩
set_option maxHeartbeats 2000000 in
theorem iTravelEnd_yes {e : P2} (h : Ints w p (Poly.fl L)) (hn : L.length = n) (hg : goT (x, y) L = true) (he : endT (x, y) L = e) :
    Calls Try.prog 33 #[.agg #[.int .i64 x, .int .i64 y], .slice p n c] w fun r w' => r = .returned (.tuple #[.agg #[.int .i64 e.1, .int .i64 e.2], .bool true]) ∧ Below w.heap.size w w' := by
  have H := Lib.hid h
  have hlen := tvV_len (goT_parts hg).1
  have hl : Hid ((wayT (x, y) L)[n]? = some e) := Lib.hid (by rw [← hn, ← he]; exact wayT_last L (x, y))
  have h12 : n ≤ 12 := by omega
  have c1 := fun w h => Lib.hid (iTravelPoints_yes (p := p) (n := n) (c := c) (L := L) (w := w) h hn hg)
  have hi : ((n : Int) + 1) - 1 = (n : Int) := by omega
  have hin : (n : Int) < (n : Int) + 1 := by omega
  clear h hn hg he hlen
  go_enter Try.func33, Try.ntmps33
  go_wp2_with ((go_at_call 37; (with_reducible refine ((c1 _ ((H.out.alloc _).alloc _)).out).mono ?_); rintro e w1 ⟨g, cap, rfl, hg, ho, hb_w1⟩; have hs_w1 := hb_w1.size; (try simp at hs_w1)); obtain ⟨hc_w1, hf_w1⟩ := bcell hb_w1; have hz1 : w.heap.size < w1.heap.size := (by omega); have k0 : w1.cell? ⟨w.heap.size + 1, 0, none⟩ = some (.int .i64 0) := (by rw [hc_w1 _ _ (by simp)]; simp [go_sem]); have k1 : w1.cell? ⟨w.heap.size + 1, 1, none⟩ = some (.int .i64 0) := (by rw [hc_w1 _ _ (by simp)]; simp [go_sem]); have kf : w1.frozen? ⟨w.heap.size + 1, 0, none⟩ = false := (by rw [hf_w1 _ _ (by simp)]; simp [go_sem]); have kg : w1.frozen? ⟨w.heap.size + 1, 1, none⟩ = false := (by rw [hf_w1 _ _ (by simp)]; simp [go_sem]); have x0 := ho.cells (fl_at hl.out).1; have x1 := ho.cells (fl_at hl.out).2; clear ho)
  exact bodyPost_ret (v := .tuple #[.agg #[.int .i64 e.1, .int .i64 e.2], .bool true]) (by simp [results, Try.results33, go_sem, k0, k1]) rfl ⟨rfl, (by repeat (first | assumption | exact Below.refl _ _ | (refine below_chain ?_ (by assumption) (by first | omega | (simp <;> omega) | simp)) | (refine Below.alloc ?_ (by first | omega | (simp <;> omega) | simp) _) | (apply below_drewN) | (apply below_drew) | (refine Below.setCell ?_ (by first | omega | (simp <;> omega) | simp) _)))⟩
set_option maxHeartbeats 2000000 in
theorem iTravelLength_no (h : Ints w p (Poly.fl L)) (hn : L.length = n) (hb : tvV L = false) :
    Calls Try.prog 42 #[.slice p n c] w fun e w' => e = .returned (.int .i64 (-1)) ∧ Below w.heap.size w w' := by
  have H := Lib.hid h
  have c1 := fun w h => Lib.hid (iTravOf_no (p := p) (n := n) (c := c) (L := L) (w := w) h hn hb)
  clear h hn hb
  go_enter Try.func42, Try.ntmps42
  go_wp2_with ((go_at_call 81; (with_reducible refine ((c1 _ H.out).out).mono ?_); rintro e w1 ⟨rfl, hb_w1⟩; have hs_w1 := hb_w1.size; (try simp at hs_w1)))
  go_ret
  exact ⟨rfl, hb_w1⟩
set_option maxHeartbeats 2000000 in
theorem iTravelLength_yes {v : Int} (h : Ints w p (Poly.fl L)) (hn : L.length = n) (hb : tvV L = true) (hv : tot (lensT L) = v) :
    Calls Try.prog 42 #[.slice p n c] w fun e w' => e = .returned (.int .i64 v) ∧ Below w.heap.size w w' := by
  have hlen := tvV_len hb
  have H := Lib.hid h
  have c1 := fun w h => Lib.hid (iTravOf_yes (p := p) (n := n) (c := c) (L := L) (w := w) h hn hb)
  have c2 := fun m t w h => Lib.hid (iTLens m n absP rfl L t w h hn (by omega) (fun s hs => tvV_mem hb hs))
  have c3 := fun p c w h => Lib.hid (iTotal n c p (L.map absP) w h (by rw [List.length_map, hn]) (by omega) (fun z hz => by have := lensT_bd hb z hz; omega))
  have hv' : tot (L.map absP) = v := hv
  simp only [hv'] at c3
  clear h hn hb hv hv'
  go_enter Try.func42, Try.ntmps42
  go_wp2_with (first
    | ((go_at_call 81; (with_reducible refine ((c1 _ H.out).out).mono ?_); rintro e w1 ⟨t, rfl, hT, hb_w1⟩; have hs_w1 := hb_w1.size; (try simp at hs_w1)); have HT := Lib.hid hT; clear hT)
    | ((go_at_call 92; (with_reducible refine ((c2 _ _ _ HT.out).out).mono ?_); rintro e w2 ⟨q, cq, rfl, hq, hb_w2⟩; have hs_w2 := hb_w2.size; (try simp at hs_w2)))
    | (go_at_call 82; (with_reducible refine ((c3 _ _ _ hq).out).mono ?_); rintro e w' ⟨rfl, rfl⟩))
  go_ret
  exact ⟨rfl, (by repeat (first | assumption | exact Below.refl _ _ | (refine below_chain ?_ (by assumption) (by first | omega | (simp <;> omega) | simp)) | (refine Below.alloc ?_ (by first | omega | (simp <;> omega) | simp) _) | (apply below_drewN) | (apply below_drew) | (refine Below.setCell ?_ (by first | omega | (simp <;> omega) | simp) _)))⟩
set_option maxHeartbeats 2000000 in
theorem iTravelGap_no (h : Ints w p (Poly.fl L)) (hn : L.length = n) (hb : tvV L = false) :
    Calls Try.prog 35 #[.slice p n c] w fun e w' => e = .returned (.tuple #[.agg #[.int .i64 0, .int .i64 0], .bool false]) ∧ Below w.heap.size w w' := by
  have H := Lib.hid h
  have c1 := fun w h => Lib.hid (iTravOf_no (p := p) (n := n) (c := c) (L := L) (w := w) h hn hb)
  clear h hn hb
  go_enter Try.func35, Try.ntmps35
  go_wp2_with ((go_at_call 81; (with_reducible refine ((c1 _ (H.out.alloc _)).out).mono ?_); rintro e w1 ⟨rfl, hb_w1⟩; have hs_w1 := hb_w1.size; (try simp at hs_w1)); obtain ⟨hc_w1, hf_w1⟩ := bcell hb_w1; have hz1 : w.heap.size < w1.heap.size := (by omega); have k0 : w1.cell? ⟨w.heap.size, 0, none⟩ = some (.int .i64 0) := (by rw [hc_w1 _ _ (by simp)]; simp [go_sem]); have k1 : w1.cell? ⟨w.heap.size, 1, none⟩ = some (.int .i64 0) := (by rw [hc_w1 _ _ (by simp)]; simp [go_sem]); have kf : w1.frozen? ⟨w.heap.size, 0, none⟩ = false := (by rw [hf_w1 _ _ (by simp)]; simp [go_sem]); have kg : w1.frozen? ⟨w.heap.size, 1, none⟩ = false := (by rw [hf_w1 _ _ (by simp)]; simp [go_sem]))
  exact bodyPost_ret (v := .tuple #[.agg #[.int .i64 0, .int .i64 0], .bool false]) (by simp [results, Try.results35, go_sem, k0, k1]) rfl ⟨rfl, (by repeat (first | assumption | exact Below.refl _ _ | (refine below_chain ?_ (by assumption) (by first | omega | (simp <;> omega) | simp)) | (refine Below.alloc ?_ (by first | omega | (simp <;> omega) | simp) _) | (apply below_drewN) | (apply below_drew) | (refine Below.setCell ?_ (by first | omega | (simp <;> omega) | simp) _)))⟩
set_option maxHeartbeats 4000000 in
theorem iTravelGap_yes {v : P2} (h : Ints w p (Poly.fl L)) (hn : L.length = n) (hb : tvV L = true) (hv : gapT L = v) :
    Calls Try.prog 35 #[.slice p n c] w fun e w' => e = .returned (.tuple #[.agg #[.int .i64 v.1, .int .i64 v.2], .bool true]) ∧ Below w.heap.size w w' := by
  have hlen := tvV_len hb
  have H := Lib.hid h
  obtain ⟨v1, v2⟩ := v
  have c1 := fun w h => Lib.hid (iTravOf_yes (p := p) (n := n) (c := c) (L := L) (w := w) h hn hb)
  have c2 := fun m t w h => Lib.hid (iTCoord m n 0 (fun s => s.1) (.inl ⟨rfl, rfl⟩) L t w h hn (by omega) (fun s hs => tvV_mem hb hs))
  have c3 := fun m t w h => Lib.hid (iTCoord m n 1 (fun s => s.2) (.inr ⟨rfl, rfl⟩) L t w h hn (by omega) (fun s hs => tvV_mem hb hs))
  have c4 := fun p c w h => Lib.hid (iTotal n c p (xsT L) w h (by rw [xsT_len, hn]) (by omega) (fun z hz => by have := xsT_bd hb z hz; omega))
  have c5 := fun p c w h => Lib.hid (iTotal n c p (ysT L) w h (by rw [ysT_len, hn]) (by omega) (fun z hz => by have := ysT_bd hb z hz; omega))
  have e1 : tot (xsT L) = v1 := by unfold gapT at hv; injection hv
  have e2 : tot (ysT L) = v2 := by unfold gapT at hv; injection hv
  simp only [e1] at c4
  simp only [e2] at c5
  clear h hn hb hv e1 e2
  go_enter Try.func35, Try.ntmps35
  go_wp2_with (first
    | ((go_at_call 81; (with_reducible refine ((c1 _ (H.out.alloc _)).out).mono ?_); rintro e w1 ⟨t, rfl, hT, hb_w1⟩; have hs_w1 := hb_w1.size; (try simp at hs_w1)); obtain ⟨hc_w1, hf_w1⟩ := bcell hb_w1; have HT := Lib.hid hT; clear hT)
    | ((go_at_call 83; (with_reducible refine ((c2 _ _ _ HT.out).out).mono ?_); rintro e w2 ⟨q, cq, rfl, hq, hb_w2⟩; have hs_w2 := hb_w2.size; (try simp at hs_w2)))
    | (go_at_call 82; (with_reducible refine ((c4 _ _ _ hq).out).mono ?_); rintro e w' ⟨rfl, rfl⟩)
    | ((go_at_call 83; (with_reducible refine ((c3 _ _ _ (HT.out.below hb_w2 (Nat.le_refl _))).out).mono ?_); rintro e w3 ⟨q3, cq3, rfl, hq3, hb_w3⟩; have hs_w3 := hb_w3.size; (try simp at hs_w3)); (have hb13 : Below w1.heap.size w1 w3 := hb_w2.trans (hb_w3.mono hs_w2)); (have lw1 : w.heap.size < w1.heap.size := (by omega)); have k0 : w3.cell? ⟨w.heap.size, 0, none⟩ = some (.int .i64 0) := (by rw [hb13.cell lw1, hc_w1 _ _ (by simp)]; simp [go_sem]); have k1 : w3.cell? ⟨w.heap.size, 1, none⟩ = some (.int .i64 0) := (by rw [hb13.cell lw1, hc_w1 _ _ (by simp)]; simp [go_sem]); have kf : w3.frozen? ⟨w.heap.size, 0, none⟩ = false := (by rw [hb13.frozen lw1, hf_w1 _ _ (by simp)]; simp [go_sem]); have kg : w3.frozen? ⟨w.heap.size, 1, none⟩ = false := (by rw [hb13.frozen lw1, hf_w1 _ _ (by simp)]; simp [go_sem]))
    | (go_at_call 82; (with_reducible refine ((c5 _ _ _ hq3).out).mono ?_); rintro e w' ⟨rfl, rfl⟩))
  exact bodyPost_ret (v := .tuple #[.agg #[.int .i64 v1, .int .i64 v2], .bool true]) (by simp [results, Try.results35, go_sem, k0, k1]) rfl ⟨rfl, (by repeat (first | assumption | exact Below.refl _ _ | (refine below_chain ?_ (by assumption) (by first | omega | (simp <;> omega) | simp)) | (refine Below.alloc ?_ (by first | omega | (simp <;> omega) | simp) _) | (apply below_drewN) | (apply below_drew) | (refine Below.setCell ?_ (by first | omega | (simp <;> omega) | simp) _)))⟩
end
end Go.Proofs.Ytgncjpakclbegaa
