/-
  The corners of a parcel at which it does not go straight on are a parcel of the same area, with as many points on its sides and inside, and go straight on nowhere. No function of the program is named.
-/
import Derived.Test.YtgncjpakclbegaaPko
namespace Poly
variable {L : List P2}

/-- a corner at which it does not go straight on -/
def markB (L : List P2) (i : Nat) : Bool := !(decide (sd (cy L (i + L.length - 1)) (cy L i) (cy L (i + 1)) = 0))
def marksTo (L : List P2) (k : Nat) : List P2 := ((List.range k).filter (markB L)).map (cy L)
def marksL (L : List P2) : List P2 := marksTo L L.length
theorem marksTo_succ (L : List P2) (k : Nat) : marksTo L (k + 1) = marksTo L k ++ (if markB L k then [cy L k] else []) := by
  unfold marksTo
  rw [List.range_succ, List.filter_append, List.map_append]
  cases h : markB L k <;> simp [h]
theorem marks_congr {L M : List P2} : ∀ {k : Nat}, (∀ i, i < k → markB L i = markB M i ∧ cy L i = cy M i) → marksTo L k = marksTo M k
  | 0, _ => rfl
  | k + 1, h => by
    rw [marksTo_succ, marksTo_succ, marks_congr (fun i hi => h i (by omega)), (h k (by omega)).1, (h k (by omega)).2]
theorem marks_all {M : List P2} (h : ∀ i, i < M.length → markB M i = true) : marksL M = M := by
  have key : ∀ k, k ≤ M.length → marksTo M k = M.take k := by
    intro k
    induction k with
    | zero => intro _; simp [marksTo]
    | succ k ih =>
      intro hk
      rw [marksTo_succ, ih (by omega), h k (by omega), List.take_add_one, cy_lt (by omega)]
      rfl
  unfold marksL
  rw [key _ (Nat.le_refl _), List.take_length]
/-- the last corner left out -/
theorem drop_cy {n : Nat} (hn : L.length = n + 1) {i : Nat} (hi : i < n) : cy L.dropLast i = cy L i := by
  unfold cy
  rw [List.length_dropLast, hn, Nat.add_sub_cancel, Nat.mod_eq_of_lt hi, Nat.mod_eq_of_lt (by omega), getD_at (by rw [List.length_dropLast]; omega), getD_at (by omega)]
  simp
theorem drop_cyW {n : Nat} (hn : L.length = n + 1) {i : Nat} (hi : i < n) : cy L.dropLast (n + i) = cy L i := by
  have := cy_add (L := L.dropLast) i
  rw [List.length_dropLast, hn, Nat.add_sub_cancel] at this
  rw [Nat.add_comm, this, drop_cy hn hi]
theorem fold_false {i : Nat} (h : fold L i = false) : onP (cy L i) (cy L (i + 1)) (cy L (i + 2)) = false ∧ onP (cy L (i + 1)) (cy L (i + 2)) (cy L i) = false := by
  unfold fold at h; rw [Bool.or_eq_false_iff] at h; exact h
theorem meet_false {a b c d : P2} (h : meet a b c d = false) : onP a b c = false ∧ onP a b d = false ∧ onP c d a = false ∧ onP c d b = false := by
  unfold meet touch at h
  simp only [Bool.or_eq_false_iff] at h
  exact ⟨h.1.1.1.1, h.1.1.1.2, h.1.1.2, h.1.2⟩
section
variable {n : Nat} (hn : L.length = n + 1)
include hn
theorem cyW (i : Nat) : cy L (n + 1 + i) = cy L i := by have := cy_add (L := L) i; rw [hn] at this; rw [Nat.add_comm]; exact this
/-- the last corner is passed straight on -/
theorem str_last (h2 : 2 ≤ n) (hs : simple L = true) (hm : markB L n = false) : Str (cy L (n - 1)) (cy L n) (cy L 0) := by
  obtain ⟨hf, -⟩ := (simple_far (by omega)).1 hs
  have e0 := cyW hn 0
  rw [Nat.add_zero] at e0
  have f1 := fold_false (hf (n - 1) (by omega))
  rw [show n - 1 + 1 = n by omega, show n - 1 + 2 = n + 1 by omega, e0] at f1
  unfold markB at hm
  rw [hn, show n + (n + 1) - 1 = (n - 1) + (n + 1) by omega, Nat.add_comm (n - 1), cyW hn, e0] at hm
  have hz : sd (cy L (n - 1)) (cy L n) (cy L 0) = 0 := by simpa using hm
  exact str_of ((sd_zero _ _ _).1 hz) f1.1 f1.2
theorem four (h2 : 2 ≤ n) (hs : simple L = true) (hm : markB L n = false) : 3 ≤ n := by
  rcases Nat.lt_or_ge 2 n with h | h
  · exact h
  · exfalso
    obtain rfl : n = 2 := by omega
    have hst := (str_last hn h2 hs hm).between
    obtain ⟨hf, -⟩ := (simple_far (by omega)).1 hs
    have f0 := (fold_false (hf 0 (by omega))).1
    rw [show 2 - 1 = 1 from rfl, onP_swap] at hst
    rw [Nat.zero_add, Nat.zero_add] at f0
    rw [f0] at hst
    cases hst
theorem drop_simple (h3 : 3 ≤ n) (hs : simple L = true) (hm : markB L n = false) : simple L.dropLast = true := by
  have hst := str_last hn (by omega) hs hm
  obtain ⟨hf, hx⟩ := (simple_far (by omega)).1 hs
  have hl : L.dropLast.length = n := by rw [List.length_dropLast, hn]; rfl
  have e0 := cyW hn 0
  have e1 := cyW hn 1
  rw [Nat.add_zero] at e0
  have d0 := drop_cyW hn (i := 0) (by omega)
  have d1 := drop_cyW hn (i := 1) (by omega)
  rw [Nat.add_zero] at d0
  refine (simple_far (by omega)).2 ⟨fun i hi => ?_, fun i k hik hk hne hnl => ?_⟩
  · rw [hl] at hi
    by_cases h1 : i + 2 < n
    · unfold fold
      rw [drop_cy hn hi, drop_cy hn (show i + 1 < n by omega), drop_cy hn h1]
      exact hf i (by omega)
    · by_cases h2 : i + 2 = n
      · -- the side ahead of the joined one
        have hm1 := meet_false (hx i n (by omega) (by omega) (by omega) (by omega))
        rw [e0] at hm1
        have f1 := fold_false (hf i (by omega))
        rw [show i + 1 = n - 1 by omega, show i + 2 = n by omega] at f1
        rw [show i + 1 = n - 1 by omega] at hm1
        unfold fold
        rw [drop_cy hn hi, drop_cy hn (show i + 1 < n by omega), h2, d0, show i + 1 = n - 1 by omega, Bool.or_eq_false_iff]
        refine ⟨hm1.2.1, ?_⟩
        cases hc : onP (cy L (n - 1)) (cy L 0) (cy L i) with
        | false => rfl
        | true =>
          rcases hst.split hc with k | k
          · rw [f1.2] at k; cases k
          · rw [hm1.2.2.1] at k; cases k
      · have hi' : i = n - 1 := by omega
        have hm1 := meet_false (hx 0 (n - 1) (by omega) (by omega) (by omega) (by omega))
        rw [show n - 1 + 1 = n by omega, Nat.zero_add] at hm1
        have f1 := fold_false (hf n (by omega))
        rw [e0, show n + 2 = n + 1 + 1 by omega, e1] at f1
        unfold fold
        rw [hi', drop_cy hn (show n - 1 < n by omega), show n - 1 + 1 = n by omega, show n - 1 + 2 = n + 1 by omega, d0, d1, Bool.or_eq_false_iff]
        refine ⟨?_, hm1.1⟩
        cases hc : onP (cy L (n - 1)) (cy L 0) (cy L 1) with
        | false => rfl
        | true =>
          rcases hst.split hc with k | k
          · rw [hm1.2.2.2] at k; cases k
          · rw [f1.1] at k; cases k
  · rw [hl] at hk hnl
    by_cases h1 : k + 1 < n
    · rw [drop_cy hn (show i < n by omega), drop_cy hn (show i + 1 < n by omega), drop_cy hn hk, drop_cy hn h1]
      exact hx i k hik (by omega) hne (by omega)
    · have hk' : k = n - 1 := by omega
      rw [drop_cy hn (show i < n by omega), drop_cy hn (show i + 1 < n by omega), drop_cy hn hk, show k + 1 = n by omega, d0, hk', ← meet_comm]
      cases hc : meet (cy L (n - 1)) (cy L 0) (cy L i) (cy L (i + 1)) with
      | false => rfl
      | true =>
        rcases hst.meet hc with m | m
        · have := hx i (n - 1) (by omega) (by omega) (by omega) (by omega)
          rw [← meet_comm, show n - 1 + 1 = n by omega, m] at this
          cases this
        · have := hx i n (by omega) (by omega) (by omega) (by omega)
          rw [← meet_comm, e0, m] at this
          cases this
theorem drop_ring (h2 : 2 ≤ n) (f : P2 → P2 → Int) : ringS f L.dropLast + f (cy L (n - 1)) (cy L n) + f (cy L n) (cy L 0) = ringS f L + f (cy L (n - 1)) (cy L 0) := by
  obtain ⟨m, rfl⟩ : ∃ m, n = m + 1 := ⟨n - 1, by omega⟩
  have hl : L.dropLast.length = m + 1 := by rw [List.length_dropLast, hn]; rfl
  have e0 := cyW hn 0
  rw [Nat.add_zero] at e0
  have d0 := drop_cyW hn (i := 0) (by omega)
  rw [Nat.add_zero] at d0
  unfold ringS
  rw [hl, hn]
  show sumF _ m + f (cy L.dropLast m) (cy L.dropLast (m + 1)) + _ + _ = sumF _ m + f (cy L m) (cy L (m + 1)) + f (cy L (m + 1)) (cy L (m + 1 + 1)) + _
  rw [d0, e0, drop_cy hn (show m < m + 1 by omega), Nat.add_sub_cancel,
    sum_congr (f := fun i => f (cy L.dropLast i) (cy L.dropLast (i + 1))) (g := fun i => f (cy L i) (cy L (i + 1))) (fun i hi => by rw [drop_cy hn (show i < m + 1 by omega), drop_cy hn (show i + 1 < m + 1 by omega)])]
  omega
theorem drop_area (h2 : 2 ≤ n) (hs : simple L = true) (hm : markB L n = false) : areaL L.dropLast = areaL L := by
  have h := drop_ring hn h2 crP
  have hst := (str_last hn h2 hs hm).crs0.1
  rw [area_ring, area_ring]
  rw [crs_def] at hst
  have e : crP (cy L (n - 1)) (cy L n) + crP (cy L n) (cy L 0) = crP (cy L (n - 1)) (cy L 0) := by unfold crP Pt.cr; grind
  omega
theorem drop_edge (h2 : 2 ≤ n) (hs : simple L = true) (hm : markB L n = false) : edgeL L.dropLast = edgeL L := by
  have h := drop_ring hn h2 gapP
  have hst := (str_last hn h2 hs hm).between
  have e := Pt.on_split (ax := (cy L (n - 1)).1) (ay := (cy L (n - 1)).2) (bx := (cy L 0).1) (b_y := (cy L 0).2) (cx := (cy L n).1) (cy := (cy L n).2) hst
  have e' : gapP (cy L (n - 1)) (cy L n) + gapP (cy L n) (cy L 0) = gapP (cy L (n - 1)) (cy L 0) := e
  rw [edge_ring, edge_ring]
  omega
theorem drop_marks (h3 : 3 ≤ n) (hs : simple L = true) (hm : markB L n = false) : marksL L.dropLast = marksL L := by
  have hst := str_last hn (by omega) hs hm
  have hl : L.dropLast.length = n := by rw [List.length_dropLast, hn]; rfl
  have e0 := cyW hn 0
  rw [Nat.add_zero] at e0
  have d0 := drop_cyW hn (i := 0) (by omega)
  rw [Nat.add_zero] at d0
  unfold marksL
  rw [hl, hn, marksTo_succ, hm]
  simp only [Bool.false_eq_true, if_false, List.append_nil]
  refine marks_congr (fun i hi => ⟨?_, drop_cy hn hi⟩)
  unfold markB
  rw [hl, hn]
  congr 1
  apply decide_eq_decide.2
  by_cases h0 : i = 0
  · subst h0
    rw [Nat.zero_add, Nat.zero_add, Nat.zero_add, drop_cy hn (show n - 1 < n by omega), drop_cy hn (show 0 < n by omega), drop_cy hn (show 1 < n by omega), show n + 1 - 1 = n by omega, ← hst.right]
  · have a1 : cy L.dropLast (i + n - 1) = cy L (i - 1) := by rw [show i + n - 1 = n + (i - 1) by omega, drop_cyW hn (by omega)]
    have a2 : cy L (i + (n + 1) - 1) = cy L (i - 1) := by rw [show i + (n + 1) - 1 = n + 1 + (i - 1) by omega, cyW hn]
    rw [a1, a2, drop_cy hn hi]
    by_cases h1 : i + 1 < n
    · rw [drop_cy hn h1]
    · rw [show i + 1 = n by omega, d0, show i = n - 1 by omega, ← hst.from]
end
theorem okP_drop (h : okP L = true) (h4 : 4 ≤ L.length) : okP L.dropLast = true := by
  have hl := okP_len h
  refine okP_of (by rw [List.length_dropLast]; omega) (by rw [List.length_dropLast]; omega) (fun i hi => ?_)
  rw [List.length_dropLast] at hi
  rw [drop_cy (n := L.length - 1) (by omega) (by omega)]
  exact okP_at h _
/-- the marks begun elsewhere -/
theorem markB_mod (i : Nat) (h : 0 < L.length) : markB L (i % L.length) = markB L i := by
  have e : ∀ j : Nat, cy L (i % L.length + j) = cy L (i + j) := fun j => by unfold cy; rw [Nat.mod_add_mod]
  unfold markB
  rw [show i % L.length + L.length - 1 = i % L.length + (L.length - 1) by omega, show i + L.length - 1 = i + (L.length - 1) by omega, e, e, cy_mod]
theorem markB_beg {s : Nat} (hs : s < L.length) (i : Nat) : markB (begL L s) i = markB L (i + s) := by
  unfold markB
  rw [beg_len (by omega), cy_beg hs, cy_beg hs, cy_beg hs, show i + L.length - 1 + s = i + s + L.length - 1 by omega, show i + 1 + s = i + s + 1 by omega]
def marksFrom (L : List P2) (s k : Nat) : List P2 := ((List.range' s k).filter (markB L)).map (cy L)
theorem from_succ (L : List P2) (s k : Nat) : marksFrom L s (k + 1) = marksFrom L s k ++ (if markB L (s + k) then [cy L (s + k)] else []) := by
  unfold marksFrom
  rw [List.range'_concat, List.filter_append, List.map_append]
  simp only [Nat.one_mul]
  cases h : markB L (s + k) <;> simp [h]
theorem to_split (L : List P2) (s : Nat) : ∀ k, marksTo L (s + k) = marksTo L s ++ marksFrom L s k
  | 0 => by simp [marksFrom]
  | k + 1 => by rw [show s + (k + 1) = s + k + 1 by omega, marksTo_succ, to_split L s k, from_succ, List.append_assoc]
theorem beg_from {s : Nat} (hs : s < L.length) : ∀ k, k ≤ L.length - s → marksTo (begL L s) k = marksFrom L s k
  | 0, _ => rfl
  | k + 1, hk => by rw [marksTo_succ, beg_from hs k (by omega), from_succ, markB_beg hs, cy_beg hs, Nat.add_comm k s]
theorem beg_wrap {s : Nat} (hs : s < L.length) : ∀ k, k ≤ s → marksFrom (begL L s) (L.length - s) k = marksTo L k
  | 0, _ => rfl
  | k + 1, hk => by
    have e : ∀ j : Nat, cy L (L.length - s + k + s + j) = cy L (k + j) := fun j => by rw [show L.length - s + k + s + j = k + j + L.length by omega, cy_add]
    have em : markB L (L.length - s + k + s) = markB L k := by
      unfold markB
      rw [show L.length - s + k + s + L.length - 1 = L.length - s + k + s + (L.length - 1) by omega, e, show k + L.length - 1 = k + (L.length - 1) by omega, e, show L.length - s + k + s = L.length - s + k + s + 0 by omega, e]
      rfl
    rw [from_succ, beg_wrap hs k (by omega), marksTo_succ, markB_beg hs, cy_beg hs, em, show L.length - s + k + s = L.length - s + k + s + 0 by omega, e]
    rfl
theorem marks_beg {s : Nat} (hs : s < L.length) : ∃ U V, marksL L = U ++ V ∧ marksL (begL L s) = V ++ U := by
  refine ⟨marksTo L s, marksFrom L s (L.length - s), ?_, ?_⟩
  · unfold marksL
    have := to_split L s (L.length - s)
    rw [show s + (L.length - s) = L.length by omega] at this
    exact this
  · unfold marksL
    rw [beg_len (by omega)]
    have := to_split (begL L s) (L.length - s) s
    rw [show L.length - s + s = L.length by omega, beg_from hs _ (Nat.le_refl _), beg_wrap hs s (Nat.le_refl _)] at this
    exact this
structure Good (O : List P2) (A E : Int) : Prop where
  valid : polyV O = true
  area : areaL O = A
  edge : edgeL O = E
  all : ∀ i, i < O.length → markB O i = true
theorem edge_beg {k : Nat} (h : k < L.length) : edgeL (begL L k) = edgeL L := by
  rw [edge_ring, edge_ring]
  unfold ringS
  rw [beg_len (by omega)]
  rw [← sum_shift (g := fun i => gapP (cy L i) (cy L (i + 1))) (n := L.length) (fun i => by
    show gapP (cy L (i + L.length)) (cy L (i + L.length + 1)) = _
    rw [show i + L.length + 1 = i + 1 + L.length by omega, cy_add, cy_add]) k]
  refine sum_congr (fun i _ => ?_)
  rw [cy_beg h, cy_beg h, show i + 1 + k = i + k + 1 by omega]
theorem Good.turn {U V : List P2} {A E : Int} (h : Good (V ++ U) A E) : Good (U ++ V) A E := by
  by_cases hU : U = []
  · subst hU; simpa using h
  · have hlt : V.length < (V ++ U).length := by
      rw [List.length_append]
      have : 0 < U.length := List.length_pos_iff.2 hU
      omega
    have e : U ++ V = begL (V ++ U) V.length := by unfold begL; simp
    rw [e]
    refine ⟨polyV_beg h.valid hlt, (area_beg hlt).trans h.area, (edge_beg hlt).trans h.edge, fun i hi => ?_⟩
    rw [markB_beg hlt, ← markB_mod _ (by omega)]
    exact h.all _ (Nat.mod_lt _ (by omega))
theorem marks_good : ∀ (n : Nat) {L : List P2}, L.length = n → polyV L = true → Good (marksL L) (areaL L) (edgeL L) := by
  intro n
  induction n with
  | zero => intro L hl hv; have := okP_len (polyV_parts hv).1; omega
  | succ n ih =>
    intro L hl hv
    obtain ⟨hok, hs⟩ := polyV_parts hv
    have hl3 := okP_len hok
    by_cases hall : ∀ i, i < L.length → markB L i = true
    · rw [marks_all hall]
      exact ⟨hv, rfl, rfl, hall⟩
    · have hex : ∃ k, k < L.length ∧ markB L k = false := by
        refine Classical.byContradiction (fun hno => hall (fun i hi => ?_))
        cases e : markB L i with
        | true => rfl
        | false => exact absurd ⟨i, hi, e⟩ hno
      obtain ⟨k, hk, hmk⟩ := hex
      -- a list whose last corner is passed straight on
      have step : ∀ {M : List P2}, M.length = n + 1 → polyV M = true → markB M n = false → Good (marksL M) (areaL M) (edgeL M) := by
        intro M hM hMv hMm
        obtain ⟨hMok, hMs⟩ := polyV_parts hMv
        have h3 := four hM (by omega) hMs hMm
        have hv' : polyV M.dropLast = true := by
          unfold polyV
          rw [okP_drop hMok (by omega), drop_simple hM h3 hMs hMm]
          rfl
        have := ih (L := M.dropLast) (by rw [List.length_dropLast, hM]; rfl) hv'
        rw [drop_marks hM h3 hMs hMm, drop_area hM (by omega) hMs hMm, drop_edge hM (by omega) hMs hMm] at this
        exact this
      by_cases hkl : k + 1 = L.length
      · exact step hl hv (by rw [show n = k by omega]; exact hmk)
      · have hs' : k + 1 < L.length := by omega
        obtain ⟨U, V, e1, e2⟩ := marks_beg hs'
        have hg := step (M := begL L (k + 1)) (by rw [beg_len (by omega)]; exact hl) (polyV_beg hv hs') (by
          rw [markB_beg hs', show n + (k + 1) = k + L.length by omega, ← markB_mod _ (by omega), Nat.add_mod_right, Nat.mod_eq_of_lt hk]; exact hmk)
        rw [e2, area_beg hs', edge_beg hs'] at hg
        rw [e1]
        exact hg.turn
theorem marks_parV (h : parV L = true) : parV (marksL L) = true ∧ areaL (marksL L) = areaL L ∧ edgeL (marksL L) = edgeL L ∧ insideL (marksL L) = insideL L ∧ marksL (marksL L) = marksL L ∧ ∀ i, i < (marksL L).length → markB (marksL L) i = true := by
  have hg := marks_good L.length rfl (parV_poly h)
  refine ⟨parV_mk hg.valid (by rw [hg.area]; exact parV_area h), hg.area, hg.edge, ?_, marks_all hg.all, hg.all⟩
  unfold insideL
  rw [hg.area, hg.edge]
theorem marksTo_le (L : List P2) : ∀ k, (marksTo L k).length ≤ k
  | 0 => Nat.le_refl _
  | k + 1 => by
    rw [marksTo_succ, List.length_append]
    have := marksTo_le L k
    split <;> simp <;> omega
end Poly
