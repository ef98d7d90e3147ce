/-
  Helpers of the laws on loops: contracts that do not part on an empty list, heights that fit, the errors as a truth value.
-/
import Derived.Test.YtimghdffmdcheaaLx
import Derived.Test.YtimghdffmdcheaaNU
import Derived.Test.YtimghdffmdcheaaNy
import Derived.Test.YtimghdffmdcheaaNz
namespace Go.Proofs.Ytimghdffmdcheaa
open Go.RowKit
set_option linter.unusedVariables false

theorem sameInts_at {n : Nat} {zs : List Int} (hn : zs.length = n) (p q : Option Addr) (c d : Nat) (w : World) (hp : Ints w p zs) (hq : Ints w q zs) (hl : n ≤ 4000000000000000000) :
    Calls Try.prog 24 #[.slice p n c, .slice q n d] w fun e w' => e = .returned (.bool true) ∧ Below w.heap.size w w' := by subst hn; exact sameInts_is p q c d zs w hp hq hl
theorem iErrors_any (N m : Nat) (p : Option Addr) (c : Nat) (rs : List Rn) (w : World) (h : Runs w p rs) (hm : rs.length = m) (hw : nWhole N rs = true) :
    Calls Try.prog 31 #[.int .i64 N, .slice p m c] w fun e w' => ∃ (q : Option Addr) (d : Nat), e = .returned (.tuple #[.slice q (errs N rs).length d, .bool true]) ∧ Ints w' q (errs N rs) ∧ Below w.heap.size w w' := by
  refine (iErrors_yes N m p c rs w h hm hw).mono ?_
  rintro e w' ⟨l, v, rfl, ⟨hl, hv⟩, hb⟩
  subst hl
  rcases hv with ⟨h0, rfl⟩ | ⟨g, cap, rfl, hg, ho⟩
  · refine ⟨none, 0, by rw [h0], .inl (List.length_eq_zero_iff.1 h0), hb⟩
  · exact ⟨_, cap, rfl, ho.ints, hb⟩
theorem wrap_id {x : Int} (h : -9223372036854775808 ≤ x) (h2 : x ≤ 9223372036854775807) : IntKind.i64.wrap x = x := by
  rw [IntKind.wrap_i64]; omega
/-- an append, as it runs -/
theorem run_app {P : Program} (w : World) (t ty e : TypeId) (z : Value) (sz bytes : Nat) (ht : P.underlying t = some (.slice e)) (hinfo : (P.info? e).map (fun i => (i.zero, i.size, i.bytes)) = some (some z, sz, bytes)) (hzs : z.cells.size = sz) (hsz : 0 < sz) (hby : bytes ≤ 32)
    (g n cap : Nat) (xs : List Int) (hown : Own w g e sz n cap xs) (ad : Addr) (m c : Nat) (news : List Int) (hl : news.length = m * sz) (hnews : ∀ (j : Nat) (z : Int), news[j]? = some z → w.cell? (ad.add j) = some (.int .i64 z)) (h63 : n + m ≤ 4194304) :
    ∃ g' cap' w', (Builtin.append_ #[t, t] ty #[.slice (some ⟨g, 0, none⟩) n cap, .slice (some ad) m c]).run P w = .ok (.slice (some ⟨g', 0, none⟩) (n + m) cap') w' ∧ Own w' g' e sz (n + m) cap' (xs ++ news) ∧ w.grownBy w' (some g) ∧ (g' = g ∨ g' = w.heap.size) := by
  obtain ⟨i, hi, hzz⟩ := Option.map_eq_some_iff.1 hinfo
  simp only [Prod.mk.injEq] at hzz
  obtain ⟨hz, hs', hb⟩ := hzz
  have h32 : (n + m) * bytes ≤ 4194304 * 32 := Nat.mul_le_mul h63 hby
  obtain ⟨v', w', hr, hown', hg, hnil, hloc⟩ := run_append_own_at (P := P) w 0 t ty e i z sz bytes ht hi hz hs' hb hzs hsz (.slice (some ⟨g, 0, none⟩) n cap) n (ivs xs) (hown.row (Nat.zero_le _)) ad m c (ivs news) (by simpa [ivs] using hl) (by
    intro j u hu
    rw [ivs, List.getElem?_map] at hu
    obtain ⟨z', hz', rfl⟩ := Option.map_eq_some_iff.1 hu
    exact hnews j z' hz') (by
    intro u hu
    rw [ivs, List.mem_map] at hu
    obtain ⟨z', _, rfl⟩ := hu
    rfl) (by unfold maxLen; omega) (by omega) (Nat.zero_le _)
  have hgw : w.grownBy w' (some g) := hg
  obtain ⟨hl', ⟨rfl, h0⟩ | ⟨g', cap', cur, rfl, hb', hgg, h1, h2, h3, h4⟩⟩ := hown'
  · have := hnil.1 rfl
    simp at this
  · exact ⟨g', cap', w', hr, ⟨by simpa [ivs] using hl', .inr ⟨g', cap', cur, rfl, Nat.le_refl _, hgg, h1, h2, h3, by rw [h4]; simp [ivs]⟩⟩, hgw, by simpa [Value.ownBlock] using hloc⟩

section
variable {N : Nat} {rs us vs : List Rn} {L : List Int}
theorem ht_fits' (hw : nWhole N us = true) (h : IsHt N us L) (hv : nOk N vs = true) (hf : ∀ r ∈ vs, htAt L r.t - htAt L r.f = r.s) : nFits N vs L = true := by
  have hn := (whole_iff.1 hw).1
  obtain ⟨h2, h6, -, -⟩ := nOk_true hn
  have hb := ht_low (by omega) (by omega) (nOk_ends hn) (fun i hi => whole_same hw hi) h (fun r hr => by
    obtain ⟨i, hi⟩ := List.getElem?_of_mem hr
    obtain ⟨-, -, -, -, -, a, b, -⟩ := rOk_true ((nOk_true hn).2.2.2 i r hi)
    exact ⟨a, b⟩)
  refine nFits_of hv (htOk_of (by have := h.len; omega) (fun i z _ hz => ?_)) (fun i r hi hr => ?_)
  · have := hb i z hz; unfold hOk; simp; omega
  · have := hf r (List.mem_of_getElem? hr); unfold fitR; simpa using this
/-- no error at all -/
noncomputable def noErr (N : Nat) (rs : List Rn) : Bool := open Classical in decide (∀ e ∈ errs N rs, e = 0)
theorem noErr_closes (hw : nWhole N rs = true) : closes N rs = noErr N rs := by
  unfold noErr
  by_cases h : ∀ e ∈ errs N rs, e = 0
  · rw [closes_true.2 ⟨hw, h⟩, decide_eq_true h]
  · rw [decide_eq_false h]
    cases hc : closes N rs with
    | false => rfl
    | true => exact absurd (closes_true.1 hc).2 h
theorem noErr_fits {H : List Int} (hw : nWhole N rs = true) (hH : IsHt N (sub rs (firstT N rs rs.length)) H) : nFits N rs H = noErr N rs := by
  unfold noErr
  have hz := errs_zero hw hH
  by_cases h : ∀ e ∈ errs N rs, e = 0
  · rw [decide_eq_true h]
    exact ht_fits' (first_tree hw).whole hH (whole_ok hw) (hz.1 h)
  · rw [decide_eq_false h]
    cases hc : nFits N rs H with
    | false => rfl
    | true =>
      refine absurd (hz.2 (fun r hr => ?_)) h
      obtain ⟨i, hi⟩ := List.getElem?_of_mem hr
      exact (nFits_true hc).2.2 i r hi
theorem low_at' {hs : List Int} (hl : Low hs) (x : Int) : 0 ≤ htAt hs x ∧ htAt hs x < 50 := by
  unfold htAt
  cases h : hs[x.toNat]? with
  | none => simp
  | some z => exact hl _ _ h
theorem fit_ok' {hs : List Int} (hn : nOk N rs = true) (hl : Low hs) : nOk N (rs.map (fitOne hs)) = true := by
  obtain ⟨h1, h2, h3, h4⟩ := nOk_true hn
  refine nOk_of h1 h2 (by simpa using h3) (fun i r hi => ?_)
  rw [List.getElem?_map] at hi
  obtain ⟨x, hx, rfl⟩ := Option.map_eq_some_iff.1 hi
  obtain ⟨a1, a2, a3, a4, a5, a6, a7, a8, a9⟩ := rOk_true (h4 i x hx)
  have b1 := low_at' hl x.t
  have b2 := low_at' hl x.f
  exact rOk_of a1 a2 a3 a4 a5 (by simp [fitOne]; omega) (by simp [fitOne]; omega) a8 a9
theorem isL_fit {hs : List Int} (h : IsL N rs L) (hl : Low hs) : IsL N (rs.map (fitOne hs)) L ∧ lsum (rs.map (fitOne hs)) L = 0 := by
  have h1 : IsL N (rs.map (fitOne hs)) L := by
    refine ⟨fit_ok' h.ok hl, h.one, h.most, fun z hz => by have := h.rng z hz; simpa using this, ?_⟩
    obtain ⟨c, hc⟩ := h.loop
    exact ⟨c, (chain_map (g := fitOne hs) (fun _ => rfl) (fun _ => rfl) (fun z hz => ⟨(h.run hz).1, (h.run hz).2.1⟩)).2 hc⟩
  refine ⟨h1, h1.flat (P := htAt hs) (fun r hr => ?_)⟩
  obtain ⟨x, hx, rfl⟩ := List.mem_map.1 hr
  rfl
end
end Go.Proofs.Ytimghdffmdcheaa
