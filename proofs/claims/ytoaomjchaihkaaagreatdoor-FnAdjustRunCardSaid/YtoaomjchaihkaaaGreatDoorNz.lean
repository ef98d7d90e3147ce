/-
  How the laws on draws compare runs, lay heights and fit runs to them.
-/
import Derived.Test.YtoaomjchaihkaaaGreatDoorZf
import Derived.Test.YtoaomjchaihkaaaGreatDoorZg
import Derived.Test.YtoaomjchaihkaaaGreatDoorZa
namespace Go.Proofs.YtoaomjchaihkaaaGreatDoor
open Go.RowKit
set_option linter.unusedVariables false

def Low (L : List Int) : Prop := ∀ (i : Nat) (z : Int), L[i]? = some z → 0 ≤ z ∧ z < 50
theorem Low.snoc {L : List Int} (h : Low L) {z : Int} (h0 : 0 ≤ z) (h1 : z < 50) : Low (L ++ [z]) := fun i y hy => by
  by_cases hi : i < L.length
  · rw [List.getElem?_append_left hi] at hy; exact h i y hy
  · rw [List.getElem?_append_right (by omega)] at hy
    have : i - L.length = 0 := by
      have := (List.getElem?_eq_some_iff.1 hy).1; simp at this; omega
    rw [this] at hy
    simp at hy; subst hy; exact ⟨h0, h1⟩
theorem some_bounds (i : Nat) (hi : i < 6) (x y u : Int) (hx : 0 ≤ x ∧ x ≤ 6) (hy : 0 ≤ y ∧ y ≤ 4) (hu : 0 ≤ u ∧ u ≤ 10) :
    0 ≤ (i : Int) * i ∧ (i : Int) * i ≤ 25 ∧ 0 ≤ (i : Int) * i * x ∧ (i : Int) * i * x ≤ 150 ∧ 0 ≤ 3 * (i : Int) * y ∧ 3 * (i : Int) * y ≤ 60 := by
  have : i = 0 ∨ i = 1 ∨ i = 2 ∨ i = 3 ∨ i = 4 ∨ i = 5 := by omega
  rcases this with rfl | rfl | rfl | rfl | rfl | rfl <;> simp <;> omega
set_option maxHeartbeats 2000000 in
theorem some_is (N k : Nat) (w : World) (hN : N ≤ 6) (hk : k ≤ 1048576) :
    Calls Tryz.prog 15 #[.int .i64 N, .int .i64 k] w fun e w' => ∃ (g cap : Nat) (L : List Int), e = .returned (.slice (some ⟨g, 0, none⟩) N cap) ∧ L.length = N ∧ Low L ∧ w.heap.size ≤ g ∧ Own w' g 3 1 N cap L ∧ Below w.heap.size w w' := by
  have HE := Lib.hid (Own.empty w 3 1)
  obtain ⟨x, hx⟩ : ∃ x, (k : Int).tmod 7 = x := ⟨_, rfl⟩
  obtain ⟨y, hy⟩ : ∃ x, (k : Int).tmod 5 = x := ⟨_, rfl⟩
  obtain ⟨u, hu⟩ : ∃ x, (k : Int).tmod 11 = x := ⟨_, rfl⟩
  have hx1 : 0 ≤ x ∧ x ≤ 6 := by rw [← hx]; exact ⟨Int.tmod_nonneg _ (by omega), by have := Int.tmod_lt_of_pos (k : Int) (show (0 : Int) < 7 by decide); omega⟩
  have hy1 : 0 ≤ y ∧ y ≤ 4 := by rw [← hy]; exact ⟨Int.tmod_nonneg _ (by omega), by have := Int.tmod_lt_of_pos (k : Int) (show (0 : Int) < 5 by decide); omega⟩
  have hu1 : 0 ≤ u ∧ u ≤ 10 := by rw [← hu]; exact ⟨Int.tmod_nonneg _ (by omega), by have := Int.tmod_lt_of_pos (k : Int) (show (0 : Int) < 11 by decide); omega⟩
  go_enter Tryz.func15, Tryz.ntmps15
  go_wp2_with fail
  go_loopw [5, 6] (fun v i wr => ∃ (q g cap : Nat) (L : List Int), q ≤ N ∧ i = .int .i64 q ∧ v = .slice (some ⟨g, 0, none⟩) q cap ∧ L.length = q ∧ Low L ∧ w.heap.size ≤ g ∧ Own wr g 3 1 q cap L ∧ Below w.heap.size w wr) (fun _ i _ => N - (intOf i).toNat)
  case atStart => exact ⟨0, _, _, [], Nat.zero_le _, rfl, rfl, rfl, fun i z h => by simp at h, Nat.le_refl _, HE.out, (by repeat (first | assumption | exact Below.refl _ _ | (refine below_chain ?_ (by assumption) (by first | omega | (simp <;> omega) | simp)) | (refine Below.alloc ?_ (by first | omega | (simp <;> omega) | simp) _) | (apply below_drewN) | (apply below_drew) | (refine Below.setCell ?_ (by first | omega | (simp <;> omega) | simp) _)))⟩
  case round =>
    clear HE
    obtain ⟨q, g, cap, L, hq, rfl, rfl, hLq, hlow, hg, how, hbr⟩ := hrel
    have hbs := hbr.size
    have hlo := how.lt
    have HO := Lib.hid (And.intro hLq (And.intro hlow how))
    clear hLq hlow how
    by_cases hlt : q < N
    · obtain ⟨b1, b2, b3, b4, b5, b6⟩ := some_bounds q (by omega) x y u hx1 hy1 hu1
      obtain ⟨a1, a2⟩ := hx1
      obtain ⟨a3, a4⟩ := hy1
      obtain ⟨a5, a6⟩ := hu1
      obtain ⟨z, hz⟩ : ∃ z, ((q : Int) * q * x + 3 * q * y + u).tmod 50 = z := ⟨_, rfl⟩
      have hz0 : 0 ≤ z := by rw [← hz]; exact Int.tmod_nonneg _ (by omega)
      have hz1 : z < 50 := by rw [← hz]; exact Int.tmod_lt_of_pos _ (by decide)
      go_wp2_with (at_builtin; refine wp_append _ rfl _ _ 30 rfl 3 _ 1 8 Tryz.underlying30 info_int rfl (by decide) (by decide) _ q cap L rfl (HO.out.2.2.alloc _) _ _ _ [z] rfl rfl (one_cell _ _ _) (by omega) ?_; intro g' cap' w' hown hgr hloc hsz; have HN := Lib.hid (And.intro hown (And.intro hgr hloc)); clear hown hgr hloc)
      go_roundw
      case rel =>
        obtain ⟨hown, hgr, hloc⟩ := HN.out
        have hg' : w.heap.size ≤ g' := by
          rcases hloc with rfl | rfl
          · exact hg
          · simp; omega
        exact ⟨q + 1, g', cap', L ++ [z], by omega, by go_num, rfl, by simp [HO.out.1], HO.out.2.1.snoc hz0 hz1, hg', hown, below_gr (hbr.alloc hbs _) hgr hg (by simp; omega)⟩
      case measure => simp [intOf]; omega
    · have e : q = N := by omega
      subst e
      go_wp2_with fail
      go_ret
      exact ⟨g, cap, L, rfl, HO.out.1, HO.out.2.1, hg, HO.out.2.2, hbr⟩

def fitOne (hs : List Int) (r : Rn) : Rn := ⟨r.f, r.t, htAt hs r.t - htAt hs r.f, r.g⟩
def fitL (hs : List Int) (k : Nat) (rs : List Rn) : List Rn := (rs.take k).map (fitOne hs) ++ rs.drop k
theorem fitL_zero (hs : List Int) (rs : List Rn) : fitL hs 0 rs = rs := by simp [fitL]
theorem fitL_len (hs : List Int) (k : Nat) (rs : List Rn) (h : k ≤ rs.length) : (fitL hs k rs).length = rs.length := by simp [fitL]; omega
theorem fitL_all (hs : List Int) (rs : List Rn) : fitL hs rs.length rs = rs.map (fitOne hs) := by simp [fitL]
theorem fitL_at {hs : List Int} {k : Nat} {rs : List Rn} {r : Rn} (h : rs[k]? = some r) : (fitL hs k rs)[k]? = some r := by
  have hlt := (List.getElem?_eq_some_iff.1 h).1
  unfold fitL
  rw [List.getElem?_append_right (by simp; omega)]
  simp
  rw [show min k rs.length = k by omega, Nat.sub_self, Nat.add_zero]; exact h
theorem fitL_set {hs : List Int} {k : Nat} {rs : List Rn} {r : Rn} (h : rs[k]? = some r) : (fitL hs k rs).set k (fitOne hs r) = fitL hs (k + 1) rs := by
  have hlt := (List.getElem?_eq_some_iff.1 h).1
  have e0 : rs.drop k = r :: rs.drop (k + 1) := by
    rw [List.drop_eq_getElem_cons hlt]
    congr 1
    rw [List.getElem?_eq_getElem hlt] at h; exact Option.some.inj h
  unfold fitL
  rw [List.set_append_right _ _ (by simp; omega), e0, show k - ((rs.take k).map (fitOne hs)).length = 0 by simp; omega, List.set_cons_zero, List.take_add_one, h]
  simp
theorem Own.setS {w : World} {g : Nat} {T : TypeId} {n cap : Nat} {rs : List Rn} (h : Own w g T 4 n cap (flat rs)) {i : Nat} {r : Rn} (hi : rs[i]? = some r) (z : Int) : Own (w.setCell ⟨g, i * 4 + 2, none⟩ (.int .i64 z)) g T 4 n cap (flat (rs.set i ⟨r.f, r.t, z, r.g⟩)) := by
  have hlt := (List.getElem?_eq_some_iff.1 hi).1
  have hl := flat_len rs
  have := h.set (i * 4 + 2) z (by omega)
  rw [flat_set _ hlt]
  obtain ⟨h1, h2, h3, h4⟩ := flat_at hi
  have e : (flat rs).set (i * 4 + 2) z = (((((flat rs).set (i * 4) r.f).set (i * 4 + 1) r.t).set (i * 4 + 2) z).set (i * 4 + 3) r.g) := by
    apply List.ext_getElem?
    intro j
    simp only [List.getElem?_set]
    by_cases e3 : i * 4 + 3 = j
    · subst e3; simp [h4, hl]; omega
    · by_cases e2 : i * 4 + 2 = j
      · subst e2; simp [hl]
      · by_cases e1 : i * 4 + 1 = j
        · subst e1; simp [h2, hl]; omega
        · by_cases e0 : i * 4 = j
          · subst e0; simp [h1, hl]; omega
          · simp [e0, e1, e2, e3]
  rw [← e]; exact this

end Go.Proofs.YtoaomjchaihkaaaGreatDoor
