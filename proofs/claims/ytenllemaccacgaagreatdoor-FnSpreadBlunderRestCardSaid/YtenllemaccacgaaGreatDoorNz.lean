/-
  How the laws on draws compare runs, lay heights and fit runs to them.
-/
import Derived.Test.YtenllemaccacgaaGreatDoorZf
import Derived.Test.YtenllemaccacgaaGreatDoorZg
import Derived.Test.YtenllemaccacgaaGreatDoorZa
namespace Go.Proofs.YtenllemaccacgaaGreatDoor
open Go.RowKit
set_option linter.unusedVariables false

def Low (L : List Int) : Prop := ∀ (i : Nat) (z : Int), L[i]? = some z → 0 ≤ z ∧ z < 50
theorem Low.snoc {L : List Int} (h : Low L) {z : Int} (h0 : 0 ≤ z) (h1 : z < 50) : Low (L ++ [z]) := fun i y hy => by
  by_cases hi : i < L.length
  · rw [List.getElem?_append_left hi] at hy; exact h i y hy
  · rw [List.getElem?_append_right (by omega)] at hy
    have : i - L.length = 0 := by
      have := (List.getElem?_eq_some_iff.1 hy).1; simp at this; omega
    rw [this] at hy
    simp at hy; subst hy; exact ⟨h0, h1⟩
theorem some_bounds (i : Nat) (hi : i < 6) (x y u : Int) (hx : 0 ≤ x ∧ x ≤ 6) (hy : 0 ≤ y ∧ y ≤ 4) (hu : 0 ≤ u ∧ u ≤ 10) :
    0 ≤ (i : Int) * i ∧ (i : Int) * i ≤ 25 ∧ 0 ≤ (i : Int) * i * x ∧ (i : Int) * i * x ≤ 150 ∧ 0 ≤ 3 * (i : Int) * y ∧ 3 * (i : Int) * y ≤ 60 := by
  have : i = 0 ∨ i = 1 ∨ i = 2 ∨ i = 3 ∨ i = 4 ∨ i = 5 := by omega
  rcases this with rfl | rfl | rfl | rfl | rfl | rfl <;> simp <;> omega
set_option maxHeartbeats 2000000 in
theorem some_is (N k : Nat) (w : World) (hN : N ≤ 6) (hk : k ≤ 1048576) :
    Calls Tryz.prog 10 #[.int .i64 N, .int .i64 k] w fun e w' => ∃ (g cap : Nat) (L : List Int), e = .returned (.slice (some ⟨g, 0, none⟩) N cap) ∧ L.length = N ∧ Low L ∧ w.heap.size ≤ g ∧ Own w' g 3 1 N cap L ∧ Below w.heap.size w w' := by
  have HE := Lib.hid (Own.empty w 3 1)
  obtain ⟨x, hx⟩ : ∃ x, (k : Int).tmod 7 = x := ⟨_, rfl⟩
  obtain ⟨y, hy⟩ : ∃ x, (k : Int).tmod 5 = x := ⟨_, rfl⟩
  obtain ⟨u, hu⟩ : ∃ x, (k : Int).tmod 11 = x := ⟨_, rfl⟩
  have hx1 : 0 ≤ x ∧ x ≤ 6 := by rw [← hx]; exact ⟨Int.tmod_nonneg _ (by omega), by have := Int.tmod_lt_of_pos (k : Int) (show (0 : Int) < 7 by decide); omega⟩
  have hy1 : 0 ≤ y ∧ y ≤ 4 := by rw [← hy]; exact ⟨Int.tmod_nonneg _ (by omega), by have := Int.tmod_lt_of_pos (k : Int) (show (0 : Int) < 5 by decide); omega⟩
  have hu1 : 0 ≤ u ∧ u ≤ 10 := by rw [← hu]; exact ⟨Int.tmod_nonneg _ (by omega), by have := Int.tmod_lt_of_pos (k : Int) (show (0 : Int) < 11 by decide); omega⟩
  go_enter Tryz.func10, Tryz.ntmps10
  go_wp2_with fail
  go_loopw [5, 6] (fun v i wr => ∃ (q g cap : Nat) (L : List Int), q ≤ N ∧ i = .int .i64 q ∧ v = .slice (some ⟨g, 0, none⟩) q cap ∧ L.length = q ∧ Low L ∧ w.heap.size ≤ g ∧ Own wr g 3 1 q cap L ∧ Below w.heap.size w wr) (fun _ i _ => N - (intOf i).toNat)
  case atStart => exact ⟨0, _, _, [], Nat.zero_le _, rfl, rfl, rfl, fun i z h => by simp at h, Nat.le_refl _, HE.out, (by repeat (first | assumption | exact Below.refl _ _ | (refine below_chain ?_ (by assumption) (by first | omega | (simp <;> omega) | simp)) | (refine Below.alloc ?_ (by first | omega | (simp <;> omega) | simp) _) | (apply below_drewN) | (apply below_drew) | (refine Below.setCell ?_ (by first | omega | (simp <;> omega) | simp) _)))⟩
  case round =>
    clear HE
    obtain ⟨q, g, cap, L, hq, rfl, rfl, hLq, hlow, hg, how, hbr⟩ := hrel
    have hbs := hbr.size
    have hlo := how.lt
    have HO := Lib.hid (And.intro hLq (And.intro hlow how))
    clear hLq hlow how
    by_cases hlt : q < N
    · obtain ⟨b1, b2, b3, b4, b5, b6⟩ := some_bounds q (by omega) x y u hx1 hy1 hu1
      obtain ⟨a1, a2⟩ := hx1
      obtain ⟨a3, a4⟩ := hy1
      obtain ⟨a5, a6⟩ := hu1
      obtain ⟨z, hz⟩ : ∃ z, ((q : Int) * q * x + 3 * q * y + u).tmod 50 = z := ⟨_, rfl⟩
      have hz0 : 0 ≤ z := by rw [← hz]; exact Int.tmod_nonneg _ (by omega)
      have hz1 : z < 50 := by rw [← hz]; exact Int.tmod_lt_of_pos _ (by decide)
      go_wp2_with (at_builtin; refine wp_append _ rfl _ _ 31 rfl 3 _ 1 8 Tryz.underlying31 info_int rfl (by decide) (by decide) _ q cap L rfl (HO.out.2.2.alloc _) _ _ _ [z] rfl rfl (one_cell _ _ _) (by omega) ?_; intro g' cap' w' hown hgr hloc hsz; have HN := Lib.hid (And.intro hown (And.intro hgr hloc)); clear hown hgr hloc)
      go_roundw
      case rel =>
        obtain ⟨hown, hgr, hloc⟩ := HN.out
        have hg' : w.heap.size ≤ g' := by
          rcases hloc with rfl | rfl
          · exact hg
          · simp; omega
        exact ⟨q + 1, g', cap', L ++ [z], by omega, by go_num, rfl, by simp [HO.out.1], HO.out.2.1.snoc hz0 hz1, hg', hown, below_gr (hbr.alloc hbs _) hgr hg (by simp; omega)⟩
      case measure => simp [intOf]; omega
    · have e : q = N := by omega
      subst e
      go_wp2_with fail
      go_ret
      exact ⟨g, cap, L, rfl, HO.out.1, HO.out.2.1, hg, HO.out.2.2, hbr⟩

def fitOne (hs : List Int) (r : Rn) : Rn := ⟨r.f, r.t, htAt hs r.t - htAt hs r.f, r.g⟩
def fitL (hs : List Int) (k : Nat) (rs : List Rn) : List Rn := (rs.take k).map (fitOne hs) ++ rs.drop k
theorem fitL_zero (hs : List Int) (rs : List Rn) : fitL hs 0 rs = rs := by simp [fitL]
theorem fitL_len (hs : List Int) (k : Nat) (rs : List Rn) (h : k ≤ rs.length) : (fitL hs k rs).length = rs.length := by simp [fitL]; omega
theorem fitL_all (hs : List Int) (rs : List Rn) : fitL hs rs.length rs = rs.map (fitOne hs) := by simp [fitL]
theorem fitL_at {hs : List Int} {k : Nat} {rs : List Rn} {r : Rn} (h : rs[k]? = some r) : (fitL hs k rs)[k]? = some r := by
  have hlt := (List.getElem?_eq_some_iff.1 h).1
  unfold fitL
  rw [List.getElem?_append_right (by simp; omega)]
  simp
  rw [show min k rs.length = k by omega, Nat.sub_self, Nat.add_zero]; exact h
theorem fitL_set {hs : List Int} {k : Nat} {rs : List Rn} {r : Rn} (h : rs[k]? = some r) : (fitL hs k rs).set k (fitOne hs r) = fitL hs (k + 1) rs := by
  have hlt := (List.getElem?_eq_some_iff.1 h).1
  have e0 : rs.drop k = r :: rs.drop (k + 1) := by
    rw [List.drop_eq_getElem_cons hlt]
    congr 1
    rw [List.getElem?_eq_getElem hlt] at h; exact Option.some.inj h
  unfold fitL
  rw [List.set_append_right _ _ (by simp; omega), e0, show k - ((rs.take k).map (fitOne hs)).length = 0 by simp; omega, List.set_cons_zero, List.take_add_one, h]
  simp
theorem Own.setS {w : World} {g : Nat} {T : TypeId} {n cap : Nat} {rs : List Rn} (h : Own w g T 4 n cap (flat rs)) {i : Nat} {r : Rn} (hi : rs[i]? = some r) (z : Int) : Own (w.setCell ⟨g, i * 4 + 2, none⟩ (.int .i64 z)) g T 4 n cap (flat (rs.set i ⟨r.f, r.t, z, r.g⟩)) := by
  have hlt := (List.getElem?_eq_some_iff.1 hi).1
  have hl := flat_len rs
  have := h.set (i * 4 + 2) z (by omega)
  rw [flat_set _ hlt]
  obtain ⟨h1, h2, h3, h4⟩ := flat_at hi
  have e : (flat rs).set (i * 4 + 2) z = (((((flat rs).set (i * 4) r.f).set (i * 4 + 1) r.t).set (i * 4 + 2) z).set (i * 4 + 3) r.g) := by
    apply List.ext_getElem?
    intro j
    simp only [List.getElem?_set]
    by_cases e3 : i * 4 + 3 = j
    · subst e3; simp [h4, hl]; omega
    · by_cases e2 : i * 4 + 2 = j
      · subst e2; simp [hl]
      · by_cases e1 : i * 4 + 1 = j
        · subst e1; simp [h2, hl]; omega
        · by_cases e0 : i * 4 = j
          · subst e0; simp [h1, hl]; omega
          · simp [e0, e1, e2, e3]
  rw [← e]; exact this

set_option maxHeartbeats 4000000 in
theorem fit_is (B o c m : Nat) (q : Option Addr) (d N : Nat) (rs : List Rn) (hs : List Int) (w : World) (h : Runs w (some ⟨B, o, none⟩) rs) (hh : Ints w q hs) (hm : rs.length = m) (hl : m ≤ 12) (hn : nOk N rs = true) (hN : hs.length = N) (hlow : Low hs) :
    Calls Tryz.prog 9 #[.slice (some ⟨B, o, none⟩) m c, .slice q N d] w fun e w' => ∃ (g cap : Nat), e = .returned (.slice (some ⟨g, 0, none⟩) m cap) ∧ w.heap.size ≤ g ∧ Own w' g 34 4 m cap (flat (rs.map (fitOne hs))) ∧ Below w.heap.size w w' := by
  have H := Lib.hid h
  have HI := Lib.hid hh
  have HM := Lib.hid hm
  have hok : Hid (∀ r ∈ rs, 0 ≤ r.f ∧ r.f < (N : Int) ∧ 0 ≤ r.t ∧ r.t < (N : Int)) := Lib.hid (fun r hr => by
    obtain ⟨i, hi⟩ := List.getElem?_of_mem hr
    obtain ⟨a1, a2, a3, a4, _⟩ := rOk_true ((nOk_true hn).2.2.2 i r hi)
    exact ⟨a1, a2, a3, a4⟩)
  have HL := Lib.hid (And.intro hN hlow)
  clear h hh hm hn hN hlow
  go_enter Tryz.func9, Tryz.ntmps9
  go_wp2_with (at_builtin; refine wp_append _ rfl _ _ 23 rfl 34 _ 4 32 Tryz.underlying23 info_run rfl (by decide) (by decide) _ 0 0 [] rfl (Own.empty w _ 4) _ _ _ (flat rs) rfl (by rw [flat_len, HM.out]) (runs_cells (H.out.alloc _)) (by omega) ?_; intro g cap wb hown hgr hloc hsz; simp only [Nat.zero_add, List.nil_append] at hown ⊢; have HO0 := Lib.hid (And.intro hown (And.intro hgr hloc)); clear hown hgr hloc)
  have hg : w.heap.size ≤ g := by
    rcases HO0.out.2.2 with h | h
    · omega
    · simp at h; omega
  have hB : Below w.heap.size w wb := below_gr ((Below.refl _ _).alloc (Nat.le_refl _) _) HO0.out.2.1 (Nat.le_refl _) (by simp)
  go_loopw [6] (fun i wr => ∃ k : Nat, k ≤ m ∧ i = .int .i64 k ∧ Own wr g 34 4 m cap (flat (fitL hs k rs)) ∧ Below w.heap.size w wr) (fun i _ => m - (intOf i).toNat)
  case atStart => exact ⟨0, Nat.zero_le _, rfl, by rw [fitL_zero]; exact HO0.out.1, hB⟩
  case round =>
    clear HO0 hB hsz
    obtain ⟨k, hk, rfl, how, hbr⟩ := hrel
    have hbs := hbr.size
    have hlo := how.lt
    have HO := Lib.hid how
    by_cases hlt : k < m
    · obtain ⟨r, hr⟩ : ∃ r, rs[k]? = some r := ⟨_, List.getElem?_eq_getElem (by have := HM.out; omega)⟩
      obtain ⟨q0, q1, q2, q3⟩ := hok.out r (List.mem_of_getElem? hr)
      obtain ⟨hN, hlow⟩ := HL.out
      have v1 := htAt_get (L := hs) q0 (by omega)
      have v2 := htAt_get (L := hs) q2 (by omega)
      obtain ⟨a, ha⟩ : ∃ a : Nat, r.f = (a : Int) := ⟨r.f.toNat, by omega⟩
      obtain ⟨b, hb⟩ : ∃ b : Nat, r.t = (b : Int) := ⟨r.t.toNat, by omega⟩
      obtain ⟨x, hx⟩ : ∃ x, htAt hs r.f = x := ⟨_, rfl⟩
      obtain ⟨y, hy⟩ : ∃ x, htAt hs r.t = x := ⟨_, rfl⟩
      have hfit : fitOne hs r = ⟨r.f, r.t, y - x, r.g⟩ := by unfold fitOne; rw [hx, hy]
      rw [hx] at v1
      rw [hy] at v2
      obtain ⟨l1, l2⟩ := hlow _ _ v1
      obtain ⟨l3, l4⟩ := hlow _ _ v2
      rw [ha, Int.toNat_natCast] at v1
      rw [hb, Int.toNat_natCast] at v2
      have haN : a < N := by omega
      have hbN : b < N := by omega
      obtain ⟨D, o', z1, rfl, hz1, hD, e4⟩ := (HI.out.below hbr).at (i := a) (by omega)
      obtain ⟨D', o'', z2, eq', hz2, hD', e5⟩ := (HI.out.below hbr).at (i := b) (by omega)
      simp at eq'
      obtain ⟨rfl, rfl⟩ := eq'
      obtain rfl : x = z1 := by rw [v1] at hz1; cases hz1; rfl
      obtain rfl : y = z2 := by rw [v2] at hz2; cases hz2; rfl
      obtain ⟨x0, x1, x2, x3⟩ := how.runAt (fitL_at hr)
      rw [ha] at x0
      rw [hb] at x1
      have HR := Lib.hid (And.intro hr hfit)
      clear hr hfit how v1 v2 hx hy ha hb q0 q1 q2 q3 hz1 hz2 hlow hN
      go_wp2_with fail
      (refine wp_region_grows_tail 21 (by kernel_rfl) (by kernel_rfl) ?_; simp only [List.take_succ_cons, List.take_zero, List.drop_succ_cons, List.drop_zero]; intro W_wg hWc_wg hWs_wg hWe_wg; (repeat (go_big_quiet_step (fail))); with_reducible refine wpQuiet_nil ?_; clear hWe_wg hWs_wg hWc_wg W_wg; intro wg hb_wg; obtain ⟨hc_wg, hf_wg⟩ := bcell hb_wg; (try simp only [World.size_drew, World.cell?_drew, World.frozen?_drew, World.heap_drewN, World.cell?_drewN, World.frozen?_drewN] at hc_wg hf_wg); have hs_wg := hb_wg.size; (try simp at hs_wg))
      have HOg := Lib.hid (HO.out.below hb_wg)
      have hf2 := HOg.out.frozen (k * 4 + 2)
      have hlg := HOg.out.lt
      have x2' : wg.cell? ⟨g, k * 4 + 2, none⟩ = some (.int .i64 r.s) := (hc_wg g (k * 4 + 2) hlo).trans x2
      clear hc_wg hf_wg x0 x1 x2 x3 e4 e5
      go_wp2_with fail
      go_roundw
      case rel =>
        have h5 := HOg.out.setS (fitL_at HR.out.1) (y - x)
        rw [← HR.out.2, fitL_set HR.out.1] at h5
        exact ⟨k + 1, by omega, by go_num, h5, (hbr.trans (hb_wg.mono hbs)).setCell hg _⟩
      case measure => simp [intOf]; omega
    · have e : k = m := by omega
      subst e
      clear how
      go_wp2_with fail
      go_ret
      exact ⟨g, cap, rfl, hg, by have := HO.out; rw [← HM.out, fitL_all] at this; rw [← HM.out]; exact this, hbr⟩
end Go.Proofs.YtenllemaccacgaaGreatDoor
