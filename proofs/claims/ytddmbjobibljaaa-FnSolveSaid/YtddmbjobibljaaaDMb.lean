/-
  What the draws of the laws on matrices give: a matrix.
-/
import Derived.Test.YtddmbjobibljaaaDMa
namespace Go.Proofs.Ytddmbjobibljaaa
open Go.RowKit
set_option linter.unusedVariables false

theorem rows_put {L : List (List Int)} {r0 : List Int} {n : Nat} (z : Int) (h : L.length = n ∧ ∀ r ∈ L, r.length = n) (hr : r0.length = n) : (L.set 0 (r0.set 0 z)).length = n ∧ ∀ r ∈ L.set 0 (r0.set 0 z), r.length ≤ n + 1 :=
  ⟨by rw [List.length_set]; exact h.1, fun r hm => by
    rcases List.mem_or_eq_of_mem_set hm with hm | rfl
    · have := h.2 r hm; omega
    · rw [List.length_set]; omega⟩
theorem rows_one {L : List (List Int)} {r0 : List Int} {n : Nat} (h : L.length = n ∧ ∀ r ∈ L, r.length = n) (hr : r0.length = n + 1) : (L.set 0 r0).length = n ∧ ∀ r ∈ L.set 0 r0, r.length ≤ n + 1 :=
  ⟨by rw [List.length_set]; exact h.1, fun r hm => by
    rcases List.mem_or_eq_of_mem_set hm with hm | rfl
    · have := h.2 r hm; omega
    · omega⟩
theorem gen_exitM {Q : Exit → Act → World → Prop} {x : Exit} {a : Act} {W : World} (p : World → Prop) (h : p W) (k : ∀ W', p W' → Q x a W') : Q x a W := k W h
/-- a list of rows as the draws give it -/
def GridD (n k : Nat) (L : List (List Int)) : Prop := L.length = k ∧ k ≤ n ∧ ∀ r ∈ L, r.length ≤ n + 1
set_option maxHeartbeats 8000000 in
set_option maxRecDepth 100000 in
theorem mat_is (K R n : Nat) (w : World) (h : Rdr K w R) (hK : K ≤ 100) (hn1 : 1 ≤ n) (hn5 : n ≤ 5) :
    Calls Try.prog 44 #[.pointer (some ⟨R, 0, none⟩), .int .i64 n] w fun e w' => ∃ (L : List (List Int)) (bs : List (Nat × Nat)) (g k cap : Nat), e = .returned (.slice (some ⟨g, 0, none⟩) k cap) ∧ GridD n k L ∧ GridIn w w' R g cap bs L ∧ Rdr (K + 40) w' R := by
  have hRlt := rdr_lt h
  have HE : Hid (GridIn w (w.alloc (.cells #[] 23)) R w.heap.size 0 [] []) := Lib.hid ⟨GridO.empty w 3 23 w.heap.size (Nat.le_refl _), gb_alloc (gb_refl _ _) _⟩
  have HR := Lib.hid (rdr_alloc h (.cells #[] 23))
  clear h
  go_enter Try.func44, Try.ntmps44
  go_wp2_with fail
  go_loopw [5, 6] (fun v i wr => ∃ (x g cap : Nat) (bs : List (Nat × Nat)) (L : List (List Int)), x ≤ n ∧ i = .int .i64 x ∧ v = .slice (some ⟨g, 0, none⟩) x cap ∧ (L.length = x ∧ ∀ r ∈ L, r.length = n) ∧ GridIn w wr R g cap bs L ∧ Rdr (K + 5 * x) wr R) (fun _ i _ => n - (intOf i).toNat)
  case atStart => exact ⟨0, _, _, _, [], Nat.zero_le _, rfl, rfl, ⟨rfl, by simp⟩, HE.out, HR.out⟩
  case round =>
    clear HE HR
    rename World => wr
    obtain ⟨x, g, cap, bs, L, hx, rfl, rfl, hL, hg, hrd⟩ := hrel
    have hbs := hg.2.size
    have hlg := hg.1.lt
    have hlow := hg.1.low
    have hzb := hg.1.z
    have HG := Lib.hid (And.intro hg (And.intro hL hzb))
    clear hg hL hzb
    by_cases hlt : x < n
    · have hlt' : (x : Int) < (n : Int) := by omega
      go_wp2_with fail
      have HE := Lib.hid (And.intro (Own.empty wr 3 1) (rdr_alloc hrd (.cells #[] 3)))
      clear hrd
      go_loopw [7, 8] (fun v i wz => ∃ (y gr cr : Nat) (T : List Int), y ≤ n ∧ i = .int .i64 y ∧ v = .slice (some ⟨gr, 0, none⟩) y cr ∧ T.length = y ∧ wr.heap.size ≤ gr ∧ Own wz gr 3 1 y cr T ∧ wr.grownBy wz (some R) ∧ Rdr (K + 5 * x + y) wz R) (fun _ i _ => n - (intOf i).toNat)
      case atStart => exact ⟨0, _, _, [], Nat.zero_le _, rfl, rfl, rfl, Nat.le_refl _, HE.out.1, gb_alloc (gb_refl _ _) _, HE.out.2⟩
      case round =>
        clear HE
        rename World => wz
        obtain ⟨y, gr, cr, T, hy, rfl, rfl, hT, hgr, ho, hgz, hrd⟩ := hrel
        have hsz := hgz.size
        have hlo := ho.lt
        have HX := Lib.hid (And.intro ho (And.intro hgz hT))
        clear ho hgz hT
        by_cases hyn : y < n
        · have hyn' : (y : Int) < (n : Int) := by omega
          go_wp2_with (first | ((go_at_call 32; (with_reducible refine (pick_any (K + 5 * x + y) R (9) _ ?_ (by omega) (by omega) (by omega)).mono ?_); (focus ((repeat (first | with_reducible assumption | (with_reducible refine rdr_drewN ?_ _) | (with_reducible refine rdr_drew ?_) | (with_reducible refine rdr_alloc ?_ _) | (with_reducible refine rdr_setCell ?_ (by first | omega | (simp <;> omega) | simp) _) | (with_reducible refine rdr_chain ?_ (by with_reducible assumption)))); done)); rintro e wq ⟨m_wq, hm0_wq, hm1_wq, rfl, hR_wq, hg_wq, hq_wq⟩; have hs_wq := Nat.le_of_eq hq_wq; have ht_wq := Nat.le_of_eq hq_wq.symm; (try simp at hs_wq); (try simp at ht_wq); clear hq_wq); have HQ := Lib.hid (And.intro (HX.out.1.grown hg_wq (by omega)) (gb_trans HX.out.2.1 hg_wq))) | (at_builtin; refine wp_append _ rfl _ _ 23 rfl 3 _ 1 8 Try.underlying23 info_int rfl (by decide) (by decide) gr y cr _ rfl (HQ.out.1.alloc _) _ _ _ [m_wq - 4] rfl rfl (one_cellA _ _ _) (by omega) ?_; intro g1 d1 w1 hown hg1 hloc hsz1; have HN := Lib.hid (And.intro hown (And.intro hg1 hloc)); clear hown hg1 hloc))
          go_roundw
          case rel =>
            obtain ⟨hown, hg1, hloc⟩ := HN.out
            exact ⟨y + 1, g1, d1, _, by omega, by go_num, rfl, by rw [List.length_append, HX.out.2.2]; rfl, by rcases hloc with e | e; (omega); (simp at e; omega), hown, gb_ownM (gb_alloc HQ.out.2 _) hg1 hgr, by have := rdr_ownM (rdr_alloc hR_wq (.cells #[.int .i64 (m_wq - 4)] 3)) hg1 (by omega); exact rdr_mono this (by omega)⟩
          case measure => simp [intOf]; omega
        · have e : y = n := by omega
          subst e
          have hT : Hid (GridO wz 3 23 w.heap.size g cap bs L) := Lib.hid (HG.out.1.1.grown HX.out.2.1 hRlt)
          have hxl := HG.out.2.1.1
          go_wp2_with (at_builtin; refine wp_appendV _ rfl _ _ 33 rfl 23 _ 24 Try.underlying33 info_ints rfl (by decide) g x cap (rowVs bs L) rfl (by have := (hT.out.alloc (.cells #[.slice (some ⟨gr, 0, none⟩) y cr] 23)).top; rw [hxl] at this; exact this) ⟨wz.heap.size, 0, none⟩ 1 1 [.slice (some ⟨gr, 0, none⟩) y cr] rfl rfl (cell_one_new wz _ _) (by intro u hu; simp at hu; subst hu; rfl) (by omega) ?_; intro g3 d3 w3 hown3 hg3 hloc3 hsz3; have HN3 := Lib.hid (And.intro hown3 (And.intro hg3 hloc3)); clear hown3 hg3 hloc3)
          go_roundw
          case rel =>
            obtain ⟨hown3, hg3, hloc3⟩ := HN3.out
            have hgg := (hT.out.alloc (.cells #[.slice (some ⟨gr, 0, none⟩) y cr] 23)).push hxl (row := T) HX.out.2.2 hg3 hloc3 hown3 (HX.out.1.alloc _) ⟨by omega, by omega⟩ (fun i b' c' hb' e => by have := HG.out.2.2 i b' c' hb'; omega)
            have hr3 := rdr_ownM (rdr_alloc hrd (.cells #[.slice (some ⟨gr, 0, none⟩) y cr] 23)) hg3 (by omega)
            exact ⟨x + 1, g3, d3, _, _, by omega, by go_num, rfl, ⟨by rw [List.length_append, hxl]; rfl, fun r hr => by
              rcases List.mem_append.1 hr with hr | hr
              · exact HG.out.2.1.2 r hr
              · simp at hr; subst hr; exact HX.out.2.2⟩, ⟨hgg, gb_ownM (gb_alloc (gb_trans HG.out.1.2 HX.out.2.1) _) hg3 hlow⟩, rdr_mono hr3 (by omega)⟩
          case measure => simp [intOf]; omega
    · have e : x = n := by omega
      subst e
      go_upto_region 12 with ((go_at_call 32; (with_reducible refine (pick_any (K + 5 * x) R (40) _ ?_ (by omega) (by omega) (by omega)).mono ?_); (focus ((repeat (first | with_reducible assumption | (with_reducible refine rdr_drewN ?_ _) | (with_reducible refine rdr_drew ?_) | (with_reducible refine rdr_alloc ?_ _) | (with_reducible refine rdr_setCell ?_ (by first | omega | (simp <;> omega) | simp) _) | (with_reducible refine rdr_chain ?_ (by with_reducible assumption)))); done)); rintro e wc ⟨m_wc, hm0_wc, hm1_wc, rfl, hR_wc, hg_wc, hq_wc⟩; have hs_wc := Nat.le_of_eq hq_wc; have ht_wc := Nat.le_of_eq hq_wc.symm; (try simp at hs_wc); (try simp at ht_wc); clear hq_wc))
      have HC := Lib.hid (And.intro (HG.out.1.moved hg_wc hRlt) HG.out.2.1)
      have hcR := rdr_lt hR_wc
      obtain ⟨b0, c0, r0, hb0, hr0, e0, ho0, hlb, hbg⟩ := HC.out.1.1.at (i := 0) (by rw [HC.out.2.1]; omega)
      have hrn := HC.out.2.2 r0 (List.mem_of_getElem? hr0)
      rw [hrn] at e0
      have hlc := HC.out.1.1.lt
      have hlo0 := ho0.lt
      have HB := Lib.hid (And.intro hb0 (And.intro hr0 ho0))
      clear hb0 hr0 ho0 hrd HG
      have hx0 : (0 : Int) < (x : Int) := by omega
      by_cases hm0 : m_wc = 0
      · subst hm0
        have hxn : 0 < x := by omega
        go_upto_region 13 with fail
        have hrn0 : Hid (r0.length = x) := Lib.hid hrn
        go_region_with ((go_at_call 32; (with_reducible refine (pick_any (K + 5 * x + 1) R (3) _ ?_ (by omega) (by omega) (by omega)).mono ?_); (focus ((repeat (first | with_reducible assumption | (with_reducible refine rdr_drewN ?_ _) | (with_reducible refine rdr_drew ?_) | (with_reducible refine rdr_alloc ?_ _) | (with_reducible refine rdr_setCell ?_ (by first | omega | (simp <;> omega) | simp) _) | (with_reducible refine rdr_chain ?_ (by with_reducible assumption)))); done)); rintro e wd ⟨m_wd, hm0_wd, hm1_wd, rfl, hR_wd, hg_wd, hq_wd⟩; have hs_wd := Nat.le_of_eq hq_wd; have ht_wd := Nat.le_of_eq hq_wd.symm; (try simp at hs_wd); (try simp at ht_wd); clear hq_wd); obtain ⟨zq, hzq⟩ := three_atM m_wd hm0_wd hm1_wd 1000 1001 (-1001); first | (have hg2 := gb_undrM hg_wd; have ez : wd.cell? ⟨wc.heap.size, m_wd.toNat, none⟩ = some (.int .i64 zq) := (by rw [(gcell hg_wd).1 _ _ (by simp) (by omega)]; simpa using hzq); have HD := Lib.hid (((HC.out.1.alloc (.cells #[.int .i64 1000, .int .i64 1001, .int .i64 (-1001)] 3)).moved hg2 hRlt)); have ow := HD.out.1.row 0 b0 c0 r0 HB.out.1 HB.out.2.1; obtain ⟨v1, hv1⟩ : ∃ v1, r0[0]? = some v1 := ⟨_, List.getElem?_eq_getElem (by rw [hrn0.out]; exact hxn)⟩; have e1 := ow.cells hv1; have f1 := ow.frozen 0; have lo1 := ow.lt; have e2 := HD.out.1.top.cells (rowVs_at HB.out.1 HB.out.2.1); rw [hrn0.out] at e2; have lg1 := HD.out.1.lt; clear ow hv1) | (have hg2 := gb_undrN hg_wd; have ez : (wd.alloc (.cells #[.int .i64 1000, .int .i64 1001, .int .i64 (-1001)] 3)).cell? ⟨wd.heap.size, m_wd.toNat, none⟩ = some (.int .i64 zq) := (by simpa using hzq); have HD := Lib.hid (HC.out.1.moved hg2 hRlt); have ow := HD.out.1.row 0 b0 c0 r0 HB.out.1 HB.out.2.1; obtain ⟨v1, hv1⟩ : ∃ v1, r0[0]? = some v1 := ⟨_, List.getElem?_eq_getElem (by rw [hrn0.out]; exact hxn)⟩; have e1 := ow.cells hv1; have f1 := ow.frozen 0; have lo1 := ow.lt; have e2 := HD.out.1.top.cells (rowVs_at HB.out.1 HB.out.2.1); rw [hrn0.out] at e2; have lg1 := HD.out.1.lt; clear ow hv1))
        all_goals
          refine gen_exitM (fun W => ∃ L' : List (List Int), (L'.length = x ∧ ∀ r ∈ L', r.length ≤ x + 1) ∧ GridIn w W R g cap bs L' ∧ Rdr (K + 40) W R) ?_ (fun W hp => ?_)
          · first
              | exact ⟨_, rows_put zq HC.out.2 hrn0.out, HD.out.put HB.out.1 HB.out.2.1 (by rw [hrn0.out]; exact hxn) zq, rdr_mono (rdr_setCell hR_wd (show R < (⟨b0, 0, none⟩ : Addr).block by show R < b0; omega) _) (by omega)⟩
              | exact ⟨_, rows_put zq HC.out.2 hrn0.out, (HD.out.put HB.out.1 HB.out.2.1 (by rw [hrn0.out]; exact hxn) zq).alloc _, rdr_mono (rdr_alloc (rdr_setCell hR_wd (show R < (⟨b0, 0, none⟩ : Addr).block by show R < b0; omega) _) _) (by omega)⟩
          · obtain ⟨L', hL', hg', hr'⟩ := hp
            clear HC HB e0 e1 e2 ez hR_wd hg_wd hg2 HD hR_wc hg_wc f1 hzq
            go_wp2_with fail
            exact bodyPost_ret (v := .slice (some ⟨g, 0, none⟩) x cap) (by simp [results, Try.results44, go_sem]) rfl ⟨L', bs, g, x, cap, rfl, ⟨hL'.1, Nat.le_refl _, hL'.2⟩, hg', hr'⟩
      · by_cases hm1 : m_wc = 1
        · subst hm1
          go_wp2_with (at_builtin; refine wp_append _ rfl _ _ 23 rfl 3 _ 1 8 Try.underlying23 info_int rfl (by decide) (by decide) b0 x c0 r0 rfl (by have := HB.out.2.2; rw [hrn] at this; exact this.alloc _) _ _ _ [1] rfl rfl (one_cellA _ _ _) (by omega) ?_; intro g1 d1 w1 hown hg1 hloc hsz1; have HN := Lib.hid (And.intro hown (And.intro hg1 hloc)); have HT := Lib.hid ((HC.out.1.1.alloc (.cells #[.int .i64 1] 3)).top.grown hg1 (Ne.symm hbg)); have f1 := HT.out.frozen 0; have e1 := HT.out.cells (rowVs_at HB.out.1 HB.out.2.1); have lz := HT.out.lt; rw [hrn] at e1; clear hown hg1 hloc)
          obtain ⟨hown, hg1, hloc⟩ := HN.out
          have hl1 : g1 = b0 ∨ (wc.alloc (.cells #[.int .i64 1] 3)).heap.size ≤ g1 := by rcases hloc with e | e; exact .inl e; exact .inr (by omega)
          have hro := rows_one (r0 := r0 ++ [1]) HC.out.2 (by rw [List.length_append, hrn]; rfl)
          exact bodyPost_ret (v := .slice (some ⟨g, 0, none⟩) x cap) (by simp [results, Try.results44, go_sem]) rfl ⟨_, _, g, x, cap, rfl, ⟨hro.1, Nat.le_refl _, hro.2⟩, ⟨(HC.out.1.1.alloc _).place HB.out.1 HB.out.2.1 (by rw [List.length_append, hrn]; rfl) hg1 hl1 hown, gb_new (gb_ownM (gb_alloc HC.out.1.2 _) hg1 hlb) (show w.heap.size ≤ (⟨g, 0, none⟩ : Addr).block from hlow) _⟩, rdr_mono (rdr_setCell (rdr_ownM (rdr_alloc hR_wc _) hg1 (by omega)) (show R < (⟨g, 0, none⟩ : Addr).block by show R < g; omega) _) (by omega)⟩
        · by_cases hm2 : m_wc = 2
          · subst hm2
            go_wp2_with fail
            exact bodyPost_ret (v := .slice (some ⟨wc.heap.size, 0, none⟩) 0 0) (by simp [results, Try.results44, go_sem]) rfl ⟨[], [], wc.heap.size, 0, 0, rfl, ⟨rfl, by omega, by simp⟩, ⟨GridO.empty wc 3 23 w.heap.size (by omega), gb_alloc HC.out.1.2 _⟩, rdr_mono (rdr_alloc hR_wc _) (by omega)⟩
          · go_wp2_with fail
            exact bodyPost_ret (v := .slice (some ⟨g, 0, none⟩) x cap) (by simp [results, Try.results44, go_sem]) rfl ⟨L, bs, g, x, cap, rfl, ⟨HC.out.2.1, Nat.le_refl _, fun r hr => by have := HC.out.2.2 r hr; omega⟩, HC.out.1, rdr_mono hR_wc (by omega)⟩
end Go.Proofs.Ytddmbjobibljaaa
