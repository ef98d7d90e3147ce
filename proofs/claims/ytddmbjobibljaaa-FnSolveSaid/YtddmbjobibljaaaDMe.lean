/-
  What the draws of the laws on matrices give: a matrix of which a row may be another, and a list.
-/
import Derived.Test.YtddmbjobibljaaaDMd
namespace Go.Proofs.Ytddmbjobibljaaa
open Go.RowKit
set_option linter.unusedVariables false

theorem codeM_below {w w' : World} {v : Value} (h : Hid (Code' w v)) (hb : Below w.heap.size w w') : Hid (Code' w' v) := Lib.hid (by
  rcases h.out with h | ⟨D, off, len, cap, f, h0, h1, h2, h3, h4, h5⟩
  · exact .inl h
  · exact .inr ⟨D, off, len, cap, f, h0, h1, h2, h3, by have := hb.size; omega, fun j hj => ⟨(hb.cell (p := ⟨D, off + j, none⟩) h4).trans (h5 j hj).1, (h5 j hj).2⟩⟩)
section
variable {w0 w w' w'' : World} {n g k cap R m : Nat} {bs : List (Nat × Nat)} {L : List (List Int)} {q : Option Addr} {xs : List Int}
theorem MatD.base (h : MatD w n g k cap bs L w') (hb : Below w0.heap.size w0 w) : MatD w0 n g k cap bs L w' := ⟨h.1, h.2.1.mono hb.size, hb.trans (h.2.2.mono hb.size)⟩
theorem MatD.below (h : MatD w n g k cap bs L w') (hb : Below w'.heap.size w' w'') : MatD w n g k cap bs L w'' := ⟨h.1, h.2.1.below hb, h.2.2.trans (hb.mono h.2.2.size)⟩
theorem ListD.base (h : ListD w g q m xs w') (hb : w0.heap.size ≤ w.heap.size) : ListD w0 g q m xs w' := ⟨h.1, h.2.1, h.2.2.imp id (fun ⟨gx, n, cx, o, X, h1, h2, h3, h4, h5⟩ => ⟨gx, n, cx, o, X, h1, h2, h3, Nat.le_trans hb h4, h5⟩)⟩
theorem ListD.moved (h : ListD w g q m xs w') (hb : ∀ b, w.heap.size ≤ b → b < w'.heap.size → b ≠ g → w''.heap[b]? = w'.heap[b]?) : ListD w g q m xs w'' := ⟨h.1, h.2.1, h.2.2.imp id (fun ⟨gx, n, cx, o, X, h1, h2, h3, h4, h5⟩ => ⟨gx, n, cx, o, X, h1, h2, h3.block (hb gx h4 h3.lt h5), h4, h5⟩)⟩
end
set_option maxHeartbeats 4000000 in
set_option maxRecDepth 100000 in
theorem drawMatSolve_is (v : Value) (w : World) (h : Hid (Code' w v)) :
    Calls Try.prog 13 #[v] w fun e w' => ∃ (A : List (List Int)) (bs : List (Nat × Nat)) (g k cap m d : Nat) (q : Option Addr) (xs : List Int), e = .returned (.tuple #[.slice (some ⟨g, 0, none⟩) k cap, .slice q m d]) ∧ MatD w 5 g k cap bs A w' ∧ ListD w g q m xs w' := by
  go_enter Try.func13, Try.ntmps13
  go_upto_region 2 with (go_at_call 30; (with_reducible refine (open_any _ _ h).mono ?_); rintro e wo ⟨rfl, hR_wo, hb_wo, hz_wo⟩; have hs_wo := hb_wo.size; clear hz_wo)
  obtain ⟨R, hRe⟩ : ∃ R, R = w.heap.size := ⟨_, rfl⟩
  rw [← hRe] at hR_wo ⊢
  have hwR : w.heap.size ≤ R := by omega
  have hRw : R ≤ w.heap.size := by omega
  have hC := codeM_below h hb_wo
  clear hRe h
  have hRlt := rdr_lt hR_wo
  have HW := Lib.hid hb_wo
  clear hb_wo
  go_upto_region 3 with (go_at_call 31; (with_reducible refine (drawMatApply_is _ _ hC).mono ?_); rintro e wa ⟨L, bs, g, k, cap, m, d, q, xs, rfl, hm, hx⟩; have hR_wa := rdr_chain hR_wo hm.2.2; have hs_wa := hm.2.2.size; have HM := Lib.hid (And.intro hm hx); clear hm hx)
  have hRa : R < wa.heap.size := by omega
  by_cases hk : (1 : Int) < (k : Int)
  · have HL := Lib.hid (And.intro HM.out.1.2.1.lt (And.intro HM.out.1.2.1.low HM.out.1.1))
    go_upto_region 4 with ((go_at_call 32; (with_reducible refine (pick_any (0) R (6) _ ?_ (by omega) (by omega) (by omega)).mono ?_); (focus ((repeat (first | with_reducible assumption | (with_reducible refine rdr_drewN ?_ _) | (with_reducible refine rdr_drew ?_) | (with_reducible refine rdr_alloc ?_ _) | (with_reducible refine rdr_setCell ?_ (by first | omega | (simp <;> omega) | simp) _) | (with_reducible refine rdr_chain ?_ (by with_reducible assumption)))); done)); rintro e wp ⟨m_wp, hm0_wp, hm1_wp, rfl, hR_wp, hg_wp, hq_wp⟩; have hs_wp := Nat.le_of_eq hq_wp; have ht_wp := Nat.le_of_eq hq_wp.symm; (try simp at hs_wp); (try simp at ht_wp); clear hq_wp); have HP := Lib.hid (And.intro (HM.out.1.2.1.grown hg_wp hRlt) (And.intro (below_gbM (HW.out.trans (HM.out.1.2.2.mono hs_wo)) hg_wp hwR (by omega)) (HM.out.2.moved (fun b h1 h2 _ => hg_wp.block b h2 (by simp; omega))))))
    · have hlg := HP.out.1.lt
      have hlow := HL.out.2.1
      obtain ⟨hLk, hk4, hrw⟩ := HL.out.2.2
      obtain ⟨b0, c0, r0, hb0, hr0, e0, ho0, hlb0, hbg0⟩ := HP.out.1.at (i := 0) (by omega)
      obtain ⟨b1, c1, r1, hb1, hr1, e1, ho1, hlb1, hbg1⟩ := HP.out.1.at (i := 1) (by omega)
      have hrl := hrw r0 (List.mem_of_getElem? hr0)
      obtain ⟨n0, hn0⟩ : ∃ n0, r0.length = n0 := ⟨_, rfl⟩
      rw [hn0] at e0 hrl ho0
      have f1 := HP.out.1.top.frozen 1
      have HO := Lib.hid (Own.empty wp 3 1)
      have hl0 := ho0.lt
      have hl1 := ho1.lt
      have HB := Lib.hid (And.intro hb1 (And.intro hr1 (And.intro ho0 (And.intro hn0 (And.intro hLk hrw)))))
      clear hb0 hr0 ho0 hb1 hr1 ho1 hn0 hLk hrw hg_wp
      go_wp2_with (at_builtin; refine wp_append _ rfl _ _ 23 rfl 3 _ 1 8 Try.underlying23 info_int rfl (by decide) (by decide) wp.heap.size 0 0 [] rfl HO.out ⟨b0, 0, none⟩ n0 c0 r0 rfl (by rw [HB.out.2.2.2.1, Nat.mul_one]) (ints_cellsA ((HB.out.2.2.1.alloc (.cells #[] 3)).ints)) (by omega) ?_; intro g1 d1 w1 hown hg1 hloc hsz1; have HN := Lib.hid (And.intro hown (And.intro hg1 hloc)); have f1 := (((HP.out.1.alloc (.cells #[] 3)).top.grown hg1 (by omega))).frozen 1; have e2 := (((HP.out.1.alloc (.cells #[] 3)).top.grown hg1 (by omega))).cells (rowVs_at HB.out.1 HB.out.2.1); have lg2 := (((HP.out.1.alloc (.cells #[] 3)).top.grown hg1 (by omega))).lt; clear hown hg1 hloc)
      obtain ⟨hown, hg1, hloc⟩ := HN.out
      rw [Nat.zero_add, List.nil_append] at hown
      have hl1 : g1 = b1 ∨ wp.heap.size ≤ g1 := by
        rcases hloc with e | e
        · exact .inr (by omega)
        · simp at e; exact .inr (by omega)
      have hgb : wp.grownBy (w1.setCell ⟨g, 1, none⟩ (.slice (some ⟨g1, 0, none⟩) n0 d1)) (some g) := gb_setCell (gb_ownM (gb_alloc (gb_refl wp _) _) hg1 (Nat.le_refl _)) (.inl rfl) _
      have h1 := HP.out.1.place HB.out.1 HB.out.2.1 HB.out.2.2.2.1 (gb_ownM (gb_alloc (gb_refl wp _) _) hg1 (Nat.le_refl _)) hl1 hown
      have h2 : MatD w 5 g k cap (bs.set 1 (g1, d1)) (L.set 1 r0) (w1.setCell ⟨g, 1, none⟩ (.slice (some ⟨g1, 0, none⟩) n0 d1)) := ⟨⟨by rw [List.length_set]; exact HB.out.2.2.2.2.1, by omega, fun r hr => by
        rcases List.mem_or_eq_of_mem_set hr with hr | rfl
        · have := HB.out.2.2.2.2.2 r hr; omega
        · have := HB.out.2.2.2.1; omega⟩, h1.mono hs_wo, below_gbM HP.out.2.1 hgb (by omega) (by omega)⟩
      exact bodyPost_ret (v := .tuple #[.slice (some ⟨g, 0, none⟩) k cap, .slice q m d]) (by simp [results, Try.results13, go_sem]) rfl ⟨_, _, g, k, cap, m, d, q, xs, rfl, h2, (HP.out.2.2.moved (fun b _ h5 h6 => hgb.block b h5 (by simp; omega))).base hs_wo⟩
    · have h1 : MatD w 5 g k cap bs L wp := ⟨HM.out.1.1.up (by omega), HP.out.1.mono hs_wo, HP.out.2.1⟩
      exact bodyPost_ret (v := .tuple #[.slice (some ⟨g, 0, none⟩) k cap, .slice q m d]) (by simp [results, Try.results13, go_sem]) rfl ⟨L, bs, g, k, cap, m, d, q, xs, rfl, h1, HP.out.2.2.base hs_wo⟩
  · go_wp2_with fail
    exact bodyPost_ret (v := .tuple #[.slice (some ⟨g, 0, none⟩) k cap, .slice q m d]) (by simp [results, Try.results13, go_sem]) rfl ⟨L, bs, g, k, cap, m, d, q, rfl, (show MatD wo 5 g k cap bs L wa from ⟨HM.out.1.1.up (by omega), HM.out.1.2⟩).base HW.out, xs, HM.out.2.base hs_wo⟩
end Go.Proofs.Ytddmbjobibljaaa
