/-
  For every code the law FnTreeExchange returns true: impl.TreeIs answers as the reference model does; for a run beside a tree some run of the tree can be left out so that it and this run, in order, are a tree; and impl.TreeFirst of the net with the runs of the tree moved to the front has them as its first tree. No condition: every list of bytes is taken.
-/
import Derived.Test.YtgbnnepbnahecaaTc
import Derived.Test.YtgbnnepbnahecaaTe
import Derived.Test.YtgbnnepbnahecaaTg
import Derived.Test.YtgbnnepbnahecaaNU
import Derived.Test.YtgbnnepbnahecaaDNi
import Derived.Test.YtgbnnepbnahecaaCode
namespace Go.Proofs.Ytgbnnepbnahecaa.fnTreeExchange
open Go.ChangeShapes Go.WideShapes Go.ChangeAt Go.RowKit
set_option linter.unusedVariables false

theorem runs_low {w w' : World} {P o n : Nat} {rs : List Rn} (h : Runs w (some ⟨P, o, none⟩) rs) (hP : P < n) (hb : Below n w w') : Runs w' (some ⟨P, o, none⟩) rs := h.keep (fun B o e => by cases e; exact hb.block _ hP) hb.size
theorem ints_low {w w' : World} {P o n : Nat} {zs : List Int} (h : Ints w (some ⟨P, o, none⟩) zs) (hP : P < n) (hb : Below n w w') : Ints w' (some ⟨P, o, none⟩) zs := h.keep (fun B o e => by cases e; exact hb.block _ hP) hb.size
theorem cell_over {w w' : World} {ob : Obj} {g P i : Nat} {v : Value} (h : w.cell? ⟨P, i, none⟩ = some v) (hP : P < w.heap.size) (hg : (w.alloc ob).grownBy w' (some g)) (hne : P ≠ g) : w'.cell? ⟨P, i, none⟩ = some v :=
  (World.cell?_of_block (a := ⟨P, i, none⟩) (hg.block P (by simp; omega) (by simpa using hne))).trans ((World.cell?_of_block (a := ⟨P, i, none⟩) (Deep.blk_alloc_lt _ _ _ hP)).trans h)

set_option maxHeartbeats 4000000 in
set_option maxRecDepth 100000 in
theorem walk (len cap : Nat) (p : Option Addr) (w : World) (hl : len ≤ 1048576) (h : Hid (Code' w (.slice p len cap))) :
    Calls Try.prog 8 #[.slice p len cap] w fun e w' => e = .returned (.bool true) ∧ Below w.heap.size w w' := by
  have hl' : ¬ (1048576 : Int) < (len : Int) := by omega
  go_enter Try.func8, Try.ntmps8
  go_upto_region 4 with (go_at_call 14; (with_reducible refine (drawTree_is _ _ h).mono ?_); rintro e wd ⟨N, m, k, rs, T, P, Q, ⟨c, d, rfl⟩, ⟨hmm, hkk, ⟨hN2, hN6⟩, hm8, hk8⟩, hR, hI, hb_wd⟩; have hs_wd := hb_wd.size; have HR := Lib.hid hR; have HI := Lib.hid hI; have HM := Lib.hid (And.intro hmm hkk); clear hR hI hmm hkk)
  clear h
  obtain ⟨b, hb⟩ : ∃ b, isT N rs T = b := ⟨_, rfl⟩
  have c1 := fun w h hh => Lib.hid (iTreeIs_at N m k (some ⟨P, 0, none⟩) (some ⟨Q, 0, none⟩) c d rs T b w h hh HM.out.1 HM.out.2 (by omega) (by omega) hb)
  have c2 := fun w h hh => Lib.hid (sTreeIs_at N m k (some ⟨P, 0, none⟩) (some ⟨Q, 0, none⟩) c d rs T b w h hh HM.out.1 HM.out.2 (by omega) (by omega) hb)
  cases b
  · clear hb
    go_wp2_with (first | (go_at_call 15; (with_reducible refine ((c1 _ ?_ ?_).out).mono ?_); (focus ((exact HR.out); done)); (focus ((exact HI.out); done)); rintro e wi ⟨rfl, hb_wi⟩; have hs_wi := hb_wi.size; (try simp at hs_wi)) | (go_at_call 16; (with_reducible refine ((c2 _ ?_ ?_).out).mono ?_); (focus ((exact HR.out.below (by repeat (first | assumption | exact Below.refl _ _ | (refine below_chain ?_ (by assumption) (by first | omega | (simp <;> omega) | simp)) | (refine Below.alloc ?_ (by first | omega | (simp <;> omega) | simp) _) | (apply below_drewN) | (apply below_drew) | (refine Below.setCell ?_ (by first | omega | (simp <;> omega) | simp) _)))); done)); (focus ((exact HI.out.below (by repeat (first | assumption | exact Below.refl _ _ | (refine below_chain ?_ (by assumption) (by first | omega | (simp <;> omega) | simp)) | (refine Below.alloc ?_ (by first | omega | (simp <;> omega) | simp) _) | (apply below_drewN) | (apply below_drew) | (refine Below.setCell ?_ (by first | omega | (simp <;> omega) | simp) _)))); done)); rintro e ws ⟨rfl, hb_ws⟩; have hs_ws := hb_ws.size; (try simp at hs_ws)))
    go_ret
    exact ⟨rfl, (by repeat (first | assumption | exact Below.refl _ _ | (refine below_chain ?_ (by assumption) (by first | omega | (simp <;> omega) | simp)) | (refine Below.alloc ?_ (by first | omega | (simp <;> omega) | simp) _) | (apply below_drewN) | (apply below_drew) | (refine Below.setCell ?_ (by first | omega | (simp <;> omega) | simp) _)))⟩
  · have HTR := Lib.hid (isT_true.1 hb)
    clear hb
    have hkN : k + 1 = N := by have := HTR.out.len; have := HM.out.2; omega
    go_upto_region 10 with (first | (go_at_call 15; (with_reducible refine ((c1 _ ?_ ?_).out).mono ?_); (focus ((exact HR.out); done)); (focus ((exact HI.out); done)); rintro e wi ⟨rfl, hb_wi⟩; have hs_wi := hb_wi.size; (try simp at hs_wi)) | (go_at_call 16; (with_reducible refine ((c2 _ ?_ ?_).out).mono ?_); (focus ((exact HR.out.below (by repeat (first | assumption | exact Below.refl _ _ | (refine below_chain ?_ (by assumption) (by first | omega | (simp <;> omega) | simp)) | (refine Below.alloc ?_ (by first | omega | (simp <;> omega) | simp) _) | (apply below_drewN) | (apply below_drew) | (refine Below.setCell ?_ (by first | omega | (simp <;> omega) | simp) _)))); done)); (focus ((exact HI.out.below (by repeat (first | assumption | exact Below.refl _ _ | (refine below_chain ?_ (by assumption) (by first | omega | (simp <;> omega) | simp)) | (refine Below.alloc ?_ (by first | omega | (simp <;> omega) | simp) _) | (apply below_drewN) | (apply below_drew) | (refine Below.setCell ?_ (by first | omega | (simp <;> omega) | simp) _)))); done)); rintro e ws ⟨rfl, hb_ws⟩; have hs_ws := hb_ws.size; (try simp at hs_ws)))
    have hmk : k ≤ m := by
      have h1 := HTR.out.asc
      obtain ⟨z, hz⟩ : ∃ z, T[k - 1]? = some z := ⟨_, List.getElem?_eq_getElem (by have := HM.out.2; omega)⟩
      have low : ∀ (i : Nat) (z : Int), T[i]? = some z → (i : Int) ≤ z := by
        intro i
        induction i with
        | zero => intro z hz; exact (h1.rng z (List.mem_of_getElem? hz)).1
        | succ i ih =>
          intro z hz
          have hi := (List.getElem?_eq_some_iff.1 hz).1
          have := ih _ (List.getElem?_eq_getElem (by omega))
          have := h1.get (List.getElem?_eq_getElem (by omega : i < T.length)) hz (by omega)
          omega
      have a := low _ _ hz
      have b := (h1.rng z (List.mem_of_getElem? hz)).2
      have := HM.out.1
      omega
    have hP : P < ws.heap.size := by
      obtain ⟨B, o, r, e, -, hB, -⟩ := HR.out.at (i := 0) (by have := HM.out.1; omega)
      cases e; omega
    have hQ : Q < ws.heap.size := by
      obtain ⟨B, o, r, e, -, hB, -⟩ := HI.out.at (i := 0) (by have := HM.out.2; omega)
      cases e; omega
    have hB0 : Below w.heap.size w (ws.alloc (.cells #[] 29)) := (by repeat (first | assumption | exact Below.refl _ _ | (refine below_chain ?_ (by assumption) (by first | omega | (simp <;> omega) | simp)) | (refine Below.alloc ?_ (by first | omega | (simp <;> omega) | simp) _) | (apply below_drewN) | (apply below_drew) | (refine Below.setCell ?_ (by first | omega | (simp <;> omega) | simp) _)))
    have hbt : Below wd.heap.size wd ws := hb_wi.trans (hb_ws.mono hs_wi)
    refine gen_world (fun W => Own W ws.heap.size 29 4 0 0 [] ∧ (Runs W (some ⟨P, 0, none⟩) rs ∧ Ints W (some ⟨Q, 0, none⟩) T) ∧ Below w.heap.size w W ∧ ws.heap.size < W.heap.size) ⟨Own.empty _ _ _, ⟨(HR.out.below hbt).alloc _, (HI.out.below hbt).alloc _⟩, hB0, by simp⟩ (fun w0 h0 => ?_)
    have H0 := Lib.hid h0
    have hs0 := h0.2.2.2
    have hs1 := h0.2.2.1.size
    have hs2 : w.heap.size ≤ ws.heap.size := by omega
    clear c1 c2 HR HI hb_wd hb_wi hb_ws hB0 hbt h0 hs_wi hs_wd hs_ws
    go_loopw [8, 9] (fun x i wr => ∃ (j gx cx : Nat), j ≤ k ∧ i = .int .i64 j ∧ x = .slice (some ⟨gx, 0, none⟩) j cx ∧ ws.heap.size ≤ gx ∧ Own wr gx 29 4 j cx (flat (sub rs (T.take j))) ∧ Below ws.heap.size w0 wr) (fun _ i _ => k - (intOf i).toNat)
    case atStart => exact ⟨0, _, _, Nat.zero_le _, rfl, rfl, Nat.le_refl _, by simpa [sub, flat] using H0.out.1, Below.refl _ _⟩
    case round =>
      obtain ⟨j, gx, cx, hj, rfl, rfl, hgx, hox, hbr⟩ := hrel
      have hlx := hox.lt
      have hbs := hbr.size
      have hrr := runs_low H0.out.2.1.1 hP hbr
      have hir := ints_low H0.out.2.1.2 hQ hbr
      have HO := Lib.hid (And.intro hox hbr)
      by_cases hlt : j < k
      · obtain ⟨B, o, z, e, hz, hB, y0⟩ := hir.at (i := j) (by have := HM.out.2; omega)
        cases e
        obtain ⟨z0, z1⟩ := HTR.out.asc.rng z (List.mem_of_getElem? hz)
        obtain ⟨u, rfl⟩ : ∃ u : Nat, z = (u : Int) := ⟨z.toNat, by omega⟩
        have hum : u < m := by have := HM.out.1; omega
        obtain ⟨D, o', r, e, hr, hD, x0, x1, x2, x3⟩ := hrr.at (i := u) (by have := HM.out.1; omega)
        cases e
        simp only [Nat.zero_add] at y0 x0 x1 x2 x3
        have hsn : sub rs (T.take (j + 1)) = sub rs (T.take j) ++ [r] := by rw [take_succ_of hz]; exact sub_snoc rs _ u hr
        have HJ := Lib.hid hsn
        clear hz hr hrr hir hox hbr z0 z1 hsn
        go_wp2_with (at_builtin; refine wp_append _ rfl _ _ 23 rfl 29 _ 4 32 Try.underlying23 info_run rfl (by decide) (by decide) gx j cx _ rfl (HO.out.1.alloc _) _ _ _ _ rfl rfl (four_cells _ _ _ _ _ _) (by omega) ?_; intro gx' cx' w1 hown hgr hloc hsz; have HN := Lib.hid (And.intro hown (And.intro hgr hloc)); clear hown hgr hloc)
        go_roundw
        case rel =>
          obtain ⟨hown, hgr, hloc⟩ := HN.out
          have hgx' : ws.heap.size ≤ gx' := by
            rcases hloc with rfl | rfl
            · exact hgx
            · simp; omega
          exact ⟨j + 1, gx', cx', by omega, by go_num, rfl, hgx', by rw [HJ.out, flat_append]; simpa [flat] using hown, below_gr (HO.out.2.alloc (by omega) _) hgr hgx (by simp; omega)⟩
        case measure => simp [intOf]; omega
      · have e : j = k := by omega
        subst e
        have hTt : T.take j = T := List.take_of_length_le (by have := HM.out.2; omega)
        have HO' : Hid (Own wr gx 29 4 (j + 0) cx (flat (sub rs T ++ [])) ∧ Below ws.heap.size w0 wr) := Lib.hid (by rw [hTt] at hox; rw [List.append_nil]; exact ⟨hox, hbr⟩)
        clear hox hbr hrr hir HO hTt
        go_wp2_with fail
        go_loopw [8, 10, 11, 12] (fun x o a i wr => ∃ (q e gf cf l : Nat) (oo : Int) (vs : List Rn), q ≤ m ∧ i = .int .i64 q ∧ a = .int .i64 e ∧ o = .int .i64 oo ∧ -1 ≤ oo ∧ oo ≤ 8 ∧ x = .slice (some ⟨gf, 0, none⟩) l cf ∧ l = j + vs.length ∧ Rest rs T q e oo vs ∧ ws.heap.size ≤ gf ∧ Own wr gf 29 4 l cf (flat (sub rs T ++ vs)) ∧ Below ws.heap.size w0 wr) (fun _ _ _ i _ => m - (intOf i).toNat)
        case atStart => exact ⟨0, 0, gx, cx, j, -1, [], Nat.zero_le _, rfl, rfl, rfl, by omega, by omega, rfl, by simp, Rest.start HTR.out.asc, hgx, HO'.out.1, HO'.out.2⟩
        case round =>
          clear HO' hlx hgx hbs
          rename World => wq
          obtain ⟨q, e, gf, cf, l, oo, vs, hq, rfl, rfl, rfl, ho1, ho2, rfl, hlv, hrest, hgf, hof, hbr⟩ := hrel
          have hlf := hof.lt
          have hbs := hbr.size
          have hrr := runs_low H0.out.2.1.1 hP hbr
          have hir := ints_low H0.out.2.1.2 hQ hbr
          have hel := hrest.le
          have hlen := hrest.len
          have hkk := HM.out.2
          have hl12 : l ≤ 16 := by omega
          have HLV := Lib.hid hlv
          have hlv' := hlv
          clear hlv
          have HO := Lib.hid (And.intro hof hbr)
          by_cases hqm : q < m
          · obtain ⟨D, o', r, e2, hr, hD, x0, x1, x2, x3⟩ := hrr.at (i := q) (by have := HM.out.1; omega)
            cases e2
            simp only [Nat.zero_add] at x0 x1 x2 x3
            by_cases hej : e < j
            · obtain ⟨B, o, z, e2, hz, hB, y0⟩ := hir.at (i := e) (by omega)
              cases e2
              simp only [Nat.zero_add] at y0
              obtain ⟨z0, z1⟩ := HTR.out.asc.rng z (List.mem_of_getElem? hz)
              obtain ⟨u, rfl⟩ : ∃ u : Nat, z = (u : Int) := ⟨z.toNat, by omega⟩
              by_cases huq : u = q
              · subst huq
                have HE := Lib.hid (hrest.tree HTR.out.asc hz)
                clear hz hr hrr hir hof hbr hrest hkk z0 z1 hlv' hlen hel
                go_wp2_with fail
                go_roundw
                case rel => exact ⟨u + 1, e + 1, gf, cf, l, oo, vs, by omega, by go_num, by go_num, rfl, ho1, ho2, rfl, HLV.out, HE.out, hgf, HO.out.1, HO.out.2⟩
                case measure => simp [intOf]; omega
              · have hzq : ((u : Int) == (q : Int)) = false := by simp; omega
                have HE := Lib.hid (hrest.other HTR.out.asc hr (by rw [hz]; simp; omega))
                clear hz hr hrr hir hof hbr hrest hkk z0 z1 hlv' hlen hel
                go_wp2_with (at_builtin; refine wp_append _ rfl _ _ 23 rfl 29 _ 4 32 Try.underlying23 info_run rfl (by decide) (by decide) gf l cf _ rfl (HO.out.1.alloc _) _ _ _ _ rfl rfl (four_cells _ _ _ _ _ _) (by omega) ?_; intro gf' cf' w1 hown hgr hloc hsz; have HN := Lib.hid (And.intro hown (And.intro hgr hloc)); clear hown hgr hloc)
                go_roundw
                case rel =>
                  obtain ⟨hown, hgr, hloc⟩ := HN.out
                  have hgf' : ws.heap.size ≤ gf' := by
                    rcases hloc with rfl | rfl
                    · exact hgf
                    · simp; omega
                  exact ⟨q + 1, e, gf', cf', l + 1, (q : Int), vs ++ [r], by omega, by go_num, rfl, rfl, by omega, by omega, rfl, by have := HLV.out; simp; omega, HE.out, hgf', by rw [← List.append_assoc, flat_append]; simpa [flat] using hown, below_gr (HO.out.2.alloc (by omega) _) hgr hgf (by simp; omega)⟩
                case measure => simp [intOf]; omega
            · have HE := Lib.hid (hrest.other HTR.out.asc hr (by rw [List.getElem?_eq_none (by omega)]; simp))
              clear hr hrr hir hof hbr hrest hkk hlv' hlen hel
              go_wp2_with (at_builtin; refine wp_append _ rfl _ _ 23 rfl 29 _ 4 32 Try.underlying23 info_run rfl (by decide) (by decide) gf l cf _ rfl (HO.out.1.alloc _) _ _ _ _ rfl rfl (four_cells _ _ _ _ _ _) (by omega) ?_; intro gf' cf' w1 hown hgr hloc hsz; have HN := Lib.hid (And.intro hown (And.intro hgr hloc)); clear hown hgr hloc)
              go_roundw
              case rel =>
                obtain ⟨hown, hgr, hloc⟩ := HN.out
                have hgf' : ws.heap.size ≤ gf' := by
                  rcases hloc with rfl | rfl
                  · exact hgf
                  · simp; omega
                exact ⟨q + 1, e, gf', cf', l + 1, (q : Int), vs ++ [r], by omega, by go_num, rfl, rfl, by omega, by omega, rfl, by have := HLV.out; simp; omega, HE.out, hgf', by rw [← List.append_assoc, flat_append]; simpa [flat] using hown, below_gr (HO.out.2.alloc (by omega) _) hgr hgf (by simp; omega)⟩
              case measure => simp [intOf]; omega
          · have e2 : q = m := by omega
            subst e2
            have hmm := HM.out.1
            have hej : e = j := by
              have h' := hrest
              rw [← hmm] at h'
              have := h'.done HTR.out.asc
              omega
            have hus : (sub rs T).length = j := by rw [sub_len]; exact HM.out.2
            have hfl : (sub rs T ++ vs).length = q := by simp [hus]; omega
            have hfm : ∀ r ∈ sub rs T ++ vs, r ∈ rs := fun r hr => by
              rcases List.mem_append.1 hr with h' | h'
              · exact HTR.out.asc.mem_sub (Nat.le_refl _) r h'
              · exact hrest.mem r h'
            have hfo : nOk N (sub rs T ++ vs) = true := front_ok HTR.out.ok hfm (by omega)
            have hfw : nWhole N (sub rs T ++ vs) = true := front_whole hfo HTR.out.whole
            have hft : firstT N (sub rs T ++ vs) (sub rs T ++ vs).length = iota j := by
              rw [first_front_all (by omega) (nOk_ends hfo) HTR.out.rk (whole_iff.1 HTR.out.whole).2, hus]; rfl
            have hlq : l = q := by omega
            subst hlq
            have k1 := fun w h => Lib.hid ((iFirst_yes N l (some ⟨gf, 0, none⟩) cf (sub rs T ++ vs) w h hfl hfw).mono (R' := fun e w' => ∃ (g cap : Nat), e = .returned (.tuple #[.slice (some ⟨g, 0, none⟩) j cap, .bool true]) ∧ w.heap.size ≤ g ∧ Own w' g 3 1 j cap (iota j) ∧ Below w.heap.size w w') (fun e w' ⟨g, cap, k, he, hk, hg, ho, hb⟩ => by rw [hft] at hk ho; rw [iota_len] at hk; subst hk; exact ⟨g, cap, he, hg, ho, hb⟩))
            have hoth := hrest.oth
            have HV := Lib.hid hoth
            have hB : Below w.heap.size w wq := H0.out.2.2.1.trans (hbr.mono hs2)
            have HX := Lib.hid (And.intro hof.runs (And.intro hrr (And.intro hir hB)))
            have hsB := hB.size
            clear hof hbr hrest hkk hlen hlv' hrr hir hmm hus hfl hfm hfo hfw hft hoth HO hB
            go_upto_region 24 with (go_at_call 20; (with_reducible refine ((k1 _ ?_).out).mono ?_); (focus (exact HX.out.1; done)); rintro e wf ⟨gF, cF, rfl, hgF, oF, hb_wf⟩; have hs_wf := hb_wf.size; have HF := Lib.hid oF; clear oF)
            have hw3 : Hid (Below w.heap.size w wf ∧ Runs wf (some ⟨P, 0, none⟩) rs ∧ Ints wf (some ⟨Q, 0, none⟩) T) := Lib.hid ⟨HX.out.2.2.2.trans (hb_wf.mono hsB), HX.out.2.1.below hb_wf, HX.out.2.2.1.below hb_wf⟩
            have hsw3 := hw3.out.1.size
            have hPf : P < wf.heap.size := by omega
            have hQf : Q < wf.heap.size := by omega
            clear k1 HX hb_wf hlf hbs
            go_loopw [15] (fun i wr => ∃ i' : Nat, i' ≤ j ∧ i = .int .i64 i' ∧ wf = wr) (fun i _ => j - (intOf i).toNat)
            case atStart => exact ⟨0, Nat.zero_le _, rfl, rfl⟩
            case round =>
              rename World => wr2
              obtain ⟨i, hi, rfl, rfl⟩ := hrel
              by_cases hik : i < j
              · have y0 := HF.out.cells (iota_nth hik)
                have hlF := HF.out.lt
                go_wp2_with fail
                go_roundw
                case rel => exact ⟨i + 1, by omega, by go_num, by first | trivial | rfl⟩
                case measure => simp [intOf]; omega
              · have e3 : i = j := by omega
                subst e3
                have hjn : ((i : Int) == (N : Int) - 1) = true := by simp; omega
                rcases HV.out with ⟨ho, -⟩ | ⟨u, ho, hul, hur, huT⟩
                · subst ho
                  go_wp2_with fail
                  go_loopw [16, 17] (fun f a wr => f = .bool true ∧ a = .int .i64 0 ∧ wf = wr) (fun _ _ _ => 0)
                  case atStart => exact ⟨rfl, rfl, rfl⟩
                  case round =>
                    obtain ⟨rfl, rfl, rfl⟩ := hrel
                    go_wp2_with fail
                    go_ret
                    exact ⟨ret_bool (by simp), hw3.out.1⟩
                · subst ho
                  have hu0 : ¬ (u : Int) < 0 := by omega
                  have HU := Lib.hid huT
                  have hu8 : u < 16 := by omega
                  have HL := Lib.hid (And.intro hul hur)
                  clear huT hul hur HV
                  go_wp2_with fail
                  go_loopw [16, 17] (fun f a wr => ∃ (s : Nat) (fb : Bool), s ≤ i ∧ a = .int .i64 s ∧ f = .bool fb ∧ (fb = false → ∀ q, q < s → ¬ Good N rs T u q) ∧ Below wf.heap.size wf wr) (fun _ a _ => i - (intOf a).toNat)
                  case atStart => exact ⟨0, false, Nat.zero_le _, rfl, rfl, fun _ q hq => by omega, Below.refl _ _⟩
                  case round =>
                    rename World => wD
                    obtain ⟨s, fb, hs, rfl, rfl, hno, hbd⟩ := hrel
                    have hbs := hbd.size
                    have hB := hw3.out.1.trans (hbd.mono (by omega))
                    have HNO := Lib.hid hno
                    have HBD := Lib.hid (And.intro hbd hB)
                    clear hno hB hbd
                    cases fb
                    · by_cases hsi : s < i
                      · have HE := Lib.hid ((Own.empty wD 3 1))
                        have hb0 := Lib.hid (HBD.out.1.alloc (by omega) (.cells #[] 3))
                        go_wp2_with fail
                        go_loopw [18, 19, 20] (fun x dn a wr => ∃ (q l gx cgx : Nat) (db : Bool) (X : List Int), q ≤ i ∧ a = .int .i64 q ∧ dn = .bool db ∧ x = .slice (some ⟨gx, 0, none⟩) l cgx ∧ X.length = l ∧ Ins T u s q db X ∧ wf.heap.size ≤ gx ∧ Own wr gx 3 1 l cgx X ∧ Below wf.heap.size wf wr) (fun _ _ a _ => i - (intOf a).toNat)
                        case atStart => exact ⟨0, 0, _, _, false, [], Nat.zero_le _, rfl, rfl, rfl, rfl, Ins.start T u s, by omega, HE.out, hb0.out⟩
                        case round =>
                          clear HE hb0
                          rename World => wE
                          obtain ⟨q, l, gx, cgx, db, X, hq, rfl, rfl, rfl, hXl, hins, hgx, hox, hbr⟩ := hrel
                          have hlx := hox.lt
                          have hbs2 := hbr.size
                          have hl9 : l ≤ 16 := by have := hins.len; split at this <;> split at this <;> omega
                          have HX := Lib.hid (And.intro hins hXl)
                          have HO := Lib.hid (And.intro hox hbr)
                          by_cases hqi : q < i
                          · obtain ⟨B, o, z, e2, hz, hB, y0⟩ := (ints_low hw3.out.2.2 hQf hbr).at (i := q) (by have := HM.out.2; omega)
                            cases e2
                            simp only [Nat.zero_add] at y0
                            obtain ⟨z0, z1⟩ := HTR.out.asc.rng z (List.mem_of_getElem? hz)
                            obtain ⟨z, rfl⟩ : ∃ v : Nat, z = (v : Int) := ⟨z.toNat, by omega⟩
                            have hzu : z ≠ u := fun e => HU.out (z : Int) (List.mem_of_getElem? hz) (by omega)
                            have hQr : Q < wE.heap.size := by omega
                            have HZ := Lib.hid hz
                            clear hz hins hXl hox hbr z0 z1
                            cases db
                            · by_cases hlt : u < z
                              · have hlt' : (u : Int) < (z : Int) := by omega
                                have HP := Lib.hid (HX.out.1.put HTR.out.asc HZ.out hlt')
                                by_cases hqs : q = s
                                · subst hqs
                                  go_wp2_with (at_builtin; refine wp_append _ rfl _ _ 24 rfl 3 _ 1 8 Try.underlying24 info_int rfl (by decide) (by decide) gx l cgx _ rfl (HO.out.1.alloc _) _ _ _ [(u : Int)] rfl rfl (one_cell _ _ _) (by omega) ?_; intro gx' cgx' w1 hown hgr hloc hszw1; have hsw_w1 := hgr.size; (try simp at hsw_w1); have y0' := cell_over y0 hQr hgr (by omega); have HN_w1 := Lib.hid (And.intro hown (And.intro hgr hloc)); clear hown hgr hloc)
                                  go_roundw
                                  case rel =>
                                    obtain ⟨hown, hgr, hloc⟩ := HN_w1.out
                                    have hgx' : wf.heap.size ≤ gx' := by
                                      rcases hloc with rfl | rfl
                                      · exact hgx
                                      · simp; omega
                                    exact ⟨q + 1, l + 1, gx', cgx', true, X ++ [(u : Int)], by omega, by go_num, rfl, rfl, by simp [HX.out.2], HP.out.skip HZ.out (.inl rfl) rfl, hgx', hown, below_gr (HO.out.2.alloc (by omega) _) hgr hgx (by simp; omega)⟩
                                  case measure => simp [intOf]; omega
                                · have hqs' : ((q : Int) != (s : Int)) = true := by simp; omega
                                  go_wp2_with (first | (at_builtin; refine wp_append _ rfl _ _ 24 rfl 3 _ 1 8 Try.underlying24 info_int rfl (by decide) (by decide) gx l cgx _ rfl (HO.out.1.alloc _) _ _ _ [(u : Int)] rfl rfl (one_cell _ _ _) (by omega) ?_; intro gx' cgx' w1 hown hgr hloc hszw1; have hsw_w1 := hgr.size; (try simp at hsw_w1); have y0' := cell_over y0 hQr hgr (by omega); have HN_w1 := Lib.hid (And.intro hown (And.intro hgr hloc)); clear hown hgr hloc) | (at_builtin; refine wp_append _ rfl _ _ 24 rfl 3 _ 1 8 Try.underlying24 info_int rfl (by decide) (by decide) gx' (l + 1) cgx' _ rfl (HN_w1.out.1.alloc _) _ _ _ [(z : Int)] rfl rfl (one_cell _ _ _) (by omega) ?_; intro gx'' cgx'' w2 hown hgr hloc hszw2; have hsw_w2 := hgr.size; (try simp at hsw_w2); have HN_w2 := Lib.hid (And.intro hown (And.intro hgr hloc)); clear hown hgr hloc))
                                  go_roundw
                                  case rel =>
                                    obtain ⟨hown, hgr, hloc⟩ := HN_w1.out
                                    obtain ⟨hown2, hgr2, hloc2⟩ := HN_w2.out
                                    have hgx' : wf.heap.size ≤ gx' := by
                                      rcases hloc with rfl | rfl
                                      · exact hgx
                                      · simp; omega
                                    have hgx2 : wf.heap.size ≤ gx'' := by
                                      rcases hloc2 with rfl | rfl
                                      · exact hgx'
                                      · simp; omega
                                    have hb1 := below_gr (HO.out.2.alloc (by omega) (.cells #[.int .i64 u] 3)) hgr hgx (by simp; omega)
                                    exact ⟨q + 1, l + 1 + 1, gx'', cgx'', true, X ++ [(u : Int)] ++ [(z : Int)], by omega, by go_num, rfl, rfl, by simp [HX.out.2], HP.out.take HTR.out.asc HZ.out (.inl rfl) hqs, hgx2, hown2, below_gr (hb1.alloc (by omega) _) hgr2 hgx' (by simp; omega)⟩
                                  case measure => simp [intOf]; omega
                              · have hlt' : ¬ (u : Int) < (z : Int) := by omega
                                have hlt2 : z < u := by omega
                                have hlt3 : (z : Int) < (u : Int) := by omega
                                by_cases hqs : q = s
                                · subst hqs
                                  go_wp2_with fail
                                  go_roundw
                                  case rel => exact ⟨q + 1, l, gx, cgx, false, X, by omega, by go_num, rfl, rfl, HX.out.2, HX.out.1.skip HZ.out (.inr hlt3) rfl, hgx, HO.out.1, HO.out.2⟩
                                  case measure => simp [intOf]; omega
                                · have hqs' : ((q : Int) != (s : Int)) = true := by simp; omega
                                  go_wp2_with (at_builtin; refine wp_append _ rfl _ _ 24 rfl 3 _ 1 8 Try.underlying24 info_int rfl (by decide) (by decide) gx l cgx _ rfl (HO.out.1.alloc _) _ _ _ [(z : Int)] rfl rfl (one_cell _ _ _) (by omega) ?_; intro gx' cgx' w1 hown hgr hloc hszw1; have hsw_w1 := hgr.size; (try simp at hsw_w1); have HN_w1 := Lib.hid (And.intro hown (And.intro hgr hloc)); clear hown hgr hloc)
                                  go_roundw
                                  case rel =>
                                    obtain ⟨hown, hgr, hloc⟩ := HN_w1.out
                                    have hgx' : wf.heap.size ≤ gx' := by
                                      rcases hloc with rfl | rfl
                                      · exact hgx
                                      · simp; omega
                                    exact ⟨q + 1, l + 1, gx', cgx', false, X ++ [(z : Int)], by omega, by go_num, rfl, rfl, by simp [HX.out.2], HX.out.1.take HTR.out.asc HZ.out (.inr hlt3) hqs, hgx', hown, below_gr (HO.out.2.alloc (by omega) _) hgr hgx (by simp; omega)⟩
                                  case measure => simp [intOf]; omega
                            · by_cases hqs : q = s
                              · subst hqs
                                go_wp2_with fail
                                go_roundw
                                case rel => exact ⟨q + 1, l, gx, cgx, true, X, by omega, by go_num, rfl, rfl, HX.out.2, HX.out.1.skip HZ.out (.inl rfl) rfl, hgx, HO.out.1, HO.out.2⟩
                                case measure => simp [intOf]; omega
                              · have hqs' : ((q : Int) != (s : Int)) = true := by simp; omega
                                go_wp2_with (at_builtin; refine wp_append _ rfl _ _ 24 rfl 3 _ 1 8 Try.underlying24 info_int rfl (by decide) (by decide) gx l cgx _ rfl (HO.out.1.alloc _) _ _ _ [(z : Int)] rfl rfl (one_cell _ _ _) (by omega) ?_; intro gx' cgx' w1 hown hgr hloc hszw1; have hsw_w1 := hgr.size; (try simp at hsw_w1); have HN_w1 := Lib.hid (And.intro hown (And.intro hgr hloc)); clear hown hgr hloc)
                                go_roundw
                                case rel =>
                                  obtain ⟨hown, hgr, hloc⟩ := HN_w1.out
                                  have hgx' : wf.heap.size ≤ gx' := by
                                    rcases hloc with rfl | rfl
                                    · exact hgx
                                    · simp; omega
                                  exact ⟨q + 1, l + 1, gx', cgx', true, X ++ [(z : Int)], by omega, by go_num, rfl, rfl, by simp [HX.out.2], HX.out.1.take HTR.out.asc HZ.out (.inl rfl) hqs, hgx', hown, below_gr (HO.out.2.alloc (by omega) _) hgr hgx (by simp; omega)⟩
                                case measure => simp [intOf]; omega
                          · have e4 : q = i := by omega
                            subst e4
                            clear hins hXl hox hbr
                            cases db
                            · have hTl := HM.out.2
                              go_upto_region 44 with (at_builtin; refine wp_append _ rfl _ _ 24 rfl 3 _ 1 8 Try.underlying24 info_int rfl (by decide) (by decide) gx l cgx _ rfl (HO.out.1.alloc _) _ _ _ [(u : Int)] rfl rfl (one_cell _ _ _) (by omega) ?_; intro gx' cgx' w1 hown hgr hloc hszw1; have hsw_w1 := hgr.size; (try simp at hsw_w1); have HN_w1 := Lib.hid (And.intro hown (And.intro hgr hloc)); clear hown hgr hloc)
                              obtain ⟨hown, hgr, hloc⟩ := HN_w1.out
                              have hb1 := below_gr (HO.out.2.alloc (by omega) (.cells #[.int .i64 u] 3)) hgr hgx (by simp; omega)
                              have hb1s := hb1.size
                              have HO2 := Lib.hid (And.intro hown hb1)
                              clear HN_w1 hown hgr hloc hb1
                              have hTl := HM.out.2
                              obtain ⟨b, hb⟩ : ∃ b, isT N rs (X ++ [(u : Int)]) = b := ⟨_, rfl⟩
                              have c5 := fun w h hh => Lib.hid (iTreeIs_at N _ (l + 1) (some ⟨P, 0, none⟩) (some ⟨gx', 0, none⟩) c cgx' rs (X ++ [(u : Int)]) b w h hh HM.out.1 (by simp [HX.out.2]) (by omega) (by omega) hb)
                              have HB : Hid (b = false → ¬ Good N rs T u s) := Lib.hid (fun e hg => by
                                have := good_tree HTR.out HL.out.2 (by omega) (by have := HX.out.1; rw [← hTl] at this; have := this.last; exact this) hg
                                rw [isT_true.2 this] at hb; rw [← hb] at e; cases e)
                              clear hb hTl
                              go_wp2_with ((go_at_call 15; (with_reducible refine ((c5 _ ?_ ?_).out).mono ?_); (focus ((exact runs_low hw3.out.2.1 hPf HO2.out.2); done)); (focus ((exact HO2.out.1.ints); done)); rintro e wx ⟨rfl, hb_wx⟩; have hs_wx := hb_wx.size; (try simp at hs_wx)))
                              go_roundw
                              case rel => exact ⟨s + 1, b, by omega, by go_num, rfl, fun e q' hq' => (by
                                by_cases e2 : q' = s
                                · subst e2; exact HB.out e
                                · exact HNO.out (by trivial) q' (by omega)), HO2.out.2.trans (hb_wx.mono hb1s)⟩
                              case measure => simp [intOf]; omega
                            · have hTl := HM.out.2
                              obtain ⟨b, hb⟩ : ∃ b, isT N rs X = b := ⟨_, rfl⟩
                              have c5 := fun w h hh => Lib.hid (iTreeIs_at N _ l (some ⟨P, 0, none⟩) (some ⟨gx, 0, none⟩) c cgx rs X b w h hh HM.out.1 (by simp [HX.out.2]) (by omega) (by omega) hb)
                              have HB : Hid (b = false → ¬ Good N rs T u s) := Lib.hid (fun e hg => by
                                have := good_tree HTR.out HL.out.2 (by omega) (by have := HX.out.1; rw [← hTl] at this; exact this) hg
                                rw [isT_true.2 this] at hb; rw [← hb] at e; cases e)
                              clear hb hTl
                              have hB5 := HBD.out
                              go_wp2_with ((go_at_call 15; (with_reducible refine ((c5 _ ?_ ?_).out).mono ?_); (focus ((exact runs_low hw3.out.2.1 hPf HO.out.2); done)); (focus ((exact HO.out.1.ints); done)); rintro e wx ⟨rfl, hb_wx⟩; have hs_wx := hb_wx.size; (try simp at hs_wx)))
                              go_roundw
                              case rel => exact ⟨s + 1, b, by omega, by go_num, rfl, fun e q' hq' => (by
                                by_cases e2 : q' = s
                                · subst e2; exact HB.out e
                                · exact HNO.out (by trivial) q' (by omega)), HO.out.2.trans (hb_wx.mono hbs2)⟩
                              case measure => simp [intOf]; omega
                      · have e4 : s = i := by omega
                        subst e4
                        exfalso
                        obtain ⟨x, hx, hg⟩ := good_some HTR.out HL.out.2
                        exact HNO.out (by trivial) x (by have := HM.out.2; omega) hg
                    · go_wp2_with fail
                      all_goals (
                        go_ret
                        exact ⟨ret_bool (by simp), HBD.out.2⟩)
set_option maxRecDepth 100000 in
theorem walk_long (len cap : Nat) (p : Option Addr) (w : World) (hl : 1048576 < len) :
    Calls Try.prog 8 #[.slice p len cap] w fun e w' => e = .returned (.bool true) ∧ Below w.heap.size w w' := by
  have hl' : (1048576 : Int) < (len : Int) := by omega
  go_enter Try.func8, Try.ntmps8
  go_wp2
  go_ret
  exact ⟨rfl, Below.refl _ _⟩

set_option maxRecDepth 100000 in
theorem lifted (os : Os) (started : os.Started) (H : Type) (enc : TypeId × Value → H) :
    ReturnsInHanded {} Try.checked os 8 .any (Rows.fnTreeExchangeSpec.pre6 enc Try.prog Try.f8 Rows.fnTreeExchangeRow.domain false) (Rows.fnTreeExchangeSpec.post enc Try.prog Try.f8 false true false false) := by
  refine returnsInHanded_of_change (C := Try.checked) own started (by kernel_rfl) Try.func8
    (ChangeSpec.witness6 (enc := enc) (C := Try.checked) false ⟨#[], #[.slice none 0 0], []⟩ 8 (by kernel_rfl) (by kernel_rfl) (by kernel_rfl) (by kernel_rfl)) ?_
  intro W base args ds gs before hval0 hW hcnd _
  have hval : ∀ (j : Nat) t v, Try.f8.params[j]? = some t → args[j]? = some v → Value.okWide Try.prog W .any base t v := hval0
  have hW' := hW
  obtain ⟨p, q, hA0, hV, rfl, hfz, hnd⟩ := hW
  have hA : DataW.TrodAll enc Try.prog W 0 (fun _ => true) true Try.f8.params.toList args.toList ds p := hA0
  rw [Try.params8] at hA hval
  obtain ⟨v0, vs0, d0, ds0, p0, q0, hargs, rfl, rfl, h0, r0⟩ := trodAll_cons hA
  obtain ⟨rfl, rfl, rfl⟩ := trodAll_nil r0
  obtain rfl : args = #[v0] := by cases args; simp_all
  obtain ⟨rfl, rfl⟩ := trodVars_none hV
  obtain ⟨a0, len0, cap0, rfl⟩ := okWide_slice Try.underlying22 (hval 0 22 v0 rfl rfl)
  have k0 := h0
  have lt0 : ∀ x ∈ p0, x.block < W.heap.size := by obtain ⟨m, hm⟩ := k0; exact DataW.trod_lt m _ _ _ hm
  obtain ⟨z0, w0⟩ : ∃ zs, IsRow .u8 W a0 len0 cap0 zs := by
    obtain ⟨fuel, hf⟩ := h0
    rcases open_ints Try.underlying22 Try.underlying5 (by kernel_rfl) hf with ⟨hcs, _⟩ | ⟨x, l, c, zs, hcs, _, hl, hm, hz, _, hcell, hwz⟩
    · simp [Value.cells] at hcs
      obtain ⟨rfl, rfl, rfl⟩ := hcs
      exact ⟨[], .inl ⟨rfl, rfl, rfl, rfl⟩⟩
    · simp [Value.cells] at hcs
      obtain ⟨rfl, rfl, rfl⟩ := hcs
      exact ⟨zs, .inr ⟨_, rfl, hl, hm, by simpa using hz, hcell, hwz⟩⟩
  clear hA0 hval0
  have hw : Calls Try.prog 8 #[.slice a0 len0 cap0] W fun e w' => e = .returned (.bool true) ∧ Below W.heap.size W w' := by
    by_cases hl : len0 ≤ 1048576
    · exact walk len0 cap0 a0 W hl (Lib.hid (code_of_row w0 hl))
    · exact walk_long len0 cap0 a0 W (by omega)
  refine hw.mono fun e W' ⟨he, bel⟩ => ?_
  subst he
  exact ⟨_, rfl, _, _, _, [], _, [], hW', trodAll_mk1 (shut_bool Try.underlying4 _), (trodAll_cons_mk (Below.trod laidOut (by kernel_rfl) (of_decide_eq_true (by kernel_rfl)) k0 bel lt0) trodAll_mk0), rfl, bel.frame _, fun h => by cases h⟩

theorem over : Rows.fnTreeExchangeRow.holds Try.pinned (OpenSpec.ofChange Rows.fnTreeExchangeSpec) :=
  OpenClaim.holds_of_wide 8 Try.f8 rfl rfl rfl rfl rfl rfl rfl ⟨rfl, rfl, rfl, rfl, rfl⟩ rfl rfl rfl rfl rfl (by kernel_rfl) Try.func8 (by kernel_rfl)
    (of_decide_eq_true (by kernel_rfl)) (by unfold Func.isWrapper; first | (rw [if_pos (by decide +kernel)]; kernel_rfl) | (rw [if_neg (by decide +kernel)]; exact ⟨rfl, rfl⟩))
    (fun os started H enc _ => lifted os started H enc)

theorem proved : Rows.FnTreeExchangeSaid := over
end Go.Proofs.Ytgbnnepbnahecaa.fnTreeExchange

