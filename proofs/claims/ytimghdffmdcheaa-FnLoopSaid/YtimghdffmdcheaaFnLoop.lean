/-
  For every two codes the law FnLoop returns true: impl.LoopIs answers as the reference model does; a loop that begins with another of its numbers is a loop with the same error; with the rises of heights it has no error. No condition: every two lists of bytes are taken.
-/
import Derived.Test.YtimghdffmdcheaaLv
import Derived.Test.YtimghdffmdcheaaDNm
import Derived.Test.YtimghdffmdcheaaCode
namespace Go.Proofs.Ytimghdffmdcheaa.fnLoop
open Go.ChangeShapes Go.WideShapes Go.ChangeAt Go.RowKit
set_option linter.unusedVariables false

theorem ints_drop {w : World} {P o : Nat} {zs : List Int} (h : Ints w (some ⟨P, o, none⟩) zs) (k : Nat) : Ints w (some ⟨P, o + k, none⟩) (zs.drop k) := by
  rcases h with rfl | ⟨B, o', e, hB, hc⟩
  · exact .inl (by simp)
  · simp at e
    obtain ⟨rfl, rfl⟩ := e
    refine .inr ⟨_, _, rfl, hB, fun i z hi => ?_⟩
    rw [Nat.add_assoc]
    exact hc (k + i) z (by rw [← hi, List.getElem?_drop])
theorem ints_take {w : World} {p : Option Addr} {zs : List Int} (h : Ints w p zs) (j : Nat) : Ints w p (zs.take j) := by
  rcases h with rfl | ⟨B, o, e, hB, hc⟩
  · exact .inl (by simp)
  · refine .inr ⟨B, o, e, hB, fun i r hi => hc i r ?_⟩
    rw [List.getElem?_take] at hi
    split at hi
    · exact hi
    · cases hi
set_option maxHeartbeats 8000000 in
set_option maxRecDepth 100000 in
theorem walk (len cap : Nat) (p : Option Addr) (len2 cap2 : Nat) (p2 : Option Addr) (w : World) (hl : len ≤ 1048576) (hl2 : len2 ≤ 1048576) (h : Hid (Code' w (.slice p len cap))) (h2 : Hid (Code' w (.slice p2 len2 cap2))) :
    Calls Try.prog 3 #[.slice p len cap, .slice p2 len2 cap2] w fun e w' => e = .returned (.bool true) ∧ Below w.heap.size w w' := by
  have hl' : ¬ (1048576 : Int) < (len : Int) := by omega
  have hl2' : ¬ (1048576 : Int) < (len2 : Int) := by omega
  have hl2'' : len2 ≤ 1048576 := hl2
  clear h2
  go_enter Try.func3, Try.ntmps3
  go_upto_region 4 with (go_at_call 15; (with_reducible refine (drawLoop_is _ _ h).mono ?_); rintro e wd ⟨N, m, k, rs, T, P, Q, d, ⟨c, rfl⟩, ⟨hmm, hkk, ⟨hN2, hN6⟩, hm8, hk12, hkd⟩, hR, hI, hb_wd⟩; have hs_wd := hb_wd.size; have HR := Lib.hid hR; have HI := Lib.hid hI; have HRI := Lib.hid (And.intro hR hI); have HM := Lib.hid (And.intro hmm hkk); clear hR hI hmm hkk)
  clear h
  obtain ⟨b, hb⟩ : ∃ b, isL N rs T = b := ⟨_, rfl⟩
  have c1 := fun w h hh => Lib.hid (iLoopIs N m k (some ⟨P, 0, none⟩) (some ⟨Q, 0, none⟩) c d rs T b w h hh HM.out.1 HM.out.2 (by omega) (by omega) hb)
  have c2 := fun w h hh => Lib.hid (sLoopIs N m k (some ⟨P, 0, none⟩) (some ⟨Q, 0, none⟩) c d rs T b w h hh HM.out.1 HM.out.2 (by omega) (by omega) hb)
  cases b
  · clear hb
    go_wp2_with (first | (go_at_call 16; (with_reducible refine ((c1 _ ?_ ?_).out).mono ?_); (focus ((exact HR.out); done)); (focus ((exact HI.out); done)); rintro e wi ⟨rfl, hb_wi⟩; have hs_wi := hb_wi.size; (try simp at hs_wi)) | (go_at_call 17; (with_reducible refine ((c2 _ ?_ ?_).out).mono ?_); (focus ((exact HR.out.below hb_wi); done)); (focus ((exact HI.out.below hb_wi); done)); rintro e ws ⟨rfl, hb_ws⟩; have hs_ws := hb_ws.size; (try simp at hs_ws)))
    go_ret
    exact ⟨rfl, (by repeat (first | assumption | exact Below.refl _ _ | (refine below_chain ?_ (by assumption) (by first | omega | (simp <;> omega) | simp)) | (refine Below.alloc ?_ (by first | omega | (simp <;> omega) | simp) _) | (apply below_drewN) | (apply below_drew) | (refine Below.setCell ?_ (by first | omega | (simp <;> omega) | simp) _)))⟩
  · have hL := isL_true.1 hb
    have hn := hL.ok
    have hk1 : 1 ≤ k := by have := hL.one; have := HM.out.2; omega
    obtain ⟨j, hj⟩ : ∃ j, len2 % k = j := ⟨_, rfl⟩
    have hjk : j < k := by rw [← hj]; exact Nat.mod_lt _ (by omega)
    have hjt : ((len2 : Int)).tmod (k : Int) = (j : Int) := by rw [← hj]; rfl
    have hk0 : ((k : Int) == 0) = false := by
      have : ¬ (k : Int) = 0 := by omega
      simpa using this
    have HL := Lib.hid (And.intro hL hb)
    clear hb hL hj
    go_upto_region 9 with (first | (go_at_call 16; (with_reducible refine ((c1 _ ?_ ?_).out).mono ?_); (focus ((exact HR.out); done)); (focus ((exact HI.out); done)); rintro e wi ⟨rfl, hb_wi⟩; have hs_wi := hb_wi.size; (try simp at hs_wi)) | (go_at_call 17; (with_reducible refine ((c2 _ ?_ ?_).out).mono ?_); (focus ((exact HR.out.below hb_wi); done)); (focus ((exact HI.out.below hb_wi); done)); rintro e ws ⟨rfl, hb_ws⟩; have hs_ws := hb_ws.size; (try simp at hs_ws)))
    have hbd : Below wd.heap.size wd ws := hb_wi.trans (hb_ws.mono hs_wi)
    have hB : Below w.heap.size w ws := hb_wd.trans (hbd.mono hs_wd)
    have HS := Lib.hid (And.intro hbd (And.intro hB (And.intro (HR.out.below hbd) (HI.out.below hbd))))
    have hbs := hB.size
    have hds := hbd.size
    clear hb_wi hb_ws hb_wd hbd hB c2 HR HI
    have hjd : (j : Int) ≤ (k : Int) := by omega
    have hj0 : (0 : Int) ≤ (j : Int) := by omega
    have hkd' : (k : Int) ≤ (d : Int) := by omega
    have hjd2 : (j : Int) ≤ (d : Int) := by omega
    have hdj : ¬ d ≤ j := by omega
    have hdj2 : ¬ d - j = 0 := by omega
    have hdj3 : ¬ (d : Int) = (j : Int) := by omega
    have hdj4 : (j : Int) < (d : Int) := by omega
    have hdj5 : j < d := by omega
    have hdj6 : ¬ d = j := by omega
    refine wp_region_any (by kernel_rfl) ?_
    change wpAny _ _ _ _ _ _ _ (World.drew _)
    refine wpAny_take (i := 1) (v := .slice (some ⟨Q, 0, none⟩) k d) rfl (by kernel_rfl) (by kernel_rfl) (by kernel_rfl) (fun _ _ _ h => h) (Or.inl ⟨by rfl, ?_⟩) ?_
    focus ((intro w; go_simp); (try exact wrap_id (by omega) (by omega)); done)
    refine wpAny_take (i := 2) (v := .int .i64 j) rfl (by kernel_rfl) (by kernel_rfl) (by kernel_rfl) (fun _ _ _ h => h) (Or.inl ⟨by rfl, ?_⟩) ?_
    focus ((intro w; go_simp); (try exact wrap_id (by omega) (by omega)); done)
    refine wpAny_take (i := 3) (v := .slice (some ⟨Q, j, none⟩) (k - j) (d - j)) rfl (by kernel_rfl) (by kernel_rfl) (by kernel_rfl) (fun _ _ _ h => h) (Or.inl ⟨by rfl, ?_⟩) ?_
    focus ((intro w; go_simp); (try exact wrap_id (by omega) (by omega)); done)
    refine wpAny_take (i := 5) (v := .slice (some ⟨Q, 0, none⟩) k d) rfl (by kernel_rfl) (by kernel_rfl) (by kernel_rfl) (fun _ _ _ h => h) (Or.inl ⟨by rfl, ?_⟩) ?_
    focus ((intro w; go_simp); (try exact wrap_id (by omega) (by omega)); done)
    refine wpAny_take (i := 6) (v := .int .i64 j) rfl (by kernel_rfl) (by kernel_rfl) (by kernel_rfl) (fun _ _ _ h => h) (Or.inl ⟨by rfl, ?_⟩) ?_
    focus ((intro w; go_simp); (try exact wrap_id (by omega) (by omega)); done)
    refine wpAny_take (i := 7) (v := .slice (some ⟨Q, 0, none⟩) j d) rfl (by kernel_rfl) (by kernel_rfl) (by kernel_rfl) (fun _ _ _ h => h) (Or.inl ⟨by rfl, ?_⟩) ?_
    focus ((intro w; go_simp); (try exact wrap_id (by omega) (by omega)); done)
    refine wpAny_ready (rs := [0]) (by kernel_rfl) (by simp) ?_
    refine AllReady.cons rfl (fun K' hK => ?_) AllReady.nil
    go_simp
    refine hK _ _ ?_
    clear hK K'
    have hIe : Ints ws (some ⟨Q, 0, none⟩) T := HS.out.2.2.2
    have hId := ints_drop hIe j
    rw [Nat.zero_add] at hId
    obtain ⟨gy, cy, w2, hrun, ho2, hg2, hl2⟩ := run_app (P := Try.prog) (ws.drew.alloc (.cells #[] 3)) 24 24 3 _ 1 8 Try.underlying24 info_int rfl (by decide) (by decide) ws.drew.heap.size 0 0 [] (Own.empty _ _ _) ⟨Q, j, none⟩ (k - j) (d - j) (T.drop j) (by rw [List.length_drop, HM.out.2]; omega) (ints_cellsI ((show Ints ws.drew (some ⟨Q, j, none⟩) (T.drop j) from hId).alloc _)) (by omega)
    refine wpAny_all (rs := [4]) (by kernel_rfl) (by simp) (fun i hi => ?_)
    obtain rfl : i = 4 := by simpa using hi
    refine wpOp_append rfl rfl _ _ 24 rfl rfl rfl hrun ?_
    have hIt : Ints w2 (some ⟨Q, 0, none⟩) (T.take j) := ints_take (((show Ints ws.drew (some ⟨Q, 0, none⟩) T from hIe).alloc (.cells #[] 3)).grown hg2 (fun o e => by
      simp at e
      obtain ⟨B, o', z, e', -, hBB, -⟩ := hIe.at (i := 0) (by have := HM.out.2; omega)
      cases e'
      have : ws.drew.heap.size = ws.heap.size := rfl
      omega)) j
    obtain ⟨gz, cz, w3, hrun3, ho3, hg3, hl3⟩ := run_app (P := Try.prog) w2 24 24 3 _ 1 8 Try.underlying24 info_int rfl (by decide) (by decide) gy (0 + (k - j)) cy ([] ++ T.drop j) ho2 ⟨Q, 0, none⟩ j d (T.take j) (by rw [List.length_take, HM.out.2]; omega) (ints_cellsI hIt) (by omega)
    have hKk : 0 + (k - j) + j = k := by omega
    rw [hKk] at hrun3 ho3
    refine wpAny_all (rs := [8]) (by kernel_rfl) (by simp) (fun i hi => ?_)
    obtain rfl : i = 8 := by simpa using hi
    refine wpOp_append rfl rfl _ _ 24 rfl rfl rfl hrun3 ?_
    refine wpAny_take (i := 9) (v := .slice (some ⟨gz, 0, none⟩) k cz) rfl (by kernel_rfl) (by kernel_rfl) (by kernel_rfl) (fun _ _ _ h => h) (Or.inl ⟨by rfl, ?_⟩) ?_
    focus ((intro w; go_simp); done)
    refine wpAny_done (by kernel_rfl) ?_ _
    have hsd : ws.drew.heap.size = ws.heap.size := rfl
    have hz2 := hg2.size
    have hz3 := hg3.size
    (try simp at hz2)
    have hgy : ws.heap.size ≤ gy := by rcases hl2 with e | e; (omega); (simp at e; omega)
    have hgz : ws.heap.size ≤ gz := by rcases hl3 with e | e; (omega); (omega)
    have hb1 : Below wd.heap.size wd (ws.drew.alloc (.cells #[] 3)) := (show Below wd.heap.size wd ws.drew from ⟨HS.out.1.os, HS.out.1.tape, HS.out.1.output, HS.out.1.size, HS.out.1.block⟩).alloc (by omega) _
    have hb2 : Below wd.heap.size wd w2 := below_gr hb1 hg2 (by omega) (by simp; omega)
    have hb3 : Below wd.heap.size wd w3 := below_gr hb2 hg3 (by omega) (by omega)
    have hs3 := hb3.size
    have hgz3 := ho3.lt
    have hXL : ([] ++ T.drop j ++ T.take j : List Int) = T.drop j ++ T.take j := by simp
    rw [hXL] at ho3
    have hT : T.take j ++ T.drop j = T := List.take_append_drop j T
    have hLX : IsL N rs (T.drop j ++ T.take j) := isL_rot (by rw [hT]; exact HL.out.1)
    have hsX : lsum rs (T.drop j ++ T.take j) = lsum rs T := by rw [lsum_rot, hT]
    generalize T.drop j ++ T.take j = X at ho3 hLX hsX
    have hXk : X.length = k := by have := ho3.len; omega
    have hBw : Below w.heap.size w w3 := HS.out.2.1.trans ((show Below ws.heap.size ws w3 from below_gr (below_gr ((show Below ws.heap.size ws ws.drew from ⟨rfl, rfl, rfl, Nat.le_refl _, fun _ _ => rfl⟩).alloc (by omega) _) hg2 (by omega) (by simp)) hg3 hgy (by omega)).mono hbs)
    have HX := Lib.hid (And.intro ho3 (And.intro hXk (And.intro hb3 hBw)))
    have HRw : Hid (Runs wd (some ⟨P, 0, none⟩) rs ∧ Ints wd (some ⟨Q, 0, none⟩) T) := Lib.hid HRI.out
    have e1 := fun w h hq => Lib.hid (iLoopError_yes N m k (some ⟨P, 0, none⟩) (some ⟨Q, 0, none⟩) c d rs T w h hq HM.out.1 HM.out.2 HL.out.2)
    have e2 := fun w h hq => Lib.hid (iLoopError_yes N m k (some ⟨P, 0, none⟩) (some ⟨gz, 0, none⟩) c cz rs X w h hq HM.out.1 hXk (isL_true.2 hLX))
    have i2 := fun w h hq => Lib.hid (iLoopIs N m k (some ⟨P, 0, none⟩) (some ⟨gz, 0, none⟩) c cz rs X true w h hq HM.out.1 hXk (by omega) (by omega) (isL_true.2 hLX))
    have s1 := fun w => Lib.hid (some_is N len2 w (by omega) hl2'')
    have f1 := fun (q : Option Addr) (dd : Nat) (hs : List Int) w h hh hN hlow => Lib.hid (fit_is P 0 c m q dd N rs hs w h hh HM.out.1 (by omega) hn hN hlow)
    have e3 : ∀ (g cap : Nat) (hs : List Int), Low hs → ∀ w, Runs w (some ⟨g, 0, none⟩) (rs.map (fitOne hs)) → Ints w (some ⟨Q, 0, none⟩) T → Hid (Calls Try.prog 18 #[.int .i64 N, .slice (some ⟨g, 0, none⟩) m cap, .slice (some ⟨Q, 0, none⟩) k d] w fun e w' => e = .returned (.tuple #[.int .i64 0, .bool true]) ∧ Below w.heap.size w w') := fun g cap hs hlow w h hq => Lib.hid (by
      have hF := isL_fit HL.out.1 hlow
      have := iLoopError_yes N m k (some ⟨g, 0, none⟩) (some ⟨Q, 0, none⟩) cap d (rs.map (fitOne hs)) T w h hq (by rw [List.length_map]; exact HM.out.1) HM.out.2 (isL_true.2 hF.1)
      rw [hF.2] at this
      exact this)
    rw [hsX] at e2
    obtain ⟨s, hs⟩ : ∃ s, lsum rs T = s := ⟨_, rfl⟩
    rw [hs] at e1 e2
    have HE := Lib.hid hs
    have HR3 : Hid (Runs w3 (some ⟨P, 0, none⟩) rs ∧ Ints w3 (some ⟨Q, 0, none⟩) T ∧ Ints w3 (some ⟨gz, 0, none⟩) X) := Lib.hid ⟨HRw.out.1.below hb3, HRw.out.2.below hb3, ho3.ints⟩
    clear hrun hrun3 ho2 hg2 hl2 ho3 hg3 hl3 hb1 hb2 hb3 hBw hIe hId hIt hLX hs hXL hT c1 hz2 hz3
    go_wp2_with (first | (go_at_call 18; (with_reducible refine ((e1 _ ?_ ?_).out).mono ?_); (focus ((exact HR3.out.1.below (by repeat (first | assumption | exact Below.refl _ _ | (refine below_chain ?_ (by assumption) (by first | omega | (simp <;> omega) | simp)) | (refine Below.alloc ?_ (by first | omega | (simp <;> omega) | simp) _) | (apply below_drewN) | (apply below_drew) | (refine Below.setCell ?_ (by first | omega | (simp <;> omega) | simp) _)))); done)); (focus ((exact HR3.out.2.1.below (by repeat (first | assumption | exact Below.refl _ _ | (refine below_chain ?_ (by assumption) (by first | omega | (simp <;> omega) | simp)) | (refine Below.alloc ?_ (by first | omega | (simp <;> omega) | simp) _) | (apply below_drewN) | (apply below_drew) | (refine Below.setCell ?_ (by first | omega | (simp <;> omega) | simp) _)))); done)); rintro e wa ⟨rfl, hb_wa⟩; have hs_wa := hb_wa.size; (try simp at hs_wa)) | (go_at_call 18; (with_reducible refine ((e2 _ ?_ ?_).out).mono ?_); (focus ((exact HR3.out.1.below (by repeat (first | assumption | exact Below.refl _ _ | (refine below_chain ?_ (by assumption) (by first | omega | (simp <;> omega) | simp)) | (refine Below.alloc ?_ (by first | omega | (simp <;> omega) | simp) _) | (apply below_drewN) | (apply below_drew) | (refine Below.setCell ?_ (by first | omega | (simp <;> omega) | simp) _)))); done)); (focus ((exact HR3.out.2.2.below (by repeat (first | assumption | exact Below.refl _ _ | (refine below_chain ?_ (by assumption) (by first | omega | (simp <;> omega) | simp)) | (refine Below.alloc ?_ (by first | omega | (simp <;> omega) | simp) _) | (apply below_drewN) | (apply below_drew) | (refine Below.setCell ?_ (by first | omega | (simp <;> omega) | simp) _)))); done)); rintro e wb ⟨rfl, hb_wb⟩; have hs_wb := hb_wb.size; (try simp at hs_wb)) | ((go_at_call 20; (with_reducible refine ((s1 _).out).mono ?_); rintro e wc ⟨g7, c7, hs7, rfl, hN7, hlow7, hg7, ho7, hb_wc⟩; have hs_wc := hb_wc.size; (try simp at hs_wc)); have HS7 := Lib.hid (And.intro hN7 (And.intro hlow7 ho7)); clear hN7 hlow7 ho7) | ((go_at_call 19; (with_reducible refine ((f1 _ _ hs7 _ ?_ ?_ ?_ ?_).out).mono ?_); (focus ((exact HR3.out.1.below (by repeat (first | assumption | exact Below.refl _ _ | (refine below_chain ?_ (by assumption) (by first | omega | (simp <;> omega) | simp)) | (refine Below.alloc ?_ (by first | omega | (simp <;> omega) | simp) _) | (apply below_drewN) | (apply below_drew) | (refine Below.setCell ?_ (by first | omega | (simp <;> omega) | simp) _)))); done)); (focus ((exact HS7.out.2.2.ints); done)); (focus ((exact HS7.out.1); done)); (focus ((exact HS7.out.2.1); done)); rintro e we ⟨g8, c8, rfl, hg8, ho8, hb_we⟩; have hs_we := hb_we.size; (try simp at hs_we)); have HF8 := Lib.hid ho8; clear ho8) | (go_at_call 18; (with_reducible refine ((e3 _ _ _ HS7.out.2.1 _ ?_ ?_).out).mono ?_); (focus ((exact HF8.out.runs); done)); (focus ((exact HR3.out.2.1.below (by repeat (first | assumption | exact Below.refl _ _ | (refine below_chain ?_ (by assumption) (by first | omega | (simp <;> omega) | simp)) | (refine Below.alloc ?_ (by first | omega | (simp <;> omega) | simp) _) | (apply below_drewN) | (apply below_drew) | (refine Below.setCell ?_ (by first | omega | (simp <;> omega) | simp) _)))); done)); rintro e wf ⟨rfl, hb_wf⟩; have hs_wf := hb_wf.size; (try simp at hs_wf)) | (go_at_call 16; (with_reducible refine ((i2 _ ?_ ?_).out).mono ?_); (focus ((exact HR3.out.1.below (by repeat (first | assumption | exact Below.refl _ _ | (refine below_chain ?_ (by assumption) (by first | omega | (simp <;> omega) | simp)) | (refine Below.alloc ?_ (by first | omega | (simp <;> omega) | simp) _) | (apply below_drewN) | (apply below_drew) | (refine Below.setCell ?_ (by first | omega | (simp <;> omega) | simp) _)))); done)); (focus ((exact HR3.out.2.2.below (by repeat (first | assumption | exact Below.refl _ _ | (refine below_chain ?_ (by assumption) (by first | omega | (simp <;> omega) | simp)) | (refine Below.alloc ?_ (by first | omega | (simp <;> omega) | simp) _) | (apply below_drewN) | (apply below_drew) | (refine Below.setCell ?_ (by first | omega | (simp <;> omega) | simp) _)))); done)); rintro e wg ⟨rfl, hb_wg⟩; have hs_wg := hb_wg.size; (try simp at hs_wg)))
    go_ret
    exact ⟨rfl, HX.out.2.2.2.trans (by repeat (first | assumption | exact Below.refl _ _ | (refine below_chain ?_ (by assumption) (by first | omega | (simp <;> omega) | simp)) | (refine Below.alloc ?_ (by first | omega | (simp <;> omega) | simp) _) | (apply below_drewN) | (apply below_drew) | (refine Below.setCell ?_ (by first | omega | (simp <;> omega) | simp) _)))⟩

set_option maxRecDepth 100000 in
theorem walk_long (len cap : Nat) (p : Option Addr) (len1 cap1 : Nat) (p1 : Option Addr) (w : World) (hl : 1048576 < len ∨ 1048576 < len1) :
    Calls Try.prog 3 #[.slice p len cap, .slice p1 len1 cap1] w fun e w' => e = .returned (.bool true) ∧ Below w.heap.size w w' := by
  by_cases h0 : (1048576 : Int) < (len : Int)
  · go_enter Try.func3, Try.ntmps3
    go_wp2
    go_ret
    exact ⟨rfl, Below.refl _ _⟩
  · have hl' : (1048576 : Int) < (len1 : Int) := by omega
    clear hl
    go_enter Try.func3, Try.ntmps3
    go_wp2
    go_ret
    exact ⟨rfl, Below.refl _ _⟩

set_option maxRecDepth 100000 in
theorem lifted (os : Os) (started : os.Started) (H : Type) (enc : TypeId × Value → H) :
    ReturnsInHanded {} Try.checked os 3 .any (Rows.fnLoopSpec.pre6 enc Try.prog Try.f3 Rows.fnLoopRow.domain false) (Rows.fnLoopSpec.post enc Try.prog Try.f3 false true false false) := by
  refine returnsInHanded_of_change (C := Try.checked) own started (by kernel_rfl) Try.func3
    (ChangeSpec.witness6 (enc := enc) (C := Try.checked) false ⟨#[], #[.slice none 0 0, .slice none 0 0], []⟩ 8 (by kernel_rfl) (by kernel_rfl) (by kernel_rfl) (by kernel_rfl)) ?_
  intro W base args ds gs before hval0 hW hcnd _
  have hval : ∀ (j : Nat) t v, Try.f3.params[j]? = some t → args[j]? = some v → Value.okWide Try.prog W .any base t v := hval0
  have hW' := hW
  obtain ⟨p, q, hA0, hV, rfl, hfz, hnd⟩ := hW
  have hA : DataW.TrodAll enc Try.prog W 0 (fun _ => true) true Try.f3.params.toList args.toList ds p := hA0
  rw [Try.params3] at hA hval
  obtain ⟨v0, vs0, d0, ds0, p0, q0, hargs, rfl, rfl, h0, r0⟩ := trodAll_cons hA
  obtain ⟨v1, vs1, d1, ds1, p1, q1, rfl, rfl, rfl, h1, r1⟩ := trodAll_cons r0
  obtain ⟨rfl, rfl, rfl⟩ := trodAll_nil r1
  obtain rfl : args = #[v0, v1] := by cases args; simp_all
  obtain ⟨rfl, rfl⟩ := trodVars_none hV
  obtain ⟨a0, len0, cap0, rfl⟩ := okWide_slice Try.underlying22 (hval 0 22 v0 rfl rfl)
  have k0 := h0
  have lt0 : ∀ x ∈ p0, x.block < W.heap.size := by obtain ⟨m, hm⟩ := k0; exact DataW.trod_lt m _ _ _ hm
  obtain ⟨z0, w0⟩ : ∃ zs, IsRow .u8 W a0 len0 cap0 zs := by
    obtain ⟨fuel, hf⟩ := h0
    rcases open_ints Try.underlying22 Try.underlying5 (by kernel_rfl) hf with ⟨hcs, _⟩ | ⟨x, l, c, zs, hcs, _, hl, hm, hz, _, hcell, hwz⟩
    · simp [Value.cells] at hcs
      obtain ⟨rfl, rfl, rfl⟩ := hcs
      exact ⟨[], .inl ⟨rfl, rfl, rfl, rfl⟩⟩
    · simp [Value.cells] at hcs
      obtain ⟨rfl, rfl, rfl⟩ := hcs
      exact ⟨zs, .inr ⟨_, rfl, hl, hm, by simpa using hz, hcell, hwz⟩⟩
  obtain ⟨a1, len1, cap1, rfl⟩ := okWide_slice Try.underlying22 (hval 1 22 v1 rfl rfl)
  have k1 := h1
  have lt1 : ∀ x ∈ p1, x.block < W.heap.size := by obtain ⟨m, hm⟩ := k1; exact DataW.trod_lt m _ _ _ hm
  obtain ⟨z1, w1⟩ : ∃ zs, IsRow .u8 W a1 len1 cap1 zs := by
    obtain ⟨fuel, hf⟩ := h1
    rcases open_ints Try.underlying22 Try.underlying5 (by kernel_rfl) hf with ⟨hcs, _⟩ | ⟨x, l, c, zs, hcs, _, hl, hm, hz, _, hcell, hwz⟩
    · simp [Value.cells] at hcs
      obtain ⟨rfl, rfl, rfl⟩ := hcs
      exact ⟨[], .inl ⟨rfl, rfl, rfl, rfl⟩⟩
    · simp [Value.cells] at hcs
      obtain ⟨rfl, rfl, rfl⟩ := hcs
      exact ⟨zs, .inr ⟨_, rfl, hl, hm, by simpa using hz, hcell, hwz⟩⟩
  clear hA0 hval0
  have hw : Calls Try.prog 3 #[.slice a0 len0 cap0, .slice a1 len1 cap1] W fun e w' => e = .returned (.bool true) ∧ Below W.heap.size W w' := by
    by_cases hl : len0 ≤ 1048576
    · by_cases hm : len1 ≤ 1048576
      · exact walk len0 cap0 a0 len1 cap1 a1 W hl hm (Lib.hid (code_of_row w0 hl)) (Lib.hid (code_of_row w1 hm))
      · exact walk_long len0 cap0 a0 len1 cap1 a1 W (by omega)
    · exact walk_long len0 cap0 a0 len1 cap1 a1 W (by omega)
  refine hw.mono fun e W' ⟨he, bel⟩ => ?_
  subst he
  exact ⟨_, rfl, _, _, _, [], _, [], hW', trodAll_mk1 (shut_bool Try.underlying4 _), (trodAll_cons_mk (Below.trod laidOut (by kernel_rfl) (of_decide_eq_true (by kernel_rfl)) k0 bel lt0) (trodAll_cons_mk (Below.trod laidOut (by kernel_rfl) (of_decide_eq_true (by kernel_rfl)) k1 bel lt1) trodAll_mk0)), rfl, bel.frame _, fun h => by cases h⟩

theorem over : Rows.fnLoopRow.holds Try.pinned (OpenSpec.ofChange Rows.fnLoopSpec) :=
  OpenClaim.holds_of_wide 3 Try.f3 rfl rfl rfl rfl rfl rfl rfl ⟨rfl, rfl, rfl, rfl, rfl⟩ rfl rfl rfl rfl rfl (by kernel_rfl) Try.func3 (by kernel_rfl)
    (of_decide_eq_true (by kernel_rfl)) (by unfold Func.isWrapper; first | (rw [if_pos (by decide +kernel)]; kernel_rfl) | (rw [if_neg (by decide +kernel)]; exact ⟨rfl, rfl⟩))
    (fun os started H enc _ => lifted os started H enc)

theorem proved : Rows.FnLoopSaid := over
end Go.Proofs.Ytimghdffmdcheaa.fnLoop

