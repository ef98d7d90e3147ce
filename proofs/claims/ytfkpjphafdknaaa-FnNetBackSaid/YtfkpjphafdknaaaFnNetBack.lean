/-
  For every two codes the law FnNetBack returns true: impl.NetBack answers the turned net as the reference model does; turned again it is the net that it was; impl.NetLinked and impl.NetLoops stay, and heights that fit one fit the other. No condition: every two lists of bytes are taken.
-/
import Derived.Test.YtfkpjphafdknaaaDNc
import Derived.Test.YtfkpjphafdknaaaCode
import Derived.Test.YtfkpjphafdknaaaNy
import Derived.Test.YtfkpjphafdknaaaNz
namespace Go.Proofs.Ytfkpjphafdknaaa.fnNetBack
open Go.ChangeShapes Go.WideShapes Go.ChangeAt Go.RowKit
set_option linter.unusedVariables false

theorem turn_turn (r : Rn) : turnR (turnR r) = r := by cases r; simp [turnR]
theorem turn_set {rs : List Rn} {j : Nat} {r : Rn} (h : rs[j]? = some r) : (rs.set j (turnR r)).set j r = rs := by
  rw [List.set_set]
  apply List.ext_getElem?
  intro i
  rw [List.getElem?_set]
  split
  · rename_i e; subst e; split
    · exact h.symm
    · rename_i hn; exact absurd (List.getElem?_eq_some_iff.1 h).1 hn
  · rfl
theorem turn_ok {n : Int} {r : Rn} (h : rOk n r = true) : rOk n (turnR r) = true := by
  obtain ⟨a1, a2, a3, a4, a5, a6, a7, a8, a9⟩ := rOk_true h
  exact rOk_of a3 a4 a1 a2 (Ne.symm a5) (by simp [turnR]; omega) (by simp [turnR]; omega) a8 a9
theorem nOk_turn {n : Int} {rs : List Rn} {j : Nat} {r : Rn} (hn : nOk n rs = true) (hr : rs[j]? = some r) : nOk n (rs.set j (turnR r)) = true := by
  obtain ⟨h1, h2, h3, h4⟩ := nOk_true hn
  refine nOk_of h1 h2 (by simpa using h3) (fun i r' hi => ?_)
  rw [List.getElem?_set] at hi
  split at hi
  · split at hi
    · cases hi; exact turn_ok (h4 j r hr)
    · cases hi
  · exact h4 i r' hi
/-- each run has the ends of one of the other list -/
def Ends (rs rs' : List Rn) : Prop := ∀ r ∈ rs, ∃ r' ∈ rs', (r.f = r'.f ∧ r.t = r'.t) ∨ (r.f = r'.t ∧ r.t = r'.f)
theorem same_ends {rs rs' : List Rn} (h : Ends rs rs') {i j : Int} (hs : Same rs i j) : Same rs' i j := fun g hg => hs g (fun r hr => by
  obtain ⟨r', hr', ⟨e1, e2⟩ | ⟨e1, e2⟩⟩ := h r hr
  · rw [e1, e2]; exact hg r' hr'
  · rw [e1, e2]; exact (hg r' hr').symm)
theorem ends_turn {rs : List Rn} {j : Nat} {r : Rn} (hr : rs[j]? = some r) : Ends rs (rs.set j (turnR r)) ∧ Ends (rs.set j (turnR r)) rs := by
  have hj := (List.getElem?_eq_some_iff.1 hr).1
  constructor
  · intro x hx
    obtain ⟨i, hi⟩ := List.getElem?_of_mem hx
    by_cases e : j = i
    · subst e
      rw [hr] at hi; cases hi
      exact ⟨turnR r, List.mem_of_getElem? (i := j) (by rw [List.getElem?_set]; simp [hj]), .inr ⟨rfl, rfl⟩⟩
    · exact ⟨x, List.mem_of_getElem? (i := i) (by rw [List.getElem?_set, if_neg e]; exact hi), .inl ⟨rfl, rfl⟩⟩
  · intro x hx
    obtain ⟨i, hi⟩ := List.getElem?_of_mem hx
    rw [List.getElem?_set] at hi
    by_cases e : j = i
    · subst e
      rw [if_pos rfl, if_pos hj] at hi
      cases hi; exact ⟨r, List.mem_of_getElem? hr, .inr ⟨rfl, rfl⟩⟩
    · rw [if_neg e] at hi
      exact ⟨x, List.mem_of_getElem? hi, .inl ⟨rfl, rfl⟩⟩
theorem labs_same {N : Nat} {rs rs' : List Rn} (h : Ends rs rs') (h' : Ends rs' rs) : labs N rs' = labs N rs := by
  have L := labs_is N rs
  have : IsLab N rs' (labs N rs) := ⟨L.len, fun i h0 h1 => by
    have := L.lst i h0 h1
    exact ⟨this.lo, this.le, same_ends h this.same, fun x hx hx' hs => this.min x hx hx' (same_ends h' hs)⟩⟩
  exact (labs_eq this).symm
/-- heights that fit a net fit the turned one -/
theorem fits_turn {N : Nat} {rs : List Rn} {j : Nat} {r : Rn} {hs : List Int} (hn : nOk N rs = true) (hr : rs[j]? = some r) (hl : hs.length = N) (hlow : Low hs) :
    nOk N (rs.map (fitOne hs)) = true ∧ (rs.map (fitOne hs))[j]? = some (fitOne hs r) ∧ nFits N ((rs.map (fitOne hs)).set j (turnR (fitOne hs r))) hs = true := by
  obtain ⟨h1, h2, h3, h4⟩ := nOk_true hn
  have hok : nOk N (rs.map (fitOne hs)) = true := by
    refine nOk_of h1 h2 (by simpa using h3) (fun i r' hi => ?_)
    rw [List.getElem?_map] at hi
    obtain ⟨x, hx, rfl⟩ := Option.map_eq_some_iff.1 hi
    obtain ⟨a1, a2, a3, a4, a5, a6, a7, a8, a9⟩ := rOk_true (h4 i x hx)
    obtain ⟨l1, l2⟩ := hlow _ _ (htAt_get (L := hs) a1 (by omega))
    obtain ⟨l3, l4⟩ := hlow _ _ (htAt_get (L := hs) a3 (by omega))
    exact rOk_of a1 a2 a3 a4 a5 (by simp [fitOne]; omega) (by simp [fitOne]; omega) a8 a9
  have hj : (rs.map (fitOne hs))[j]? = some (fitOne hs r) := by rw [List.getElem?_map, hr]; rfl
  refine ⟨hok, hj, nFits_of (nOk_turn hok hj) (htOk_of (by omega) (fun i z _ hi => ?_)) (fun i r' _ hi => ?_)⟩
  · have := hlow i z hi
    unfold hOk; simp; omega
  · rw [List.getElem?_set] at hi
    split at hi
    · split at hi
      · cases hi; unfold fitR turnR fitOne; simp; omega
      · cases hi
    · rw [List.getElem?_map] at hi
      obtain ⟨x, hx, rfl⟩ := Option.map_eq_some_iff.1 hi
      unfold fitR fitOne; simp
section
variable {N j m : Nat} {q : Option Addr} {c : Nat} {rs : List Rn} {r : Rn}
def NewR (w : World) (m : Nat) (rs : List Rn) (v : Value) (w' : World) : Prop :=
  ∃ g cap, v = .slice (some ⟨g, 0, none⟩) m cap ∧ w.heap.size ≤ g ∧ Own w' g 30 4 m cap (flat rs) ∧ Below w.heap.size w w'
theorem iBack_at (w : World) (hm : rs.length = m) (h : Runs w q rs) (h1 : nOk N rs = true) (hr : rs[j]? = some r) :
    Calls Try.prog 23 #[.int .i64 N, .slice q m c, .int .i64 j] w fun e w' => ∃ v, e = .returned (.tuple #[v, .bool true]) ∧ NewR w m (rs.set j (turnR r)) v w' := by
  subst hm
  exact (iBack_yes N q c rs j r w h h1 hr).mono fun e w' ⟨v, he, g, cap, hv, hg, ho, hb⟩ => ⟨v, he, g, cap, by simpa using hv, hg, by simpa using ho, hb⟩
theorem sBack_at (w : World) (hm : rs.length = m) (h : Runs w q rs) (h1 : nOk N rs = true) (hr : rs[j]? = some r) :
    Calls Try.prog 24 #[.int .i64 N, .slice q m c, .int .i64 j] w fun e w' => ∃ v, e = .returned (.tuple #[v, .bool true]) ∧ NewR w m (rs.set j (turnR r)) v w' := by
  subst hm
  exact (sBack_yes N q c rs j r w h h1 hr).mono fun e w' ⟨v, he, g, cap, hv, hg, ho, hb⟩ => ⟨v, he, g, cap, by simpa using hv, hg, by simpa using ho, hb⟩
theorem iLinked_at (w : World) (hm : rs.length = m) (h : Runs w q rs) (hn : nOk N rs = true) :
    Calls Try.prog 15 #[.int .i64 N, .slice q m c] w fun e w' => ∃ v, e = .returned v ∧ NewInts w (labs N rs) v w' := by
  subst hm; exact iLinked_yes N q c rs w h hn
theorem iLoops_at {v : Int} (w : World) (hm : rs.length = m) (h : Runs w q rs) (hl : m ≤ 12) (hb : nLoops N rs = v) :
    Calls Try.prog 20 #[.int .i64 N, .slice q m c] w fun e w' => e = .returned (.int .i64 v) ∧ Below w.heap.size w w' := by
  subst hm; exact iLoops N q c rs v w h (by omega) hb
theorem iFits_at {hs : List Int} {p : Option Addr} {d : Nat} {b : Bool} (w : World) (hm : rs.length = m) (hN : hs.length = N) (h : Runs w q rs) (hh : Ints w p hs) (hl : m ≤ 12) (hl2 : N ≤ 6) (hb : nFits N rs hs = b) :
    Calls Try.prog 28 #[.int .i64 N, .slice q m c, .slice p N d] w fun e w' => e = .returned (.bool b) ∧ Below w.heap.size w w' := by
  subst hm; subst hN; exact iFits _ q p c d rs hs b w h hh (by omega) (by omega) hb
end

theorem drawBack_at (v : Value) (w : World) (h : Hid (Code' w v)) :
    Calls Try.prog 22 #[v] w fun e w' => ∃ (N : Nat) (rs : List Rn) (p : Option Addr) (k : Int) (m : Nat), (∃ c, e = .returned (.tuple #[.int .i64 N, .slice p m c, .int .i64 k])) ∧ rs.length = m ∧ NetOf w N rs p w' ∧ -1 ≤ k ∧ k ≤ 8 :=
  (drawBack_is v w h).mono fun e w' ⟨N, rs, p, k, ⟨c, he⟩, hn, hk⟩ => ⟨N, rs, p, k, rs.length, ⟨c, he⟩, rfl, hn, hk⟩
theorem iBack_no' {n k : Int} {m : Nat} {q : Option Addr} {c : Nat} {rs : List Rn} (w : World) (hm : rs.length = m) (h : Runs w q rs) (hl : m ≤ 12) (hno : ¬ (nOk n rs = true ∧ 0 ≤ k ∧ k < rs.length)) :
    Calls Try.prog 23 #[.int .i64 n, .slice q m c, .int .i64 k] w fun e w' => e = .returned (.tuple #[.slice none 0 0, .bool false]) ∧ Below w.heap.size w w' := by
  subst hm; exact iBack_no n k q c rs w h (by omega) hno
theorem sBack_no' {n k : Int} {m : Nat} {q : Option Addr} {c : Nat} {rs : List Rn} (w : World) (hm : rs.length = m) (h : Runs w q rs) (hl : m ≤ 12) (hno : ¬ (nOk n rs = true ∧ 0 ≤ k ∧ k < rs.length)) :
    Calls Try.prog 24 #[.int .i64 n, .slice q m c, .int .i64 k] w fun e w' => (∃ q, e = .returned (.tuple #[.slice q 0 0, .bool false])) ∧ Below w.heap.size w w' := by
  subst hm; exact sBack_no n k q c rs w h (by omega) hno

set_option maxHeartbeats 8000000 in
set_option maxRecDepth 100000 in
theorem walk (len cap : Nat) (p : Option Addr) (len2 cap2 : Nat) (p2 : Option Addr) (w : World) (hl : len ≤ 1048576) (hl2 : len2 ≤ 1048576) (h : Hid (Code' w (.slice p len cap))) (h2 : Hid (Code' w (.slice p2 len2 cap2))) :
    Calls Try.prog 5 #[.slice p len cap, .slice p2 len2 cap2] w fun e w' => e = .returned (.bool true) ∧ Below w.heap.size w w' := by
  have hl' : ¬ (1048576 : Int) < (len : Int) := by omega
  have hl2' : ¬ (1048576 : Int) < (len2 : Int) := by omega
  clear h2
  go_enter Try.func5, Try.ntmps5
  go_wp2_with (go_at_call 22; (with_reducible refine (drawBack_at _ _ h).mono ?_); rintro e wd ⟨N, rs, q, k, m, ⟨c, rfl⟩, hmm, ⟨⟨hN2, hN6⟩, hl8, hR, hb_wd⟩, hk1, hk2⟩; have hs_wd := hb_wd.size; have HR := Lib.hid hR; have HM := Lib.hid hmm; clear hR)
  have hm8 : m ≤ 8 := by omega
  clear h hl8 hmm
  by_cases hy : nOk N rs = true ∧ 0 ≤ k ∧ k < rs.length
  · obtain ⟨j, r, rfl, hj, hr⟩ := hasRun_nat hy.2
    have hn := hy.1
    obtain ⟨B, o, r', rfl, -, -, -⟩ := HR.out.at hj
    have hrt := nOk_turn hn hr
    obtain ⟨en1, en2⟩ := ends_turn hr
    have hlab := labs_same (N := N) en1 en2
    have htt := turn_set hr
    have hrr : (rs.set j (turnR r))[j]? = some (turnR r) := by rw [List.getElem?_set]; simp [hj]
    have hml : (rs.set j (turnR r)).length = m := by simpa using HM.out
    have c1 := fun w h => Lib.hid (iBack_at (q := some ⟨B, o, none⟩) (c := c) w HM.out h hn hr)
    have c2 := fun w h => Lib.hid (sBack_at (q := some ⟨B, o, none⟩) (c := c) w HM.out h hn hr)
    have c3 := fun w q c h => Lib.hid (iBack_at (q := q) (c := c) w hml h hrt hrr)
    rw [turn_turn, htt] at c3
    have hv : nLoops N (rs.set j (turnR r)) = nLoops N rs := by rw [nLoops_yes hrt, nLoops_yes hn, hlab, hml, HM.out]
    obtain ⟨v, hv2⟩ : ∃ v, nLoops N rs = v := ⟨_, rfl⟩
    rw [hv2] at hv
    have c5 := fun w q c h => Lib.hid (iLoops_at (q := q) (c := c) w hml h (by omega) hv)
    have c6 := fun w h => Lib.hid (iLoops_at (q := some ⟨B, o, none⟩) (c := c) w HM.out h (by omega) hv2)
    have c7 := fun w q c h => Lib.hid (iLinked_at (q := q) (c := c) w hml h hrt)
    rw [hlab] at c7
    have c8 := fun w h => Lib.hid (iLinked_at (q := some ⟨B, o, none⟩) (c := c) w HM.out h hn)
    have hzl := labs_len N rs
    have HT := Lib.hid (And.intro hn (And.intro hr hml))
    generalize hrt' : rs.set j (turnR r) = rt at c1 c2 c3 c5 c7 HT
    generalize hzs : labs N rs = zs at c7 c8 hzl
    have hz6 : zs.length ≤ 6 := by omega
    clear hy hj hn hrt en1 en2 hlab htt hrr hml hv hv2 hr hrt' hzs hzl
    go_wp2_with (first | (go_at_call 23; (with_reducible refine ((c1 _ ?_).out).mono ?_); (focus (exact HR.out.below (by repeat (first | assumption | exact Below.refl _ _ | (refine below_chain ?_ (by assumption) (by first | omega | (simp <;> omega) | simp)) | (refine Below.alloc ?_ (by first | omega | (simp <;> omega) | simp) _) | (apply below_drewN) | (apply below_drew) | (refine Below.setCell ?_ (by first | omega | (simp <;> omega) | simp) _))); done)); rintro e wi ⟨u, rfl, gi, ci, rfl, hgi, oi, hb_wi⟩; have hs_wi := hb_wi.size; have OI := Lib.hid oi; clear oi) | (go_at_call 24; (with_reducible refine ((c2 _ ?_).out).mono ?_); (focus (exact HR.out.below (by repeat (first | assumption | exact Below.refl _ _ | (refine below_chain ?_ (by assumption) (by first | omega | (simp <;> omega) | simp)) | (refine Below.alloc ?_ (by first | omega | (simp <;> omega) | simp) _) | (apply below_drewN) | (apply below_drew) | (refine Below.setCell ?_ (by first | omega | (simp <;> omega) | simp) _))); done)); rintro e ws ⟨u', rfl, gs, cs, rfl, hgs, os, hb_ws⟩; have hs_ws := hb_ws.size; have OS := Lib.hid os; clear os) | (go_at_call 25; (with_reducible refine (sameRuns_is _ _ _ _ m rt _ ?_ ?_ HT.out.2.2 (by omega)).mono ?_); (focus ((exact (OI.out.below (by repeat (first | assumption | exact Below.refl _ _ | (refine below_chain ?_ (by assumption) (by first | omega | (simp <;> omega) | simp)) | (refine Below.alloc ?_ (by first | omega | (simp <;> omega) | simp) _) | (apply below_drewN) | (apply below_drew) | (refine Below.setCell ?_ (by first | omega | (simp <;> omega) | simp) _)))).runs); done)); (focus ((exact OS.out.runs); done)); rintro e wt ⟨rfl, hb_wt⟩; have hs_wt := hb_wt.size; (try simp at hs_wt)))
    clear c1 c2
    go_wp2_with (first | (go_at_call 23; (with_reducible refine ((c3 _ _ _ ?_).out).mono ?_); (focus (exact (OI.out.below (by repeat (first | assumption | exact Below.refl _ _ | (refine below_chain ?_ (by assumption) (by first | omega | (simp <;> omega) | simp)) | (refine Below.alloc ?_ (by first | omega | (simp <;> omega) | simp) _) | (apply below_drewN) | (apply below_drew) | (refine Below.setCell ?_ (by first | omega | (simp <;> omega) | simp) _)))).runs; done)); rintro e wx ⟨u, rfl, gx, cx, rfl, hgx, ox, hb_wx⟩; have hs_wx := hb_wx.size; have OX := Lib.hid ox; clear ox) | (go_at_call 26; (with_reducible refine (some_is N len2 _ hN6 hl2).mono ?_); rintro e wh ⟨gh, ch, L, rfl, hLN, hlow, hgh, oh, hb_wh⟩; have hs_wh := hb_wh.size; have OH := Lib.hid oh; clear oh))
    obtain ⟨hfn, hfj, hfits⟩ := fits_turn HT.out.1 HT.out.2.1 hLN hlow
    have hml2 : (rs.map (fitOne L)).length = m := by simpa using HM.out
    have c9 := fun w q c h => Lib.hid (iBack_at (q := q) (c := c) w hml2 h hfn hfj)
    have hml3 : ((rs.map (fitOne L)).set j (turnR (fitOne L r))).length = m := by simpa using HM.out
    have c10 := fun w q c p d h hh => Lib.hid (iFits_at (q := q) (c := c) (p := p) (d := d) w hml3 hLN h hh (by omega) hN6 hfits)
    have c11 := fun w h hh => Lib.hid (fit_is B o c m (some ⟨gh, 0, none⟩) ch N rs L w h hh HM.out (by omega) HT.out.1 hLN hlow)
    generalize (rs.map (fitOne L)).set j (turnR (fitOne L r)) = fy at c9 c10 hml3 hfits
    generalize rs.map (fitOne L) = fl at c9 c11 hml2 hfn hfj
    have HL := Lib.hid (And.intro hml2 hml3)
    clear hLN hlow hfn hfj hfits hml2 hml3 c3
    go_wp2_with (first | (go_at_call 27; (with_reducible refine ((c11 _ ?_ ?_).out).mono ?_); (focus (exact HR.out.below (by repeat (first | assumption | exact Below.refl _ _ | (refine below_chain ?_ (by assumption) (by first | omega | (simp <;> omega) | simp)) | (refine Below.alloc ?_ (by first | omega | (simp <;> omega) | simp) _) | (apply below_drewN) | (apply below_drew) | (refine Below.setCell ?_ (by first | omega | (simp <;> omega) | simp) _))); done)); (focus (exact OH.out.ints; done)); rintro e wf ⟨gf, cf, rfl, hgf, of', hb_wf⟩; have hs_wf := hb_wf.size; have OF := Lib.hid of'; clear of') | (go_at_call 23; (with_reducible refine ((c9 _ _ _ ?_).out).mono ?_); (focus (exact (OF.out.below (by repeat (first | assumption | exact Below.refl _ _ | (refine below_chain ?_ (by assumption) (by first | omega | (simp <;> omega) | simp)) | (refine Below.alloc ?_ (by first | omega | (simp <;> omega) | simp) _) | (apply below_drewN) | (apply below_drew) | (refine Below.setCell ?_ (by first | omega | (simp <;> omega) | simp) _)))).runs; done)); rintro e wy ⟨u, rfl, gy, cy, rfl, hgy, oy, hb_wy⟩; have hs_wy := hb_wy.size; have OY := Lib.hid oy; clear oy))
    clear c9 c11
    go_wp2_with ((go_at_call 25; (with_reducible refine (sameRuns_is _ _ _ _ m rs _ ?_ ?_ HM.out (by omega)).mono ?_); (focus ((exact (OX.out.below (by repeat (first | assumption | exact Below.refl _ _ | (refine below_chain ?_ (by assumption) (by first | omega | (simp <;> omega) | simp)) | (refine Below.alloc ?_ (by first | omega | (simp <;> omega) | simp) _) | (apply below_drewN) | (apply below_drew) | (refine Below.setCell ?_ (by first | omega | (simp <;> omega) | simp) _)))).runs); done)); (focus ((exact HR.out.below (by repeat (first | assumption | exact Below.refl _ _ | (refine below_chain ?_ (by assumption) (by first | omega | (simp <;> omega) | simp)) | (refine Below.alloc ?_ (by first | omega | (simp <;> omega) | simp) _) | (apply below_drewN) | (apply below_drew) | (refine Below.setCell ?_ (by first | omega | (simp <;> omega) | simp) _)))); done)); rintro e w1 ⟨rfl, hb_w1⟩; have hs_w1 := hb_w1.size; (try simp at hs_w1)))
    go_wp2_with (go_at_call 15; (with_reducible refine ((c7 _ _ _ ?_).out).mono ?_); (focus (exact (OI.out.below (by repeat (first | assumption | exact Below.refl _ _ | (refine below_chain ?_ (by assumption) (by first | omega | (simp <;> omega) | simp)) | (refine Below.alloc ?_ (by first | omega | (simp <;> omega) | simp) _) | (apply below_drewN) | (apply below_drew) | (refine Below.setCell ?_ (by first | omega | (simp <;> omega) | simp) _)))).runs; done)); rintro e w2 ⟨u, rfl, g2, k2, rfl, hg2, o2, hb_w2⟩; have hs_w2 := hb_w2.size; have O2 := Lib.hid o2; clear o2)
    go_wp2_with (go_at_call 15; (with_reducible refine ((c8 _ ?_).out).mono ?_); (focus (exact HR.out.below (by repeat (first | assumption | exact Below.refl _ _ | (refine below_chain ?_ (by assumption) (by first | omega | (simp <;> omega) | simp)) | (refine Below.alloc ?_ (by first | omega | (simp <;> omega) | simp) _) | (apply below_drewN) | (apply below_drew) | (refine Below.setCell ?_ (by first | omega | (simp <;> omega) | simp) _))); done)); rintro e w3 ⟨u, rfl, g3, k3, rfl, hg3, o3, hb_w3⟩; have hs_w3 := hb_w3.size; have O3 := Lib.hid o3; clear o3)
    go_wp2_with ((go_at_call 17; (with_reducible refine (sameInts_is _ _ _ _ zs _ ?_ ?_ (by omega)).mono ?_); (focus ((exact (O2.out.below (by repeat (first | assumption | exact Below.refl _ _ | (refine below_chain ?_ (by assumption) (by first | omega | (simp <;> omega) | simp)) | (refine Below.alloc ?_ (by first | omega | (simp <;> omega) | simp) _) | (apply below_drewN) | (apply below_drew) | (refine Below.setCell ?_ (by first | omega | (simp <;> omega) | simp) _)))).ints); done)); (focus ((exact O3.out.ints); done)); rintro e w4 ⟨rfl, hb_w4⟩; have hs_w4 := hb_w4.size; (try simp at hs_w4)))
    go_wp2_with ((go_at_call 20; (with_reducible refine ((c5 _ _ _ ?_).out).mono ?_); (focus ((exact (OI.out.below (by repeat (first | assumption | exact Below.refl _ _ | (refine below_chain ?_ (by assumption) (by first | omega | (simp <;> omega) | simp)) | (refine Below.alloc ?_ (by first | omega | (simp <;> omega) | simp) _) | (apply below_drewN) | (apply below_drew) | (refine Below.setCell ?_ (by first | omega | (simp <;> omega) | simp) _)))).runs); done)); rintro e w5 ⟨rfl, hb_w5⟩; have hs_w5 := hb_w5.size; (try simp at hs_w5)))
    go_wp2_with ((go_at_call 20; (with_reducible refine ((c6 _ ?_).out).mono ?_); (focus ((exact HR.out.below (by repeat (first | assumption | exact Below.refl _ _ | (refine below_chain ?_ (by assumption) (by first | omega | (simp <;> omega) | simp)) | (refine Below.alloc ?_ (by first | omega | (simp <;> omega) | simp) _) | (apply below_drewN) | (apply below_drew) | (refine Below.setCell ?_ (by first | omega | (simp <;> omega) | simp) _)))); done)); rintro e w6 ⟨rfl, hb_w6⟩; have hs_w6 := hb_w6.size; (try simp at hs_w6)))
    go_wp2_with ((go_at_call 28; (with_reducible refine ((c10 _ _ _ _ _ ?_ ?_).out).mono ?_); (focus ((exact (OY.out.below (by repeat (first | assumption | exact Below.refl _ _ | (refine below_chain ?_ (by assumption) (by first | omega | (simp <;> omega) | simp)) | (refine Below.alloc ?_ (by first | omega | (simp <;> omega) | simp) _) | (apply below_drewN) | (apply below_drew) | (refine Below.setCell ?_ (by first | omega | (simp <;> omega) | simp) _)))).runs); done)); (focus ((exact (OH.out.below (by repeat (first | assumption | exact Below.refl _ _ | (refine below_chain ?_ (by assumption) (by first | omega | (simp <;> omega) | simp)) | (refine Below.alloc ?_ (by first | omega | (simp <;> omega) | simp) _) | (apply below_drewN) | (apply below_drew) | (refine Below.setCell ?_ (by first | omega | (simp <;> omega) | simp) _)))).ints); done)); rintro e w7 ⟨rfl, hb_w7⟩; have hs_w7 := hb_w7.size; (try simp at hs_w7)))
    go_ret
    exact ⟨rfl, (by repeat (first | assumption | exact Below.refl _ _ | (refine below_chain ?_ (by assumption) (by first | omega | (simp <;> omega) | simp)) | (refine Below.alloc ?_ (by first | omega | (simp <;> omega) | simp) _) | (apply below_drewN) | (apply below_drew) | (refine Below.setCell ?_ (by first | omega | (simp <;> omega) | simp) _)))⟩
  · have c1 := fun w h => Lib.hid (iBack_no' (q := q) (c := c) w HM.out h (by omega) hy)
    have c2 := fun w h => Lib.hid (sBack_no' (q := q) (c := c) w HM.out h (by omega) hy)
    clear hy
    go_wp2_with (first | (go_at_call 23; (with_reducible refine ((c1 _ ?_).out).mono ?_); (focus ((exact HR.out); done)); rintro e wi ⟨rfl, hb_wi⟩; have hs_wi := hb_wi.size; (try simp at hs_wi)) | (go_at_call 24; (with_reducible refine ((c2 _ ?_).out).mono ?_); (focus ((exact HR.out.below (by repeat (first | assumption | exact Below.refl _ _ | (refine below_chain ?_ (by assumption) (by first | omega | (simp <;> omega) | simp)) | (refine Below.alloc ?_ (by first | omega | (simp <;> omega) | simp) _) | (apply below_drewN) | (apply below_drew) | (refine Below.setCell ?_ (by first | omega | (simp <;> omega) | simp) _)))); done)); rintro e ws ⟨⟨u, rfl⟩, hb_ws⟩; have hs_ws := hb_ws.size; (try simp at hs_ws)) | (go_at_call 25; (with_reducible refine (sameRuns_nil _ _ _ _ _).mono ?_); rintro e wt ⟨rfl, hb_wt⟩; have hs_wt := hb_wt.size; (try simp at hs_wt)))
    go_ret
    exact ⟨rfl, (by repeat (first | assumption | exact Below.refl _ _ | (refine below_chain ?_ (by assumption) (by first | omega | (simp <;> omega) | simp)) | (refine Below.alloc ?_ (by first | omega | (simp <;> omega) | simp) _) | (apply below_drewN) | (apply below_drew) | (refine Below.setCell ?_ (by first | omega | (simp <;> omega) | simp) _)))⟩

theorem walk_long (len cap : Nat) (p : Option Addr) (len1 cap1 : Nat) (p1 : Option Addr) (w : World) (hl : 1048576 < len ∨ 1048576 < len1) :
    Calls Try.prog 5 #[.slice p len cap, .slice p1 len1 cap1] w fun e w' => e = .returned (.bool true) ∧ Below w.heap.size w w' := by
  by_cases h0 : (1048576 : Int) < (len : Int)
  · go_enter Try.func5, Try.ntmps5
    go_wp2
    go_ret
    exact ⟨rfl, Below.refl _ _⟩
  · have hl' : (1048576 : Int) < (len1 : Int) := by omega
    clear hl
    go_enter Try.func5, Try.ntmps5
    go_wp2
    go_ret
    exact ⟨rfl, Below.refl _ _⟩

set_option maxRecDepth 100000 in
theorem lifted (os : Os) (started : os.Started) (H : Type) (enc : TypeId × Value → H) :
    ReturnsInHanded {} Try.checked os 5 .any (Rows.fnNetBackSpec.pre6 enc Try.prog Try.f5 Rows.fnNetBackRow.domain false) (Rows.fnNetBackSpec.post enc Try.prog Try.f5 false true false false) := by
  refine returnsInHanded_of_change (C := Try.checked) own started (by kernel_rfl) Try.func5
    (ChangeSpec.witness6 (enc := enc) (C := Try.checked) false ⟨#[], #[.slice none 0 0, .slice none 0 0], []⟩ 8 (by kernel_rfl) (by kernel_rfl) (by kernel_rfl) (by kernel_rfl)) ?_
  intro W base args ds gs before hval0 hW hcnd _
  have hval : ∀ (j : Nat) t v, Try.f5.params[j]? = some t → args[j]? = some v → Value.okWide Try.prog W .any base t v := hval0
  have hW' := hW
  obtain ⟨p, q, hA0, hV, rfl, hfz, hnd⟩ := hW
  have hA : DataW.TrodAll enc Try.prog W 0 (fun _ => true) true Try.f5.params.toList args.toList ds p := hA0
  rw [Try.params5] at hA hval
  obtain ⟨v0, vs0, d0, ds0, p0, q0, hargs, rfl, rfl, h0, r0⟩ := trodAll_cons hA
  obtain ⟨v1, vs1, d1, ds1, p1, q1, rfl, rfl, rfl, h1, r1⟩ := trodAll_cons r0
  obtain ⟨rfl, rfl, rfl⟩ := trodAll_nil r1
  obtain rfl : args = #[v0, v1] := by cases args; simp_all
  obtain ⟨rfl, rfl⟩ := trodVars_none hV
  obtain ⟨a0, len0, cap0, rfl⟩ := okWide_slice Try.underlying22 (hval 0 22 v0 rfl rfl)
  have k0 := h0
  have lt0 : ∀ x ∈ p0, x.block < W.heap.size := by obtain ⟨m, hm⟩ := k0; exact DataW.trod_lt m _ _ _ hm
  obtain ⟨z0, w0⟩ : ∃ zs, IsRow .u8 W a0 len0 cap0 zs := by
    obtain ⟨fuel, hf⟩ := h0
    rcases open_ints Try.underlying22 Try.underlying5 (by kernel_rfl) hf with ⟨hcs, _⟩ | ⟨x, l, c, zs, hcs, _, hl, hm, hz, _, hcell, hwz⟩
    · simp [Value.cells] at hcs
      obtain ⟨rfl, rfl, rfl⟩ := hcs
      exact ⟨[], .inl ⟨rfl, rfl, rfl, rfl⟩⟩
    · simp [Value.cells] at hcs
      obtain ⟨rfl, rfl, rfl⟩ := hcs
      exact ⟨zs, .inr ⟨_, rfl, hl, hm, by simpa using hz, hcell, hwz⟩⟩
  obtain ⟨a1, len1, cap1, rfl⟩ := okWide_slice Try.underlying22 (hval 1 22 v1 rfl rfl)
  have k1 := h1
  have lt1 : ∀ x ∈ p1, x.block < W.heap.size := by obtain ⟨m, hm⟩ := k1; exact DataW.trod_lt m _ _ _ hm
  obtain ⟨z1, w1⟩ : ∃ zs, IsRow .u8 W a1 len1 cap1 zs := by
    obtain ⟨fuel, hf⟩ := h1
    rcases open_ints Try.underlying22 Try.underlying5 (by kernel_rfl) hf with ⟨hcs, _⟩ | ⟨x, l, c, zs, hcs, _, hl, hm, hz, _, hcell, hwz⟩
    · simp [Value.cells] at hcs
      obtain ⟨rfl, rfl, rfl⟩ := hcs
      exact ⟨[], .inl ⟨rfl, rfl, rfl, rfl⟩⟩
    · simp [Value.cells] at hcs
      obtain ⟨rfl, rfl, rfl⟩ := hcs
      exact ⟨zs, .inr ⟨_, rfl, hl, hm, by simpa using hz, hcell, hwz⟩⟩
  clear hA0 hval0
  have hw : Calls Try.prog 5 #[.slice a0 len0 cap0, .slice a1 len1 cap1] W fun e w' => e = .returned (.bool true) ∧ Below W.heap.size W w' := by
    by_cases hl : len0 ≤ 1048576
    · by_cases hm : len1 ≤ 1048576
      · exact walk len0 cap0 a0 len1 cap1 a1 W hl hm (Lib.hid (code_of_row w0 hl)) (Lib.hid (code_of_row w1 hm))
      · exact walk_long len0 cap0 a0 len1 cap1 a1 W (by omega)
    · exact walk_long len0 cap0 a0 len1 cap1 a1 W (by omega)
  refine hw.mono fun e W' ⟨he, bel⟩ => ?_
  subst he
  exact ⟨_, rfl, _, _, _, [], _, [], hW', trodAll_mk1 (shut_bool Try.underlying4 _), (trodAll_cons_mk (Below.trod laidOut (by kernel_rfl) (of_decide_eq_true (by kernel_rfl)) k0 bel lt0) (trodAll_cons_mk (Below.trod laidOut (by kernel_rfl) (of_decide_eq_true (by kernel_rfl)) k1 bel lt1) trodAll_mk0)), rfl, bel.frame _, fun h => by cases h⟩

theorem over : Rows.fnNetBackRow.holds Try.pinned (OpenSpec.ofChange Rows.fnNetBackSpec) :=
  OpenClaim.holds_of_wide 5 Try.f5 rfl rfl rfl rfl rfl rfl rfl ⟨rfl, rfl, rfl, rfl, rfl⟩ rfl rfl rfl rfl rfl (by kernel_rfl) Try.func5 (by kernel_rfl)
    (of_decide_eq_true (by kernel_rfl)) (by unfold Func.isWrapper; first | (rw [if_pos (by decide +kernel)]; kernel_rfl) | (rw [if_neg (by decide +kernel)]; exact ⟨rfl, rfl⟩))
    (fun os started H enc _ => lifted os started H enc)

theorem proved : Rows.FnNetBackSaid := over
end Go.Proofs.Ytfkpjphafdknaaa.fnNetBack

