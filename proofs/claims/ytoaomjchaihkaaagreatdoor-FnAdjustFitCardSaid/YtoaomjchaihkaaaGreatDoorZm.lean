/-
  The program's NetSource.
  The program's lists of runs laid one behind the other (slices.Grow, slices.Concat), and NetWithout.
  The program's NetWithout.
-/
import Derived.Test.YtoaomjchaihkaaaGreatDoorZl
import Derived.Test.YtoaomjchaihkaaaGreatDoorZk
import Derived.Lib.AppendZeros
namespace Go.Proofs.YtoaomjchaihkaaaGreatDoor
open Go.RowKit
set_option linter.unusedVariables false

set_option maxHeartbeats 4000000 in
set_option maxRecDepth 100000 in
theorem iSourceN (n : Nat) (p : Option Addr) (c m : Nat) (rs : List Rn) (w : World) (h : Runs w p rs) (hn : nOk ((n : Nat) : Int) rs = true) (hm : rs.length = m) :
    Calls Tryz.prog 31 #[.int .i64 n, .slice p m c] w fun e w' => ∃ g, e = .returned (.tuple #[.slice (some ⟨g, 1, none⟩) (n - 1) (n - 1), .bool true]) ∧ w.heap.size ≤ g ∧ Own w' g 3 1 n n (rgL n (srcs rs)) ∧ Below w.heap.size w w' := by
  have hN := nOk_true hn
  have hl12 : m ≤ 12 := by rw [← hm]; exact hN.2.2.1
  have hn2 : 2 ≤ n := by have := hN.1; omega
  have hn6 : n ≤ 6 := by have := hN.2.1; omega
  have c1 := fun w h => Lib.hid (iValid n p c rs true w h (by omega) hn)
  rw [hm] at c1
  have hmk := fun w => made_ints w n (by omega)
  have H := Lib.hid (And.intro h (And.intro hn hm))
  have H0 := fun (w : World) => Lib.hid (show Own (w.alloc (.cells (madeCells (Array.replicate 1 (.int .i64 0)) (n * 1)) 3)) w.heap.size 3 1 n n (rgL n (srcs (rs.take 0))) from by
    have ho := Own.made w 3 n 1 (by decide) (by unfold maxLen; omega)
    have e : rgL n (srcs (rs.take 0)) = List.replicate (n * 1) 0 := by
      refine List.ext_getElem? (fun j => ?_)
      rw [Nat.mul_one]
      by_cases hj : j < n
      · rw [rgL_at _ hj, List.getElem?_replicate, if_pos hj]; rfl
      · rw [List.getElem?_eq_none (by rw [rgL_len]; omega), List.getElem?_replicate, if_neg hj]
    rw [e]; exact ho)
  clear h hn hm hN
  go_enter Tryz.func31, Tryz.ntmps31
  go_wp2_with ((go_at_call 52; (with_reducible refine ((c1 _ ?_).out).mono ?_); (focus ((exact H.out.1); done)); rintro e wv ⟨rfl, hb_wv⟩; have hs_wv := hb_wv.size; (try simp at hs_wv)))
  clear hmk c1
  go_loopw [17] (fun i wr => ∃ k : Nat, k ≤ m ∧ i = .int .i64 k ∧ Own wr wv.heap.size 3 1 n n (rgL n (srcs (rs.take k))) ∧ Below w.heap.size w wr) (fun i _ => m - (intOf i).toNat)
  case atStart => exact ⟨0, Nat.zero_le _, rfl, by simpa using (H0 wv).out, hb_wv.alloc hs_wv _⟩
  case round =>
    clear H0
    rename World => wr
    obtain ⟨k, hk, rfl, ho, hb⟩ := hrel
    have hlo := ho.lt
    have hbs := hb.size
    by_cases hlt : k < m
    · have hlt' : (k : Int) < (m : Int) := by omega
      obtain ⟨B, o, r, rfl, hr, hB, e1, e2, e3, e4⟩ := (H.out.1.below hb).at (i := k) (by rw [H.out.2.2]; exact hlt)
      have hro := rOk_true ((nOk_true H.out.2.1).2.2.2 k r hr)
      obtain ⟨F, hF⟩ : ∃ F : Nat, r.f = F := ⟨r.f.toNat, by omega⟩
      obtain ⟨T, hT⟩ : ∃ T : Nat, r.t = T := ⟨r.t.toNat, by omega⟩
      have HX := Lib.hid (And.intro ho (And.intro hb (And.intro hr (And.intro hF hT))))
      rw [hF] at e1
      rw [hT] at e2
      have hFT : ¬ F = T := by intro e; subst e; exact hro.2.2.2.2.1 (by omega)
      have hFn : F < n := by omega
      have hTn : T < n := by omega
      have hFn' : (F : Int) < (n : Int) := by omega
      have hTn' : (T : Int) < (n : Int) := by omega
      have cT := ho.cells (rgL_at (srcs (rs.take k)) hTn)
      have cF := ho.cells (rgL_at (srcs (rs.take k)) hFn)
      have fT := ho.frozen T
      have fF := ho.frozen F
      clear ho hb hr hF hT
      have bT := srcs_low (rs := rs.take k) (fun x hx => ok_runs H.out.2.1 x (List.mem_of_mem_take hx)) (by rw [List.length_take, H.out.2.2]; omega) T
      have bF := srcs_low (rs := rs.take k) (fun x hx => ok_runs H.out.2.1 x (List.mem_of_mem_take hx)) (by rw [List.length_take, H.out.2.2]; omega) F
      obtain ⟨yT, hyT⟩ : ∃ y, srcs (rs.take k) T = y := ⟨_, rfl⟩
      obtain ⟨yF, hyF⟩ : ∃ y, srcs (rs.take k) F = y := ⟨_, rfl⟩
      rw [hyT] at cT bT
      rw [hyF] at cF bF
      have bP := abs_mul (a := r.g) (b := r.s) (x := 9) (y := 100000) (by omega) (by omega)
      obtain ⟨P, hP⟩ : ∃ P, r.g * r.s = P := ⟨_, rfl⟩
      rw [hP] at bP
      obtain ⟨P1, P2⟩ := bP
      obtain ⟨T1, T2⟩ := bT
      obtain ⟨F1, F2⟩ := bF
      have q1 : IntKind.i64.wrap (r.g * r.s) = P := by rw [hP, IntKind.wrap_i64]; omega
      have q2 : IntKind.i64.wrap (yT + P) = yT + P := by rw [IntKind.wrap_i64]; omega
      have q3 : IntKind.i64.wrap (yF - P) = yF - P := by rw [IntKind.wrap_i64]; omega
      have HP := Lib.hid (And.intro hP (And.intro hyT hyF))
      clear hP hyT hyF
      go_upto_region 7 with fail
      go_region
      go_upto_region 8 with fail
      go_region
      go_wp2_with fail
      have h1 := (HX.out.1.set T (yT + P) (by rw [rgL_len]; exact hTn)).set F (yF - P) (by rw [List.length_set, rgL_len]; exact hFn)
      have hL : ((rgL n (srcs (rs.take k))).set T (yT + P)).set F (yF - P) = rgL n (srcs (rs.take (k + 1))) := by
        rw [rgL_set, rgL_set]
        refine rgL_congr (fun j hj => ?_)
        rw [srcs_step HX.out.2.2.1, HP.out.1]
        unfold inc
        rw [HX.out.2.2.2.1, HX.out.2.2.2.2]
        by_cases a : j = F
        · subst a
          rw [if_pos rfl, if_neg (by omega), if_pos rfl, HP.out.2.2]; omega
        · rw [if_neg a]
          by_cases b : j = T
          · subst b
            rw [if_pos rfl, if_pos rfl, if_neg (by omega), HP.out.2.1]; omega
          · rw [if_neg b, if_neg (by omega), if_neg (by omega)]; simp
      rw [hL] at h1
      have hGv : wv.heap.size < wr.heap.size := hlo
      exact ⟨⟨k + 1, by omega, by go_num, h1.alloc _, below_drew (below_drew (((HX.out.2.1.setCell (p := ⟨wv.heap.size, T, none⟩) hs_wv _).setCell (p := ⟨wv.heap.size, F, none⟩) hs_wv _).alloc (by simp; omega) _))⟩, by simp [intOf]; omega⟩
    · have e : k = m := by omega
      subst e
      rw [List.take_of_length_le (by rw [H.out.2.2]; exact Nat.le_refl _)] at ho
      have HX := Lib.hid (And.intro ho hb)
      clear ho hb
      go_wp2_with fail
      refine bodyPost_ret (v := .tuple #[.slice (some ⟨wv.heap.size, 1, none⟩) (n - 1) (n - 1), .bool true]) (by simp [results, Tryz.results31, go_sem]) rfl ⟨wv.heap.size, rfl, hs_wv, HX.out.1, HX.out.2⟩
/-- a block of numbers of which the first one is not in the answer -/
def OwnT (w : World) (g : Nat) (zs : List Int) : Prop := ∃ N z0, Own w g 3 1 N N (z0 :: zs)
theorem OwnT.below {w w' : World} {g : Nat} {zs : List Int} (h : OwnT w g zs) (hb : Below w.heap.size w w') : OwnT w' g zs := by
  obtain ⟨N, z0, h⟩ := h; exact ⟨N, z0, h.below hb⟩
theorem OwnT.lt {w : World} {g : Nat} {zs : List Int} (h : OwnT w g zs) : g < w.heap.size := by
  obtain ⟨N, z0, h⟩ := h; exact h.lt
theorem OwnT.cells {w : World} {g : Nat} {zs : List Int} (h : OwnT w g zs) {i : Nat} {z : Int} (hi : zs[i]? = some z) : w.cell? ⟨g, 1 + i, none⟩ = some (.int .i64 z) := by
  obtain ⟨N, z0, h⟩ := h
  rw [Nat.add_comm 1 i]
  exact h.cells (i := i + 1) (by simpa using hi)
theorem OwnT.ints {w : World} {g : Nat} {zs : List Int} (h : OwnT w g zs) : Ints w (some ⟨g, 1, none⟩) zs :=
  .inr ⟨g, 1, rfl, h.lt, fun i z hi => h.cells hi⟩
theorem rgL_cons (n : Nat) (f : Nat → Int) : rgL (n + 1) f = f 0 :: rgL n (fun i => f (i + 1)) := by
  unfold rgL; rw [List.range_succ_eq_map, List.map_cons, List.map_map]; rfl
theorem iSource_yes (N n : Nat) (p : Option Addr) (c m : Nat) (rs : List Rn) (w : World) (h : Runs w p rs) (hn : nOk (N : Int) rs = true) (hm : rs.length = m) (hNn : N = n + 1) :
    Calls Tryz.prog 31 #[.int .i64 N, .slice p m c] w fun e w' => ∃ g cap, e = .returned (.tuple #[.slice (some ⟨g, 1, none⟩) n cap, .bool true]) ∧ w.heap.size ≤ g ∧ OwnT w' g (rgL n (fun i => srcs rs (i + 1))) ∧ Below w.heap.size w w' := by
  refine (iSourceN N p c m rs w h hn hm).mono ?_
  rintro e w' ⟨g, he, hg, ho, hb⟩
  subst hNn
  rw [Nat.add_sub_cancel] at he
  rw [rgL_cons] at ho
  exact ⟨g, n, he, hg, ⟨_, _, ho⟩, hb⟩
theorem iSource_no (n : Int) (p : Option Addr) (c m : Nat) (rs : List Rn) (w : World) (h : Runs w p rs) (hm : rs.length = m) (hl : m ≤ 4000000000000000000) (hn : nOk n rs = false) :
    Calls Tryz.prog 31 #[.int .i64 n, .slice p m c] w fun e w' => (∃ q d, e = .returned (.tuple #[.slice q 0 d, .bool false])) ∧ Below w.heap.size w w' := by
  have c1 := fun w h => Lib.hid (by have := iValid n p c rs false w h (by omega) hn; rw [hm] at this; exact this)
  have H := Lib.hid h
  clear h hm hn
  go_enter Tryz.func31, Tryz.ntmps31
  go_wp2_with ((go_at_call 52; (with_reducible refine ((c1 _ ?_).out).mono ?_); (focus ((exact H.out); done)); rintro e wa ⟨rfl, hb_wa⟩; have hs_wa := hb_wa.size; (try simp at hs_wa)))
  refine bodyPost_ret (v := .tuple #[.slice none 0 0, .bool false]) (by simp [results, Tryz.results31, go_sem]) rfl ⟨⟨_, _, rfl⟩, (by repeat (first | assumption | exact Below.refl _ _ | (refine below_chain ?_ (by assumption) (by first | omega | (simp <;> omega) | simp)) | (refine Below.alloc ?_ (by first | omega | (simp <;> omega) | simp) _) | (apply below_drewN) | (apply below_drew) | (refine Below.setCell ?_ (by first | omega | (simp <;> omega) | simp) _)))⟩
end Go.Proofs.YtoaomjchaihkaaaGreatDoor
namespace Go.Proofs.YtoaomjchaihkaaaGreatDoor
open Go.RowKit
set_option linter.unusedVariables false

/-- nothing appended to nil -/
theorem wp_append_nil0 {P : Program} (w : World) {ops : Array Oper} {rest : List Oper} {o : Oper} {a : Act} {Q : Exit → Act → World → Prop} (hgd : o.guard = none) (s x : Operand) (t : TypeId)
    (ho : o.op = .call { callee := .builtin .append, args := #[s, x], argTypes := #[t, t] })
    (e : TypeId) (z : Value) (sz bytes : Nat) (ht : P.underlying t = some (.slice e)) (hinfo : (P.info? e).map (fun i => (i.zero, i.size, i.bytes)) = some (some z, sz, bytes)) (hzs : z.cells.size = sz) (hsz : 0 < sz)
    (hs : a.eval s = .slice none 0 0) (ad : Addr) (c : Nat) (hx : a.eval x = .slice (some ad) 0 c)
    (h : ∀ w', Below w.heap.size w w' → wpList P ops Q rest (a.put o.dst (.slice none 0 0)) w') :
    wpList P ops Q (o :: rest) a w := by
  obtain ⟨i, hi, hzz⟩ := Option.map_eq_some_iff.1 hinfo
  simp only [Prod.mk.injEq] at hzz
  obtain ⟨hz, hs', hb⟩ := hzz
  refine wpList_append_own_at w hgd s x t ho 0 e i z sz bytes ht hi hz hs' hb hzs hsz _ 0 [] hs (World.ownsRow_nil _ _ _ _) ad 0 c [] hx (by simp) (fun j u hu => by simp at hu) (fun u hu => by simp at hu) (by unfold maxLen; omega) (by omega) (Nat.zero_le _) ?_
  intro v' w' hown' hg hnil hloc
  obtain rfl := hnil.2 ⟨rfl, rfl⟩
  exact h w' ⟨hg.os, hg.tape, hg.output, hg.size, fun k hk => hg.block k hk (by simp [Value.ownBlock])⟩
/-- numbers of zeros appended to nil -/
theorem wp_append_zeros {P : Program} (w : World) {ops : Array Oper} {rest : List Oper} {o : Oper} {a : Act} {Q : Exit → Act → World → Prop} (hgd : o.guard = none) (s x : Operand) (t tn : TypeId)
    (ho : o.op = .call { callee := .builtin .append, args := #[s, x], argTypes := #[t, tn] })
    (e : TypeId) (z : Value) (sz bytes : Nat) (ht : P.underlying t = some (.slice e)) (htn : P.underlying tn = some (.int .i64)) (hinfo : (P.info? e).map (fun i => (i.zero, i.size, i.bytes)) = some (some z, sz, bytes)) (hzs : z.cells.size = sz) (hsz : 0 < sz) (hby : bytes ≤ 32)
    (hs : a.eval s = .slice none 0 0) (n : Nat) (hn : 0 < n) (hn4 : n ≤ 4194304) (hx : a.eval x = .int .i64 n)
    (h : ∀ cap' w', n ≤ cap' → Own w' w.heap.size e sz 0 cap' [] → Below w.heap.size w w' → wpList P ops Q rest (a.put o.dst (.slice (some ⟨w.heap.size, 0, none⟩) n cap')) w') :
    wpList P ops Q (o :: rest) a w := by
  obtain ⟨i, hi, hzz⟩ := Option.map_eq_some_iff.1 hinfo
  simp only [Prod.mk.injEq] at hzz
  obtain ⟨hz, hs', hb⟩ := hzz
  have hbn : n * bytes ≤ 4194304 * 32 := Nat.mul_le_mul hn4 hby
  refine Lib.wpList_append_run w hgd s x t tn ho _ _ hs hx _ _ (Lib.run_append_nil_zeros (P := P) w t tn o.type e i z .i64 .i64 ht htn hi hz n hn (by omega) (by omega) (by rw [hb]; omega)) ?_
  have hcap := grownCap_ge w n 0 e
  refine h _ _ hcap ?_ ((below_drew (Below.refl _ _)).alloc (Nat.le_refl _) _)
  refine .of (cur := Builtin.zeroCells z.cells n ++ Builtin.zeroCells z.cells (grownCap w n 0 e - n)) ?_ (Nat.zero_le _) (grownCap_le_maxLen w n 0 e (by unfold maxLen; omega)) ?_ (by simp [ivs]) (by simp)
  · have := Deep.blk_alloc_new w.drew (.cells (Builtin.zeroCells z.cells n ++ Builtin.zeroCells z.cells (grownCap w n 0 e - n)) e)
    exact this
  · rw [Array.size_append, size_zeroCells, size_zeroCells, hzs, ← Nat.add_mul]
    congr 1; omega

theorem cell_below_any {w w' : World} {a : Addr} {v : Value} (h : Below w.heap.size w w') (hc : w.cell? a = some v) : w'.cell? a = some v := (World.cell?_of_block (h.block _ (World.block_lt_of_cell? w a hc))).trans hc
/-- what is laid out after each of two lists -/
def prt (xs ys : List Rn) (j : Nat) : List Rn := if j = 0 then [] else if j = 1 then xs else xs ++ ys
end Go.Proofs.YtoaomjchaihkaaaGreatDoor
namespace Go.Proofs.YtoaomjchaihkaaaGreatDoor
open Go.RowKit
set_option linter.unusedVariables false

/-- a new list of runs, or none at all where it is empty -/
def NewV (w : World) (rs : List Rn) (v : Value) (w' : World) : Prop := (rs = [] ∧ v = .slice none 0 0 ∧ Below w.heap.size w w') ∨ (rs ≠ [] ∧ NewRuns w rs v w')
/-- .. as a list to be read -/
def NewP (w : World) (q : Nat) (rs : List Rn) (v : Value) (w' : World) : Prop := ∃ p cap, v = .slice p q cap ∧ Runs w' p rs ∧ Below w.heap.size w w'
theorem NewV.p {w w' : World} {rs : List Rn} {v : Value} {q : Nat} (h : NewV w rs v w') (hq : rs.length = q) : NewP w q rs v w' := by
  rcases h with ⟨rfl, rfl, hb⟩ | ⟨_, g, cap, rfl, hg, ho, hb⟩
  · exact ⟨none, 0, by rw [← hq]; rfl, .inl rfl, hb⟩
  · exact ⟨some ⟨g, 0, none⟩, cap, by rw [hq], ho.runs, hb⟩
theorem NewV.from {w W w' : World} {rs : List Rn} {v : Value} (h : NewV W rs v w') (hb : Below w.heap.size w W) : NewV w rs v w' := by
  have hs := hb.size
  rcases h with ⟨h1, h2, h3⟩ | ⟨h1, g, cap, h2, hg, ho, h3⟩
  · exact .inl ⟨h1, h2, hb.trans (h3.mono hs)⟩
  · exact .inr ⟨h1, g, cap, h2, Nat.le_trans hs hg, ho, hb.trans (h3.mono hs)⟩
theorem NewV.ne {w w' : World} {rs : List Rn} {v : Value} (h : NewV w rs v w') (hne : rs ≠ []) : NewRuns w rs v w' := by
  rcases h with ⟨h, _⟩ | ⟨_, h⟩
  · exact absurd h hne
  · exact h
theorem NewV.nil {w w' : World} {rs : List Rn} {v : Value} (h : NewV w rs v w') (he : rs = []) : v = .slice none 0 0 ∧ Below w.heap.size w w' := by
  rcases h with ⟨_, h⟩ | ⟨h, _⟩
  · exact h
  · exact absurd he h
/-- new runs, their number apart -/
def NewQ (w : World) (q : Nat) (rs : List Rn) (v : Value) (w' : World) : Prop :=
  ∃ g cap, v = .slice (some ⟨g, 0, none⟩) q cap ∧ w.heap.size ≤ g ∧ Own w' g 42 4 q cap (flat rs) ∧ Below w.heap.size w w'
theorem NewRuns.q {w w' : World} {rs : List Rn} {v : Value} {q : Nat} (h : NewRuns w rs v w') (hq : rs.length = q) : NewQ w q rs v w' := by subst hq; exact h
end Go.Proofs.YtoaomjchaihkaaaGreatDoor
