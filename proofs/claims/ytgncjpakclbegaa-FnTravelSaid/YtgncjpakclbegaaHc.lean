/-
  The program's traverses: a list of steps made into one, from the last step to the first.
-/
import Derived.Test.YtgncjpakclbegaaHb
set_option linter.unusedSimpArgs false
set_option linter.unusedVariables false
namespace Go.Proofs.Ytgncjpakclbegaa
open Go.RowKit Go.Shelf Poly
set_option linter.unusedVariables false
attribute [local go_sem] Oper.semAt_some

theorem iBackward (p : Option Addr) (n c : Nat) (w : World) :
    Calls Try.prog 115 #[.slice p n c] w fun e w' => e = .returned (.func (.func 133) #[] #[.pointer (some ⟨w.heap.size, 0, none⟩)]) ∧ w' = w.alloc (.cells #[.slice p n c] 23) := by
  go_enter Try.func115, Try.ntmps115
  go_wp2_with fail
  go_ret
  exact ⟨rfl, rfl⟩
/-- the indexes from the last one down to k -/
def dn (n k : Nat) : List Nat := (List.range (n - k)).map (fun t => n - 1 - t)
theorem dn_top (n : Nat) : dn n n = [] := by simp [dn]
theorem dn_len (n k : Nat) : (dn n k).length = n - k := by simp [dn]
theorem dn_next {n k : Nat} (h : k < n) : dn n (k + 1) ++ [k] = dn n k := by
  unfold dn
  rw [show n - k = (n - (k + 1)) + 1 by omega, List.range_succ, List.map_append]
  congr 1
  simp; omega
theorem dn_list {L : List P2} : ∀ j k : Nat, k + j = L.length → (dn L.length k).reverse.map (cy L) = L.drop k
  | 0, k, h => by rw [show k = L.length by omega, dn_top]; simp
  | j + 1, k, h => by
    rw [← dn_next (show k < L.length by omega), List.reverse_append, List.map_append, dn_list j (k + 1) (by omega)]
    simp only [List.reverse_cons, List.reverse_nil, List.nil_append, List.map_cons, List.map_nil, List.cons_append]
    rw [List.drop_eq_getElem_cons (show k < L.length by omega)]
    congr 1
    have := cy_lt (show k < L.length by omega)
    rw [List.getElem?_eq_getElem (by omega)] at this
    injection this with this
    exact this.symm
theorem Ints.belowN {W W' : World} {B o n₀ : Nat} {xs : List Int} (h : Ints W (some ⟨B, o, none⟩) xs) (hB : B < n₀) (hb : Below n₀ W W') : Ints W' (some ⟨B, o, none⟩) xs :=
  h.keep (fun B' o' e => by cases e; exact hb.block _ hB) hb.size
def ePt (L : List P2) (x : Nat) : Array Value := #[.int .i64 (x : Int), .agg #[.int .i64 (cy L x).1, .int .i64 (cy L x).2]]
set_option maxRecDepth 100000 in
set_option maxHeartbeats 2000000 in
theorem back_in (n : Nat) (hn : 1 ≤ n) (l Bn n₀ B o m c : Nat) (L : List P2) (hm : L.length = m) (hm12 : m ≤ 1000) (hB : B < n₀) (J Jx : List Nat → World → Prop)
    (hY : ∀ pre x W, J pre W → pre.length < m → YieldAt Fence.wide (n - 1) Try.prog l (ePt L x) W fun e W' =>
      (e = .returned (.bool true) ∧ J (pre ++ [x]) W' ∧ Kp2 n₀ Bn W W') ∨ (e = .returned (.bool false) ∧ Jx (pre ++ [x]) W'))
    (W : World) (hBn : W.cell? ⟨Bn, 0, none⟩ = some (.slice (some ⟨B, o, none⟩) m c)) (hI : Ints W (some ⟨B, o, none⟩) (Poly.fl L)) (h0 : J [] W) :
    CallsIn Fence.wide n Try.prog 133 #[.func (.yield l) #[] #[], .pointer (some ⟨Bn, 0, none⟩)] W fun e W' => (∃ v, e = .returned v) ∧
      ((∃ ys, ys = dn m 0 ∧ J ys W') ∨ (∃ pre, (∃ k, pre = dn m k) ∧ Jx pre W')) := by
  have HY := Lib.hid hY
  have HL := Lib.hid (And.intro hm (And.intro hB hI))
  clear hY hm hB hI
  have hm1 : -1 ≤ (m : Int) - 1 := by omega
  refine callsIn_of_wp Try.func133 rfl trivial ?_ rfl
  simp only [Try.ntmps133, List.size_toArray, List.length_cons, List.length_nil, Nat.reduceAdd, Nat.reduceSub, Array.replicate_succ, Array.replicate_zero, List.push_toArray, List.append_toArray, List.nil_append, List.cons_append]
  gi_wp2
  gi_loopw [3] (fun i wr => ∃ k : Nat, k ≤ m ∧ i = .int .i64 ((k : Int) - 1) ∧ wr.cell? ⟨Bn, 0, none⟩ = some (.slice (some ⟨B, o, none⟩) m c) ∧ Below n₀ W wr ∧ J (dn m k) wr) (fun i wr => (intOf i + 1).toNat)
  case atStart => exact ⟨m, Nat.le_refl _, rfl, hBn, Below.refl _ _, by rw [dn_top]; exact h0⟩
  case round =>
    clear hBn h0
    obtain ⟨k, hk, rfl, hB, hb, hJ⟩ := hrel
    by_cases hk0 : k = 0
    · subst hk0
      have HJ := Lib.hid hJ
      clear hJ hb hB
      gi_wp2
      go_end0
      exact ⟨⟨_, rfl⟩, .inl ⟨_, rfl, HJ.out⟩⟩
    · obtain ⟨j, rfl⟩ : ∃ j, k = j + 1 := ⟨k - 1, by omega⟩
      have hj : j < L.length := by rw [HL.out.1]; omega
      obtain ⟨B', o', e', hBl, x0, x1⟩ := (HL.out.2.2.belowN HL.out.2.1 hb).pt hj
      simp at e'
      obtain ⟨rfl, rfl⟩ := e'
      obtain ⟨fn, tmps, assign, body, hy, hround⟩ := HY.out (dn m (j + 1)) j wr hJ (by rw [dn_len]; omega)
      have hji : ((j + 1 : Nat) : Int) - 1 = (j : Int) := by omega
      have hjm : (j : Int) < (m : Int) := by omega
      have hj0 : (0 : Int) ≤ (j : Int) := by omega
      rw [hji]
      clear hji hk0
      have HB := Lib.hid (And.intro hB hb)
      have hdn : dn m (j + 1) ++ [j] = dn m j := dn_next (by omega)
      rw [hdn] at hround
      have hy' : Sem.run Try.prog (Instr.yield l #[.int .i64 (j : Int), .agg #[.int .i64 (cy L j).1, .int .i64 (cy L j).2]]) wr = Result.ok (Next.round l fn tmps assign body) wr := hy
      clear hy hb
      gi_wp2
      refine hround.mono ?_
      rintro e W3 (⟨rfl, hJ3, hk3⟩ | ⟨rfl, hJx3⟩)
      · have H3 := Lib.hid (And.intro hJ3 hk3)
        clear hJ3 hk3 x0 x1 hB hround hy' hJ
        gi_wp2
        go_roundw
        case rel => exact ⟨j, by omega, rfl, (World.cell?_of_block H3.out.2.2).trans HB.out.1, HB.out.2.trans H3.out.2.1, H3.out.1⟩
        case measure => simp [intOf]
      · have H3 := Lib.hid hJx3
        clear hJx3 x0 x1 hB hround hy' hJ
        gi_wp2
        exact bodyPost_ret (v := .tuple #[]) (by simp [results, Try.results133, go_sem]) rfl ⟨⟨_, rfl⟩, .inr ⟨_, ⟨j, rfl⟩, H3.out⟩⟩
theorem back_stops (n : Nat) (hn : 1 ≤ n) (Bn n₀ B o m c : Nat) (L : List P2) (hm : L.length = m) (hm12 : m ≤ 1000) (hB : B < n₀) (w : World) (hBw : Bn < w.heap.size) (hn0 : n₀ ≤ w.heap.size) (hc : w.cell? ⟨Bn, 0, none⟩ = some (.slice (some ⟨B, o, none⟩) m c)) (hI : Ints w (some ⟨B, o, none⟩) (Poly.fl L)) :
    SeqStopsK Fence.wide n Try.prog 133 #[.pointer (some ⟨Bn, 0, none⟩)] (ePt L) (Kp2 n₀ Bn) (fun ys => ys = dn m 0) (fun pre => ∃ k, pre = dn m k) m w := fun l J Jx W hW hJ hJx hY h0 =>
  back_in n hn l Bn n₀ B o m c L hm hm12 hB J Jx hY W ((hW.cell (p := ⟨Bn, 0, none⟩) hBw).trans hc) (hI.belowN hB (hW.mono hn0)) h0
section
variable {P : Program} {n : Nat}
/-- a loop over a list's points, counted down, whose variable gets a block of its own in each round -/
theorem wpIn_rangeFunc_pts {g : Operand} {p q : Tmp} {assign body : Code} {Q : Exit → Act → World → Prop} {a : Act} {w : World}
    (h1 : 1 ≤ n) {gf : Nat} {lb : Array Value} (hg : a.eval g = .func (.func gf) #[] lb) (eg : ∀ args w, (callFunc gf args).run P w = .ok (.enter gf args) w)
    {L : List P2} {T : TypeId} {Kp : World → World → Prop} {S Sp : List Nat → Prop} {N : Nat} {w0 : World} (hseq : SeqStopsK Fence.wide (n - 1) P gf lb (ePt L) Kp S Sp N w0)
    (hKt : ∀ {A B C : World}, Kp A B → Kp B C → Kp A C) (hKb : ∀ (W : World) (l : Nat) (o o' : Obj), w.heap.size ≤ l → W.heap[l]? = some o → o.isCells = false → o.isWalk = false → Kp W (W.putObj l o'))
    (hKa : ∀ (W : World) (o : Obj), w.heap.size ≤ W.heap.size → Kp W (W.alloc o)) (hb0 : Below w0.heap.size w0 w)
    (I : List Nat → World → Prop) (Ix : Code → List Nat → World → Prop) (hI : OwnFrom w.heap.size I) (hIx : ∀ c, OwnFrom w.heap.size (Ix c)) (h0 : I [] w) (a₁ : Nat → Nat → Act)
    (hassign : ∀ (l x : Nat) (W : World) (K : Act → World → Prop), K (a₁ x W.heap.size) (W.alloc (.cells #[.int .i64 (cy L x).1, .int .i64 (cy L x).2] T)) →
      assign.wpIn (Fence.wide.inRound l) (n - 1 - 1) P (Exit.then K (fun _ _ _ => False)) { tmps := (a.tmps.setIfInBounds p (.int .i64 (x : Int))).setIfInBounds q (.agg #[.int .i64 (cy L x).1, .int .i64 (cy L x).2]), defers := [] } W)
    (hbody : ∀ (l : Nat) (pre : List Nat) (x b : Nat) (W : World), I pre W → pre.length < N → w.heap.size ≤ b → W.cell? ⟨b, 0, none⟩ = some (.int .i64 (cy L x).1) → W.cell? ⟨b, 1, none⟩ = some (.int .i64 (cy L x).2) →
      body.wpIn (Fence.wide.inRound l) (n - 1 - 1) P (ownPostK Kp I Ix (pre ++ [x]) W) (a₁ x b) W)
    (hdone : ∀ (D : Nat) (xs : List Nat) (W : World), w.heap.size ≤ D → S xs → I xs W → W.heap[D]? = some (.deferred (some [])) → Q .normal { a with defers := { target := .collected D, args := #[] } :: a.defers } W)
    (hstop : ∀ (D : Nat) (c : Code) (pre : List Nat) (W : World), w.heap.size ≤ D → Sp pre → Ix c pre W → W.heap[D]? = some (.deferred (some [])) → c.wpIn Fence.wide n P Q { a with defers := { target := .collected D, args := #[] } :: a.defers } W) :
    (Code.rangeFunc g #[p, q] assign body).wpIn Fence.wide n P Q a w := by
  refine wpIn_rangeFunc ?_
  intro fn hfn
  obtain ⟨rc, hrc⟩ : ∃ rc : LoopState → Option Code → Loop, rc = fun s j => { state := s, pending := j, fn, tmps := a.tmps, params := #[p, q], assign, body, defers := w.heap.size } := ⟨_, rfl⟩
  obtain ⟨V, hV⟩ : ∃ V, (w.alloc (.deferred (some []))).alloc (.loop (rc .ready none)) = V := ⟨_, rfl⟩
  have vl : V.heap[w.heap.size + 1]? = some (.loop (rc .ready none)) := by
    rw [← hV]; have := World.alloc_heap_new (w.alloc (.deferred (some []))) (.loop (rc .ready none)); rwa [World.size_alloc] at this
  have vd : V.heap[w.heap.size]? = some (.deferred (some [])) := by
    rw [← hV]; exact (Below.heap_alloc _ _ _ (by simp)).trans (World.alloc_heap_new w _)
  have vi : I [] V := by rw [← hV]; exact hI.alloc _ (hI.alloc _ h0)
  have vb : Below w0.heap.size w0 V := by rw [← hV]; exact hb0.trans ((((Below.refl _ w).alloc (Nat.le_refl _) _).alloc (by simp) _).mono hb0.size)
  have vs : V.heap.size = w.heap.size + 1 + 1 := by rw [← hV]; simp
  refine ⟨w.heap.size + 1, [{ target := .collected w.heap.size, args := #[] }], V, { target := .fn (.func gf) lb, args := #[.func (.yield (w.heap.size + 1)) #[] #[]] }, V, gf,
    #[.func (.yield (w.heap.size + 1)) #[] #[]] ++ lb, V, ?_, ?_, ?_, ?_, fun _ => h1, ?_⟩
  · rw [← hV, hrc]; exact run_enterLoop_outer _ _ _ _ _
  · simp only [resolve, hg]
    simp [go_sem]
  · intro f' hf'; trivial
  · simp [invoke, go_sem, eg]
  have far : ∀ {A B : World} {row : Option Nat}, (∀ r, row = some r → V.heap.size ≤ r ∧ ∃ o : Obj, A.heap[r]? = some o ∧ o.isWalk = true) → (∀ r, row = some r → w.heap.size ≤ r ∧ ∃ o : Obj, A.heap[r]? = some o ∧ o.isCells = false) :=
    fun hr r e => by obtain ⟨hB, o, ho, hw⟩ := hr r e; exact ⟨by omega, o, ho, Obj.not_cells_of_walk hw⟩
  refine (hseq (w.heap.size + 1)
    (fun pre W => I pre W ∧ W.heap[w.heap.size + 1]? = some (.loop (rc .ready none)) ∧ W.heap[w.heap.size]? = some (.deferred (some [])))
    (fun pre W => ∃ c, Ix c pre W ∧ W.heap[w.heap.size + 1]? = some (.loop (rc .done (some c))) ∧ W.heap[w.heap.size]? = some (.deferred (some [])))
    V vb
    (fun s A B row hs hg' hr => ⟨hI s A B row hs.1 hg' (far (B := B) hr), (grownBy_keeps hg' (fun r e => (hr r e).2) hs.2.1 rfl).trans hs.2.1, (grownBy_keeps hg' (fun r e => (hr r e).2) hs.2.2 rfl).trans hs.2.2⟩)
    (fun s A B row hs hg' hr => by
      obtain ⟨c, hc, hl, hk⟩ := hs
      exact ⟨c, hIx c s A B row hc hg' (far (B := B) hr), (grownBy_keeps hg' (fun r e => (hr r e).2) hl rfl).trans hl, (grownBy_keeps hg' (fun r e => (hr r e).2) hk rfl).trans hk⟩)
    ?_ ⟨vi, vl, vd⟩).mono ?_
  · rintro pre x W ⟨hi, hl, hk⟩ hlen
    have hlt : w.heap.size + 1 < W.heap.size := (Array.getElem?_eq_some_iff.1 hl).1
    have hy := run_yield (P := P) (args := ePt L x) hl (by rw [hrc]; rfl)
    rw [hrc] at hy
    have hz : ((#[p, q] : Array Tmp).zip (ePt L x)).foldl (fun t (p, v) => t.setIfInBounds p v) a.tmps = (a.tmps.setIfInBounds p (.int .i64 (x : Int))).setIfInBounds q (.agg #[.int .i64 (cy L x).1, .int .i64 (cy L x).2]) := by simp [ePt]
    obtain ⟨U, hU⟩ : ∃ U, W.alloc (.cells #[.int .i64 (cy L x).1, .int .i64 (cy L x).2] T) = U := ⟨_, rfl⟩
    have us : U.heap.size = W.heap.size + 1 := by rw [← hU]; simp
    have uk : ∀ k, k < W.heap.size → U.heap[k]? = W.heap[k]? := fun k h => by rw [← hU]; exact Below.heap_alloc _ _ _ h
    have ul : U.heap[w.heap.size + 1]? = some (.loop (rc .ready none)) := (uk _ hlt).trans hl
    have ud : U.heap[w.heap.size]? = some (.deferred (some [])) := (uk _ (by omega)).trans hk
    have ui : I pre U := by rw [← hU]; exact hI.alloc _ hi
    have ua : Kp W U := by rw [← hU]; exact hKa _ _ (by omega)
    have u0 : U.cell? ⟨W.heap.size, 0, none⟩ = some (.int .i64 (cy L x).1) := by rw [← hU]; simp [go_sem]
    have u1 : U.cell? ⟨W.heap.size, 1, none⟩ = some (.int .i64 (cy L x).2) := by rw [← hU]; simp [go_sem]
    refine ⟨fn, _, assign, body, hy, roundIn_of_wpIn hfn ?_⟩
    dsimp only
    rw [hz]
    refine hassign _ x W _ ?_
    rw [hU]
    refine ⟨_, run_beginRound ul (by rw [hrc]), ?_⟩
    obtain ⟨U2, hU2⟩ : ∃ U2, U.putObj (w.heap.size + 1) (.loop { rc .ready none with state := .busy }) = U2 := ⟨_, rfl⟩
    have zl : U2.heap[w.heap.size + 1]? = some (.loop { rc .ready none with state := .busy }) := by rw [← hU2]; exact World.putObj_heap_same (by omega)
    have zo : ∀ k, k ≠ w.heap.size + 1 → U2.heap[k]? = U.heap[k]? := fun k h => by rw [← hU2]; exact World.putObj_heap_other h
    have zd : U2.heap[w.heap.size]? = some (.deferred (some [])) := (zo _ (by omega)).trans ud
    have zk : Kp W U2 := hKt ua (by rw [← hU2]; exact hKb _ _ _ _ (by omega) ul rfl rfl)
    have zi : I pre U2 := by rw [← hU2]; exact hI.putObj _ ui (by omega) ul rfl
    rw [hU2]
    refine wpIn_mono (hbody _ pre x W.heap.size U2 zi hlen (by omega) ((World.cell?_of_block (a := ⟨W.heap.size, 0, none⟩) (zo _ (show W.heap.size ≠ w.heap.size + 1 by omega))).trans u0) ((World.cell?_of_block (a := ⟨W.heap.size, 1, none⟩) (zo _ (show W.heap.size ≠ w.heap.size + 1 by omega))).trans u1)) ?_
    have fin : ∀ (jump : Option Code) (W3 : World), KeepsOthers U2 W3 →
        (Instr.endRound (w.heap.size + 1) jump).run P W3 = .ok (.bool jump.isNone) (W3.putObj (w.heap.size + 1) (.loop (rc (if jump.isNone then .ready else .done) jump))) ∧
        W3.heap[w.heap.size + 1]? = some (.loop { rc .ready none with state := .busy }) ∧
        (W3.putObj (w.heap.size + 1) (.loop (rc (if jump.isNone then .ready else .done) jump))).heap[w.heap.size + 1]? = some (.loop (rc (if jump.isNone then .ready else .done) jump)) ∧
        (W3.putObj (w.heap.size + 1) (.loop (rc (if jump.isNone then .ready else .done) jump))).heap[w.heap.size]? = some (.deferred (some [])) := fun jump W3 hk3 => by
      have hl3 := hk3.same _ _ zl rfl
      have := run_endRound (P := P) jump hl3
      rw [hrc] at this ⊢
      exact ⟨this, by rw [hrc] at hl3; exact hl3, World.putObj_heap_same (Array.getElem?_eq_some_iff.1 hl3).1, (World.putObj_heap_other (by omega)).trans (hk3.same _ _ zd rfl)⟩
    rintro e a3 W3 hp
    cases e with
    | normal =>
      obtain ⟨hk3, hkp3, hi3⟩ := hp
      obtain ⟨hr, hl3, hl4, hk4⟩ := fin none W3 hk3
      exact ⟨_, _, hr, .inl ⟨rfl, ⟨hI.putObj _ hi3 (by omega) hl3 rfl, hl4, hk4⟩, hKt (hKt zk hkp3) (hKb _ _ _ _ (by omega) hl3 rfl rfl)⟩⟩
    | ret =>
      obtain ⟨hk3, hi3⟩ := hp
      obtain ⟨hr, hl3, hl4, hk4⟩ := fin (some .ret) W3 hk3
      exact ⟨_, _, hr, .inr ⟨rfl, .ret, (hIx _).putObj _ hi3 (by omega) hl3 rfl, hl4, hk4⟩⟩
    | exit id =>
      obtain ⟨hk3, hi3⟩ := hp
      obtain ⟨hr, hl3, hl4, hk4⟩ := fin (some (.exit id)) W3 hk3
      exact ⟨_, _, hr, .inr ⟨rfl, .exit id, (hIx _).putObj _ hi3 (by omega) hl3 rfl, hl4, hk4⟩⟩
    | goto t =>
      obtain ⟨hk3, hi3⟩ := hp
      obtain ⟨hr, hl3, hl4, hk4⟩ := fin (some (.goto t)) W3 hk3
      exact ⟨_, _, hr, .inr ⟨rfl, .goto t, (hIx _).putObj _ hi3 (by omega) hl3 rfl, hl4, hk4⟩⟩
    | panic ch => exact hp.elim
    | outgrown => exact hp.elim
  · rintro e W2 ⟨⟨v, rfl⟩, (⟨xs, hS, hi, hl, hk⟩ | ⟨pre, hSp, c, hi, hl, hk⟩)⟩
    · exact ⟨none, _, by have := run_endLoop (P := P) hl (by rw [hrc]; simp); rw [hrc] at this; exact this, hdone _ xs _ (Nat.le_refl _) hS (hI.putObj _ hi (by omega) hl rfl) ((World.putObj_heap_other (by omega)).trans hk)⟩
    · exact ⟨some c, _, by have := run_endLoop (P := P) hl (by rw [hrc]; simp); rw [hrc] at this; exact this, hstop _ c pre _ (Nat.le_refl _) hSp ((hIx c).putObj _ hi (by omega) hl rfl) ((World.putObj_heap_other (by omega)).trans hk)⟩
end
theorem Trv.keep2 {m : Nat} {w w' : World} : ∀ {L : List P2} {t : Value}, Trv m w t L → (∀ b o v, m ≤ b → w.cell? ⟨b, o, none⟩ = some v → w'.cell? ⟨b, o, none⟩ = some v) → Trv m w' t L
  | [], t, h, _ => h
  | s :: l, t, h, hk => by
    obtain ⟨b, c, t', hb, hc, e, c0, c1, b0, h'⟩ := h
    exact ⟨b, c, t', hb, hc, e, hk _ _ _ hc c0, hk _ _ _ hc c1, hk _ _ _ hb b0, Trv.keep2 h' hk⟩
theorem store_nil (P : Program) {W : World} {a : Addr} {v : Value} (h : W.cell? a = some v) (hf : W.frozen? a = false) : Sem.run P (store a Value.nilFunc) W = .ok () (W.setCell a Value.nilFunc) := by
  rw [run_store P W a _ _ rfl]; simp [go_sem, h, hf]
theorem store_fn (P : Program) {W : World} {a : Addr} {v : Value} (f : Fn) (x y : Array Value) (h : W.cell? a = some v) (hf : W.frozen? a = false) : Sem.run P (store a (.func f x y)) W = .ok () (W.setCell a (.func f x y)) := by
  rw [run_store P W a _ _ rfl]; simp [go_sem, h, hf]
/-- what the loop over the steps holds -/
structure HoldT (w : World) (L : List P2) (pre : List Nat) (W : World) : Prop where
  trv : ∃ tv, W.cell? ⟨w.heap.size + 1 + 1, 0, none⟩ = some tv ∧ Trv (w.heap.size + 1 + 1 + 1) W tv (pre.reverse.map (cy L))
  fine : ∀ i ∈ pre, stP (cy L i) = true
  z0 : W.cell? ⟨w.heap.size, 0, none⟩ = some .nilFunc
  z1 : W.cell? ⟨w.heap.size + 1, 0, none⟩ = some (.bool false)
  f0 : W.frozen? ⟨w.heap.size, 0, none⟩ = false
  f1 : W.frozen? ⟨w.heap.size + 1, 0, none⟩ = false
  f2 : W.frozen? ⟨w.heap.size + 1 + 1, 0, none⟩ = false
  below : Below w.heap.size w W
  size : w.heap.size + 1 + 1 + 1 + 1 ≤ W.heap.size
theorem HoldT.own {w : World} {L : List P2} {pre : List Nat} {W W' : World} {row : Option Nat} (h : HoldT w L pre W) (hg : W.grownBy W' row) (hr : ∀ r, row = some r → w.heap.size + 1 + 1 + 1 + 1 ≤ r ∧ ∃ o : Obj, W.heap[r]? = some o ∧ o.isCells = false) : HoldT w L pre W' := by
  have hk : ∀ {a : Addr} {v : Value}, W.cell? a = some v → W'.cell? a = some v := fun hc => cell_kept hc hg (fun r e => (hr r e).2)
  obtain ⟨tv, h1, h2⟩ := h.trv
  exact ⟨⟨tv, hk h1, h2.keep2 (fun b o v _ hc => hk hc)⟩, h.fine, hk h.z0, hk h.z1, (frozen_kept h.z0 hg (fun r e => (hr r e).2)).trans h.f0, (frozen_kept h.z1 hg (fun r e => (hr r e).2)).trans h.f1, (frozen_kept h1 hg (fun r e => (hr r e).2)).trans h.f2,
    h.below.grown hg (by have := h.size; omega) (fun r e => by have := (hr r e).1; omega), Nat.le_trans h.size hg.size⟩
structure LeftT (w : World) (L : List P2) (c : Code) (pre : List Nat) (W : World) : Prop where
  ret : c = .ret
  bad : ∃ i, stP (cy L i) = false
  z0 : W.cell? ⟨w.heap.size, 0, none⟩ = some .nilFunc
  z1 : W.cell? ⟨w.heap.size + 1, 0, none⟩ = some (.bool false)
  below : Below w.heap.size w W
  size : w.heap.size + 1 + 1 + 1 + 1 ≤ W.heap.size
theorem LeftT.own {w : World} {L : List P2} {c : Code} {pre : List Nat} {W W' : World} {row : Option Nat} (h : LeftT w L c pre W) (hg : W.grownBy W' row) (hr : ∀ r, row = some r → w.heap.size + 1 + 1 + 1 + 1 ≤ r ∧ ∃ o : Obj, W.heap[r]? = some o ∧ o.isCells = false) : LeftT w L c pre W' :=
  ⟨h.ret, h.bad, cell_kept h.z0 hg (fun r e => (hr r e).2), cell_kept h.z1 hg (fun r e => (hr r e).2), h.below.grown hg (by have := h.size; omega) (fun r e => by have := (hr r e).1; omega), Nat.le_trans h.size hg.size⟩
set_option maxRecDepth 100000 in
set_option maxHeartbeats 4000000 in
theorem iTravOf (B o m c : Nat) (L : List P2) (w : World) (hm : L.length = m) (h1 : 1 ≤ m) (h12 : m ≤ 12) (hB : B < w.heap.size) (hI : Ints w (some ⟨B, o, none⟩) (Poly.fl L)) :
    Calls Try.prog 81 #[.slice (some ⟨B, o, none⟩) m c] w fun e w' => ((∀ i, i < m → stP (cy L i) = true) ∧ ∃ t, e = .returned (.tuple #[t, .bool true]) ∧ Trv w.heap.size w' t L ∧ Below w.heap.size w w') ∨ ((∃ i, stP (cy L i) = false) ∧ e = .returned (.tuple #[.nilFunc, .bool false]) ∧ Below w.heap.size w w') := by
  refine (callsIn_wide (n := 9)).1 ?_
  have HR := Lib.hid (And.intro hI hm)
  clear hI hm
  have hm1 : ¬ m = 0 := by omega
  have hm2 : ¬ (12 : Int) < (m : Int) := by omega
  refine callsIn_of_wp_marks Try.func81 rfl trivial ?_ rfl
  simp only [Try.ntmps81, List.size_toArray, List.length_cons, List.length_nil, Nat.reduceAdd, Nat.reduceSub, Array.replicate_succ, Array.replicate_zero, List.push_toArray, List.append_toArray, List.nil_append, List.cons_append]
  gi_wp2
  refine ⟨by simp [Fence.wide], ?_⟩
  refine ((callsIn_wide.2 (iBackward _ _ _ _)).mono ?_)
  rintro e w' ⟨rfl, hw'⟩
  gi_wp2
  obtain ⟨w3, hw3⟩ : ∃ W, W = w' := ⟨_, rfl⟩
  rw [← hw'] 
  rw [← hw3] at hw' ⊢
  have hsz : w3.heap.size = w.heap.size + 1 + 1 + 1 + 1 := by rw [hw']; simp
  have hb3 : Below w.heap.size w w3 := by
    rw [hw']
    exact ((((Below.refl _ w).alloc (Nat.le_refl _) _).alloc (by simp) _).alloc (by simp; omega) _).alloc (by simp; omega) _
  have y3 : w3.cell? ⟨w.heap.size + 1 + 1 + 1, 0, none⟩ = some (.slice (some ⟨B, o, none⟩) m c) := by rw [hw']; simp [go_sem]
  have H0 : HoldT w L [] w3 := ⟨⟨.nilFunc, by rw [hw']; simp [go_sem], rfl⟩, fun i h => by simp at h, by rw [hw']; simp [go_sem], by rw [hw']; simp [go_sem], by rw [hw']; simp [go_sem], by rw [hw']; simp [go_sem], by rw [hw']; simp [go_sem], hb3, by omega⟩
  clear hw' hw3
  have hgive := back_stops 8 (by decide) (w.heap.size + 1 + 1 + 1) w.heap.size B o m c L HR.out.2 (by omega) hB w3 (by omega) (by omega) y3 (HR.out.1.below hb3)
  refine wpIn_rangeFunc_pts (by decide) (T := 31) (gf := 133) (lb := #[.pointer (some ⟨w.heap.size + 1 + 1 + 1, 0, none⟩)]) rfl (enters_of Try.func133 (by kernel_rfl) rfl) hgive
    (fun h k => h.t k) (Kp2.b (by omega) (by omega)) (fun W o h => ⟨(Below.refl _ _).alloc (by omega) _, Below.heap_alloc _ _ _ (by omega)⟩) (Below.refl _ _)
    (HoldT w L) (LeftT w L)
    (fun s W W' row hs hg hr => hs.own hg (fun r e => ⟨by have := (hr r e).1; omega, (hr r e).2⟩))
    (fun c s W W' row hs hg hr => hs.own hg (fun r e => ⟨by have := (hr r e).1; omega, (hr r e).2⟩))
    H0
    (fun x b => { tmps := #[.slice (some ⟨B, o, none⟩) m c, undef, .pointer (some ⟨w.heap.size, 0, none⟩), .pointer (some ⟨w.heap.size + 1, 0, none⟩), .pointer (some ⟨w.heap.size + 1 + 1, 0, none⟩), undef, .pointer (some ⟨b, 0, none⟩), .slice (some ⟨B, o, none⟩) m c, .int .i64 m, .bool false, .bool false, .slice (some ⟨B, o, none⟩) m c, .int .i64 m, .bool false, .bool false, .slice (some ⟨B, o, none⟩) m c, .func (.func 133) #[] #[.pointer (some ⟨w.heap.size + 1 + 1 + 1, 0, none⟩)], .int .i64 (x : Int), .agg #[.int .i64 (cy L x).1, .int .i64 (cy L x).2], undef, undef, undef, undef, undef, undef, undef, undef], defers := [] }) ?assign ?body ?done ?stop
  case assign =>
    intro l x W K hK
    gi_wp2
    exact hK
  case body =>
    rintro l pre x b W hH hlen hb c0 c1
    obtain ⟨v, hv⟩ : ∃ v, stP (cy L x) = v := ⟨_, rfl⟩
    have k1 := fun w => Lib.hid (istep_is (cy L x).1 (cy L x).2 v w hv)
    have lb := World.block_lt_of_cell? W _ c0
    dsimp only at lb
    have HH := Lib.hid (And.intro hH hv)
    have hWs := hH.size
    cases v
    · clear hH hv
      gi_wp2
      refine ⟨by simp [Fence.wide], ?_⟩
      refine (CallsIn.inRound l (callsIn_wide.2 (k1 _).out)).mono ?_
      rintro e wb ⟨rfl, hbb⟩
      have hsb := hbb.size
      have y0 := (hbb.cell (p := ⟨w.heap.size, 0, none⟩) (show w.heap.size < W.heap.size by omega)).trans HH.out.1.z0
      have y1 := (hbb.cell (p := ⟨w.heap.size + 1, 0, none⟩) (show w.heap.size + 1 < W.heap.size by omega)).trans HH.out.1.z1
      have g0 := (hbb.frozen (p := ⟨w.heap.size, 0, none⟩) (show w.heap.size < W.heap.size by omega)).trans HH.out.1.f0
      have g1 := (hbb.frozen (p := ⟨w.heap.size + 1, 0, none⟩) (show w.heap.size + 1 < W.heap.size by omega)).trans HH.out.1.f1
      have HB := Lib.hid hbb
      have hst := store_nil Try.prog y0 g0
      clear hbb
      gi_wp2
      exact ⟨((keeps_below HB.out).trans (KeepsOthers.setCell _ _ _)).trans (KeepsOthers.setCell _ _ _), rfl, ⟨x, HH.out.2⟩, by simp [go_sem, y0, y1], by simp [go_sem, y0, y1], ((HH.out.1.below.trans (HB.out.mono (by omega))).setCell (p := ⟨w.heap.size, 0, none⟩) (Nat.le_refl _) _).setCell (p := ⟨w.heap.size + 1, 0, none⟩) (by simp) _, by simp; omega⟩
    · clear hv
      obtain ⟨tv, c2, hT⟩ := hH.trv
      have hT := Lib.hid hT
      have lt : w.heap.size + 1 + 1 < W.heap.size := by omega
      have f2 := hH.f2
      clear hH
      gi_wp2
      refine ⟨by simp [Fence.wide], ?_⟩
      refine (CallsIn.inRound l (callsIn_wide.2 (k1 _).out)).mono ?_
      rintro e wb ⟨rfl, hbb⟩
      have hsb := hbb.size
      have d0 := (hbb.cell (p := ⟨b, 0, none⟩) lb).trans c0
      have d1 := (hbb.cell (p := ⟨b, 1, none⟩) lb).trans c1
      have d2 := (hbb.cell (p := ⟨w.heap.size + 1 + 1, 0, none⟩) lt).trans c2
      have g2 := (hbb.frozen (p := ⟨w.heap.size + 1 + 1, 0, none⟩) lt).trans f2
      have HB := Lib.hid hbb
      have hTb := Lib.hid (hT.out.below hbb (Nat.le_refl _))
      clear hbb c0 c1 c2 f2
      have lb' : b < wb.heap.size := by omega
      have lt' : w.heap.size + 1 + 1 < wb.heap.size := by omega
      gi_wp2
      (refine round_grows_tail 3 (by kernel_rfl) (by kernel_rfl) (by kernel_rfl) (fun ⟨_, _, h⟩ => h) ?_; simp only [List.take_succ_cons, List.take_zero, List.drop_succ_cons, List.drop_zero]; intro W_wg hWc_wg hWs_wg hWe_wg; (repeat (go_big_quiet_step ((first | (go_at_call 85; with_reducible exact Ext.call (placeOf_any _ _ _)))))); with_reducible refine wpQuiet_nil ?_; clear hWe_wg hWs_wg hWc_wg W_wg; intro wg hb_wg; obtain ⟨hc_wg, hf_wg⟩ := bcell hb_wg; (try simp only [World.size_drew, World.cell?_drew, World.frozen?_drew, World.heap_drewN, World.cell?_drewN, World.frozen?_drewN] at hc_wg hf_wg); have hs_wg := hb_wg.size; (try simp at hs_wg))
      go_wp2_with (go_at_call 117; (with_reducible refine (iAfter (w.heap.size + 1 + 1 + 1) (pre.reverse.map (cy L)) tv (cy L x) _ (hTb.out.below hb_wg (Nat.le_refl _)) (by omega)).mono ?_); rintro e wa ⟨v, rfl, hTv, hba⟩; have HT := Lib.hid hTv; obtain ⟨b', c', t', _, _, rfl, _⟩ := hTv; have hsa := hba.size; have g3 : wa.cell? ⟨w.heap.size + 1 + 1, 0, none⟩ = some tv := (((hba.cell (p := ⟨w.heap.size + 1 + 1, 0, none⟩) (show w.heap.size + 1 + 1 < wg.heap.size by omega)).trans (hc_wg _ _ lt')).trans d2); have g4 : wa.frozen? ⟨w.heap.size + 1 + 1, 0, none⟩ = false := (((hba.frozen (p := ⟨w.heap.size + 1 + 1, 0, none⟩) (show w.heap.size + 1 + 1 < wg.heap.size by omega)).trans (hf_wg _ _ lt')).trans g2); have hst := store_fn Try.prog (.func 134) #[] #[.pointer (some ⟨c', 0, none⟩), .pointer (some ⟨b', 0, none⟩)] g3 g4)
      have hWa : Below W.heap.size W wa := HB.out.trans ((hb_wg.mono hsb).trans (hba.mono (by omega)))
      have nk : ∀ k v', k ≠ w.heap.size + 1 + 1 → (wa.setCell ⟨w.heap.size + 1 + 1, 0, none⟩ v').cell? ⟨k, 0, none⟩ = wa.cell? ⟨k, 0, none⟩ := fun k v' hk => World.cell?_setCell_other _ _ _ _ (by first | (simp; done) | (simpa using hk))
      have q0 := (hWa.cell (p := ⟨w.heap.size, 0, none⟩) (show w.heap.size < W.heap.size by omega)).trans HH.out.1.z0
      have q1 := (hWa.cell (p := ⟨w.heap.size + 1, 0, none⟩) (show w.heap.size + 1 < W.heap.size by omega)).trans HH.out.1.z1
      have r0 := (hWa.frozen (p := ⟨w.heap.size, 0, none⟩) (show w.heap.size < W.heap.size by omega)).trans HH.out.1.f0
      have r1 := (hWa.frozen (p := ⟨w.heap.size + 1, 0, none⟩) (show w.heap.size + 1 < W.heap.size by omega)).trans HH.out.1.f1
      refine ⟨(keeps_below hWa).trans (KeepsOthers.setCell _ _ _), Kp2.put hWa (by omega) (by omega) (by omega) (by omega) _, ?_⟩
      refine ⟨⟨_, World.cell?_setCell_same' _ _ _ (by rw [g3]; rfl), ?_⟩, fun i hi => ?_, (nk _ _ (by omega)).trans q0, (nk _ _ (by omega)).trans q1, by rw [World.frozen?_setCell]; exact r0, by rw [World.frozen?_setCell]; exact r1, by rw [World.frozen?_setCell]; exact g4, (HH.out.1.below.trans (hWa.mono (by omega))).setCell (p := ⟨w.heap.size + 1 + 1, 0, none⟩) (by simp; omega) _, by simp; omega⟩
      · rw [List.reverse_append, List.map_append]
        exact HT.out.set (by omega)
      · rcases List.mem_append.1 hi with h | h
        · exact HH.out.1.fine i h
        · simp at h; subst h; exact HH.out.2
  case done =>
    rintro D ys W hD rfl hH hK
    obtain ⟨tv, c2, hT⟩ := hH.trv
    have z0 := hH.z0
    have z1 := hH.z1
    have f0 := hH.f0
    have f1 := hH.f1
    have HH := Lib.hid (And.intro hH hT)
    have hL := dn_list (L := L) m 0 (by have := HR.out.2; omega)
    rw [HR.out.2, List.drop_zero] at hL
    rw [hL] at hT
    rcases hT.cases with ⟨h0, -⟩ | ⟨s, l, b, c', t', hLs, -, -, rfl, -, -, -, -⟩
    · have := HR.out.2; rw [h0] at this; simp at this; omega
    have HT := Lib.hid hT
    have hst := store_fn Try.prog (.func 134) #[] #[.pointer (some ⟨c', 0, none⟩), .pointer (some ⟨b, 0, none⟩)] z0 f0
    clear hH hT hLs hL
    gi_wp2
    have hs1 : (W.setCell ⟨w.heap.size, 0, none⟩ (.func (.func 134) #[] #[.pointer (some ⟨c', 0, none⟩), .pointer (some ⟨b, 0, none⟩)])).cell? ⟨w.heap.size + 1, 0, none⟩ = some (.bool false) := by rw [World.cell?_setCell_other _ _ _ _ (by simp)]; exact z1
    have hs0 : (W.setCell ⟨w.heap.size, 0, none⟩ (.func (.func 134) #[] #[.pointer (some ⟨c', 0, none⟩), .pointer (some ⟨b, 0, none⟩)])).cell? ⟨w.heap.size, 0, none⟩ = some (.func (.func 134) #[] #[.pointer (some ⟨c', 0, none⟩), .pointer (some ⟨b, 0, none⟩)]) := World.cell?_setCell_same' _ _ _ (by rw [z0]; rfl)
    obtain ⟨F, hF⟩ : ∃ F, (W.setCell ⟨w.heap.size, 0, none⟩ (.func (.func 134) #[] #[.pointer (some ⟨c', 0, none⟩), .pointer (some ⟨b, 0, none⟩)])).setCell ⟨w.heap.size + 1, 0, none⟩ (.bool true) = F := ⟨_, rfl⟩
    rw [hF]
    have e0 : F.cell? ⟨w.heap.size, 0, none⟩ = some (.func (.func 134) #[] #[.pointer (some ⟨c', 0, none⟩), .pointer (some ⟨b, 0, none⟩)]) := by rw [← hF, World.cell?_setCell_other _ _ _ _ (by simp)]; exact hs0
    have e1 : F.cell? ⟨w.heap.size + 1, 0, none⟩ = some (.bool true) := by rw [← hF]; exact World.cell?_setCell_same' _ _ _ (by rw [hs1]; rfl)
    have hK' : F.heap[D]? = some (.deferred (some [])) := by rw [← hF]; exact ((KeepsOthers.setCell W _ _).trans (KeepsOthers.setCell _ _ _)).same D _ hK rfl
    have hbF : Below w.heap.size w F := by rw [← hF]; exact (HH.out.1.below.setCell (p := ⟨w.heap.size, 0, none⟩) (Nat.le_refl _) _).setCell (p := ⟨w.heap.size + 1, 0, none⟩) (by simp) _
    have hTF : Trv (w.heap.size + 1 + 1 + 1) F (.func (.func 134) #[] #[.pointer (some ⟨c', 0, none⟩), .pointer (some ⟨b, 0, none⟩)]) L := by rw [← hF]; exact (HT.out.set (by omega)).set (by omega)
    refine ⟨by simp, .inl ⟨_, _, rfl, run_takeDeferred hK', ?_⟩⟩
    have kp : ∀ {a : Addr} {v : Value}, F.cell? a = some v → (F.putObj D (.deferred none)).cell? a = some v := fun hc => cell_kept hc (grownBy_putObj' _ D (.deferred none)) (fun r e => by cases e; exact ⟨_, hK', rfl⟩)
    have k0 := kp e0
    have k1 := kp e1
    refine ⟨.tuple #[.func (.func 134) #[] #[.pointer (some ⟨c', 0, none⟩), .pointer (some ⟨b, 0, none⟩)], .bool true], ?_, .inl ⟨fun i hi => HH.out.1.fine i ?_, _, rfl, (hTF.keep2 (fun b o v _ hc => kp hc)).mono (by omega), hbF.trans (below_put _ D _ (by omega))⟩⟩
    · simp [results, Try.results81, go_sem, k0, k1]
    · unfold dn
      exact List.mem_map.2 ⟨m - 1 - i, List.mem_range.2 (by omega), by omega⟩
  case stop =>
    rintro D c pre W hD hpre hH hK
    obtain ⟨rfl, ⟨i, hi⟩, z0, z1, hbw, hsz'⟩ := hH
    gi_wp2
    refine ⟨by simp, .inl ⟨_, _, rfl, run_takeDeferred hK, ?_⟩⟩
    have y0 := cell_kept z0 (grownBy_putObj' _ D (.deferred none)) (fun r e => by cases e; exact ⟨_, hK, rfl⟩)
    have y1 := cell_kept z1 (grownBy_putObj' _ D (.deferred none)) (fun r e => by cases e; exact ⟨_, hK, rfl⟩)
    refine ⟨.tuple #[.nilFunc, .bool false], ?_, .inr ⟨⟨i, hi⟩, rfl, hbw.trans (below_put _ D _ (by omega))⟩⟩
    simp [results, Try.results81, go_sem, y0, y1]
end Go.Proofs.Ytgncjpakclbegaa
