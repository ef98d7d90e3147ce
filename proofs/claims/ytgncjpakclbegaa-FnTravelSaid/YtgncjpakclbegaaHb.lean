/-
  The program's traverses: functions that return functions. What one holds, a step behind it, what its call answers, its points.
-/
import Derived.Test.YtgncjpakclbegaaHa
import Derived.Test.YtgncjpakclbegaaYip
import Derived.Test.YtgncjpakclbegaaZo
set_option linter.unusedSimpArgs false
set_option linter.unusedVariables false
namespace Go.Proofs.Ytgncjpakclbegaa
open Go.RowKit Go.Shelf Poly
set_option linter.unusedVariables false

/-- a traverse of the program with these steps, kept in blocks from m on -/
def Trv (m : Nat) (w : World) : Value → List P2 → Prop
  | t, [] => t = .nilFunc
  | t, s :: l => ∃ (b c : Nat) (t' : Value), m ≤ b ∧ m ≤ c ∧ t = .func (.func 134) #[] #[.pointer (some ⟨c, 0, none⟩), .pointer (some ⟨b, 0, none⟩)] ∧
      w.cell? ⟨c, 0, none⟩ = some (.int .i64 s.1) ∧ w.cell? ⟨c, 1, none⟩ = some (.int .i64 s.2) ∧ w.cell? ⟨b, 0, none⟩ = some t' ∧ Trv m w t' l
theorem Trv.keep {m : Nat} {w w' : World} : ∀ {L : List P2} {t : Value}, Trv m w t L → (∀ b o, m ≤ b → b < w.heap.size → w'.cell? ⟨b, o, none⟩ = w.cell? ⟨b, o, none⟩) → Trv m w' t L
  | [], t, h, _ => h
  | s :: l, t, h, hk => by
    obtain ⟨b, c, t', hb, hc, e, c0, c1, b0, h'⟩ := h
    have lb := World.block_lt_of_cell? w _ b0
    have lc := World.block_lt_of_cell? w _ c0
    exact ⟨b, c, t', hb, hc, e, by rw [hk _ _ hc lc]; exact c0, by rw [hk _ _ hc lc]; exact c1, by rw [hk _ _ hb lb]; exact b0, Trv.keep h' hk⟩
theorem Trv.below {m B : Nat} {w w' : World} {L : List P2} {t : Value} (h : Trv m w t L) (hb : Below B w w') (hB : w.heap.size ≤ B) : Trv m w' t L :=
  h.keep (fun b o _ hl => hb.cell (p := ⟨b, o, none⟩) (show b < B by omega))
theorem Trv.set {m g o : Nat} {w : World} {L : List P2} {t v : Value} (h : Trv m w t L) (hg : g < m) : Trv m (w.setCell ⟨g, o, none⟩ v) t L :=
  h.keep (fun b i hb _ => World.cell?_of_block (Below.heap_setCell w ⟨g, o, none⟩ v b (by simp; omega)))
theorem Trv.mono {m m' : Nat} {w : World} : ∀ {L : List P2} {t : Value}, Trv m w t L → m' ≤ m → Trv m' w t L
  | [], t, h, _ => h
  | s :: l, t, h, hm => by
    obtain ⟨b, c, t', hb, hc, e, c0, c1, b0, h'⟩ := h
    exact ⟨b, c, t', by omega, by omega, e, c0, c1, b0, Trv.mono h' hm⟩
theorem Trv.grown {m g : Nat} {w w' : World} {L : List P2} {t : Value} (h : Trv m w t L) (hg : w.grownBy w' (some g)) (hn : ∀ b, m ≤ b → b < w.heap.size → b ≠ g) : Trv m w' t L :=
  h.keep (fun b o hm hl => World.cell?_of_block (hg.block b hl (by intro e; injection e with e; exact hn b hm hl e)))

/-- steps added up as the machine does -/
def adW (p s : P2) : P2 := (wrap64 (p.1 + s.1), wrap64 (p.2 + s.2))
def wayW (p : P2) : List P2 → List P2
  | [] => [p]
  | s :: l => p :: wayW (adW p s) l
theorem wayW_len : ∀ (L : List P2) (p : P2), (wayW p L).length = L.length + 1
  | [], p => rfl
  | s :: l, p => by unfold wayW; simp [wayW_len l]
theorem plus_w (a b c d : Int) (w : World) :
    Calls Try.prog 135 #[.agg #[.int .i64 a, .int .i64 b], .agg #[.int .i64 c, .int .i64 d]] w fun e w' => e = .returned (.agg #[.int .i64 (wrap64 (a + c)), .int .i64 (wrap64 (b + d))]) ∧ Below w.heap.size w w' := by
  go_enter Try.func135, Try.ntmps135
  go_wp2
  exact bodyPost_ret (v := .agg #[.int .i64 (wrap64 (a + c)), .int .i64 (wrap64 (b + d))]) (by simp [results, Try.results135, go_sem]) rfl ⟨rfl, (by repeat (first | assumption | exact Below.refl _ _ | (refine below_chain ?_ (by assumption) (by first | omega | (simp <;> omega) | simp)) | (refine Below.alloc ?_ (by first | omega | (simp <;> omega) | simp) _) | (apply below_drewN) | (apply below_drew) | (refine Below.setCell ?_ (by first | omega | (simp <;> omega) | simp) _)))⟩
theorem iAfter (m : Nat) (L : List P2) (t : Value) (s : P2) (w : World) (h : Trv m w t L) (hm : m ≤ w.heap.size) :
    Calls Try.prog 117 #[t, .agg #[.int .i64 s.1, .int .i64 s.2]] w fun e w' => ∃ v, e = .returned v ∧ Trv m w' v (s :: L) ∧ Below w.heap.size w w' := by
  have H := Lib.hid h
  have hc : t = .nilFunc ∨ ∃ b c : Nat, t = .func (.func 134) #[] #[.pointer (some ⟨c, 0, none⟩), .pointer (some ⟨b, 0, none⟩)] := by
    cases L with
    | nil => exact .inl h
    | cons s l => obtain ⟨b, c, t', -, -, e, -⟩ := h; exact .inr ⟨b, c, e⟩
  clear h
  rcases hc with rfl | ⟨b, c, rfl⟩
  all_goals
    go_enter Try.func117, Try.ntmps117
    go_wp2_with fail
    go_ret
    refine ⟨_, rfl, ⟨w.heap.size, w.heap.size + 1, _, hm, by omega, rfl, by simp [go_sem], by simp [go_sem], by simp [go_sem], H.out.below (B := w.heap.size) (by repeat (first | assumption | exact Below.refl _ _ | (refine below_chain ?_ (by assumption) (by first | omega | (simp <;> omega) | simp)) | (refine Below.alloc ?_ (by first | omega | (simp <;> omega) | simp) _) | (apply below_drewN) | (apply below_drew) | (refine Below.setCell ?_ (by first | omega | (simp <;> omega) | simp) _))) (Nat.le_refl _)⟩, (by repeat (first | assumption | exact Below.refl _ _ | (refine below_chain ?_ (by assumption) (by first | omega | (simp <;> omega) | simp)) | (refine Below.alloc ?_ (by first | omega | (simp <;> omega) | simp) _) | (apply below_drewN) | (apply below_drew) | (refine Below.setCell ?_ (by first | omega | (simp <;> omega) | simp) _)))⟩
theorem iGo (x y : Int) (b c : Nat) (s : P2) (t : Value) (w : World) (h0 : w.cell? ⟨c, 0, none⟩ = some (.int .i64 s.1)) (h1 : w.cell? ⟨c, 1, none⟩ = some (.int .i64 s.2)) (h2 : w.cell? ⟨b, 0, none⟩ = some t) :
    Calls Try.prog 134 #[.agg #[.int .i64 x, .int .i64 y], .pointer (some ⟨c, 0, none⟩), .pointer (some ⟨b, 0, none⟩)] w fun e w' => e = .returned (.tuple #[.agg #[.int .i64 (adW (x, y) s).1, .int .i64 (adW (x, y) s).2], t]) ∧ Below w.heap.size w w' := by
  have lb := World.block_lt_of_cell? w _ h2
  have lc := World.block_lt_of_cell? w _ h0
  dsimp only at lb lc
  go_enter Try.func134, Try.ntmps134
  go_upto_region 1 with fail
  go_region_held3 (fun W => W.cell? ⟨c, 0, none⟩ = some (.int .i64 s.1) ∧ W.cell? ⟨c, 1, none⟩ = some (.int .i64 s.2) ∧ W.cell? ⟨b, 0, none⟩ = some (t) ∧ W.cell? ⟨w.heap.size, 0, none⟩ = some (.int .i64 x) ∧ W.cell? ⟨w.heap.size, 1, none⟩ = some (.int .i64 y)) (((try dsimp only); (try go_split_ands); refine ⟨?_, ?_, ?_, ?_, ?_⟩ <;> (first | ((repeat (first | with_reducible assumption | (with_reducible refine cell_below_keep (by with_reducible assumption) ?_) | (simp [go_sem]; done) | (with_reducible refine cell_alloc_keep _ ?_) | (with_reducible refine cell_drew_keep ?_) | (with_reducible refine cell_drewN_keep _ ?_) | (with_reducible refine cell_set_keep _ (by first | (simp; omega) | omega) ?_))); done) | (simp [*, go_sem]; done)))) ((go_at_call 135; (with_reducible refine (plus_w _ _ _ _ _).mono ?_); rintro e wn ⟨rfl, hbn⟩; obtain ⟨hcn, hfn⟩ := bcell hbn; (try simp only [World.size_drew, World.cell?_drew, World.frozen?_drew, World.heap_drewN, World.cell?_drewN, World.frozen?_drewN] at hcn hfn); have hsz := hbn.size; (try simp at hsz); (try have hsl := Nat.lt_of_succ_le hsz); (try have hz0 : w.heap.size < wn.heap.size := (by have := hbn.size; (try simp at this); omega)); (try have hz1 : w.heap.size + 1 < wn.heap.size := (by have := hbn.size; (try simp at this); omega)); (try have hz2 : b < wn.heap.size := (by have := hbn.size; (try simp at this); omega)); (try have hz3 : c < wn.heap.size := (by have := hbn.size; (try simp at this); omega))))
  have e0 : wn.cell? ⟨w.heap.size + 1, 0, none⟩ = some (.int .i64 0) := by rw [hcn _ _ (by simp)]; simp [go_sem]
  have e1 : wn.cell? ⟨w.heap.size + 1, 1, none⟩ = some (.int .i64 0) := by rw [hcn _ _ (by simp)]; simp [go_sem]
  have e2 : (wn.cell? ⟨w.heap.size + 1, 0, none⟩).isSome = true := by rw [e0]; rfl
  have e3 : (wn.cell? ⟨w.heap.size + 1, 1, none⟩).isSome = true := by rw [e1]; rfl
  go_wp2_with fail
  exact bodyPost_ret (v := .tuple #[.agg #[.int .i64 (adW (x, y) s).1, .int .i64 (adW (x, y) s).2], t]) (by simp [results, Try.results134, go_sem, adW, e0, e1, e2, e3]) rfl ⟨rfl, (by repeat (first | assumption | exact Below.refl _ _ | (refine below_chain ?_ (by assumption) (by first | omega | (simp <;> omega) | simp)) | (refine Below.alloc ?_ (by first | omega | (simp <;> omega) | simp) _) | (apply below_drewN) | (apply below_drew) | (refine Below.setCell ?_ (by first | omega | (simp <;> omega) | simp) _)))⟩

theorem wayW_tail (s : P2) (l : List P2) (q : P2) : (wayW q (s :: l)).tail = adW q s :: (wayW (adW q s) l).tail := by
  show wayW (adW q s) l = _
  cases l <;> rfl
def slen : Value → Nat
  | .slice _ n _ => n
  | _ => 0
theorem own_lit2 (w : World) (T : TypeId) (x y : Int) : Own (w.alloc (.cells #[.int .i64 x, .int .i64 y] T)) w.heap.size T 2 1 1 [x, y] :=
  .of (Deep.blk_alloc_new _ _) (Nat.le_refl _) (by decide) (by simp) (by simp [ivs]) (by simp)
theorem iGoZ (x y : Int) (b c : Nat) (s z : P2) (t : Value) (w : World) (hz : adW (x, y) s = z) (h0 : w.cell? ⟨c, 0, none⟩ = some (.int .i64 s.1)) (h1 : w.cell? ⟨c, 1, none⟩ = some (.int .i64 s.2)) (h2 : w.cell? ⟨b, 0, none⟩ = some t) :
    Calls Try.prog 134 #[.agg #[.int .i64 x, .int .i64 y], .pointer (some ⟨c, 0, none⟩), .pointer (some ⟨b, 0, none⟩)] w fun e w' => e = .returned (.tuple #[.agg #[.int .i64 z.1, .int .i64 z.2], t]) ∧ Below w.heap.size w w' := by
  subst hz
  exact iGo x y b c s t w h0 h1 h2
theorem Own.put {w : World} {g B o : Nat} {T : TypeId} {sz n cap : Nat} {xs : List Int} (h : Own w g T sz n cap xs) (hne : g ≠ B) (v : Value) : Own (w.setCell ⟨B, o, none⟩ v) g T sz n cap xs :=
  h.block (Below.heap_setCell w ⟨B, o, none⟩ v g hne)
theorem neq_fn (f : Fn) (x y : Array Value) (w : World) : Sem.run Try.prog (binOp BinOp.neq 77 (.func f x y) Value.nilFunc) w = .ok (.bool true) w := by kernel_rfl
theorem neq_nil (w : World) : Sem.run Try.prog (binOp BinOp.neq 77 Value.nilFunc Value.nilFunc) w = .ok (.bool false) w := by kernel_rfl
theorem box2 {W W2 W' : World} {B g : Nat} {x y a b : Int} {o : Obj} (h0 : W.cell? ⟨B, 0, none⟩ = some (.int .i64 a)) (h1 : W.cell? ⟨B, 1, none⟩ = some (.int .i64 b))
    (hb : Below ((W.setCell ⟨B, 0, none⟩ (.int .i64 x)).setCell ⟨B, 1, none⟩ (.int .i64 y)).heap.size ((W.setCell ⟨B, 0, none⟩ (.int .i64 x)).setCell ⟨B, 1, none⟩ (.int .i64 y)) W2)
    (hg : (W2.alloc o).grownBy W' (some g)) (hn : B ≠ g) :
    W'.cell? ⟨B, 0, none⟩ = some (.int .i64 x) ∧ W'.cell? ⟨B, 1, none⟩ = some (.int .i64 y) ∧ W'.frozen? ⟨B, 0, none⟩ = W.frozen? ⟨B, 0, none⟩ ∧ W'.frozen? ⟨B, 1, none⟩ = W.frozen? ⟨B, 1, none⟩ := by
  have hB : B < W.heap.size := World.block_lt_of_cell? W _ h0
  have hs := hb.size
  simp at hs
  have hA : Below W2.heap.size W2 (W2.alloc o) := (Below.refl _ _).alloc (Nat.le_refl _) _
  obtain ⟨g1, g2⟩ := gcell hg
  have hl : B < (W2.alloc o).heap.size := by simp; omega
  have hl2 : B < W2.heap.size := by omega
  have hl3 : B < ((W.setCell ⟨B, 0, none⟩ (.int .i64 x)).setCell ⟨B, 1, none⟩ (.int .i64 y)).heap.size := by simp; exact hB
  refine ⟨?_, ?_, ?_, ?_⟩
  · rw [g1 _ _ hl hn, hA.cell hl2, hb.cell hl3]; simp [go_sem, h0, h1]
  · rw [g1 _ _ hl hn, hA.cell hl2, hb.cell hl3]; simp [go_sem, h0, h1]
  · rw [g2 _ _ hl hn, hA.frozen hl2, hb.frozen hl3]; simp [go_sem]
  · rw [g2 _ _ hl hn, hA.frozen hl2, hb.frozen hl3]; simp [go_sem]
theorem Trv.cases {m : Nat} {w : World} {L : List P2} {t : Value} (h : Trv m w t L) : (L = [] ∧ t = .nilFunc) ∨ ∃ s l b c t', L = s :: l ∧ m ≤ b ∧ m ≤ c ∧ t = .func (.func 134) #[] #[.pointer (some ⟨c, 0, none⟩), .pointer (some ⟨b, 0, none⟩)] ∧
      w.cell? ⟨c, 0, none⟩ = some (.int .i64 s.1) ∧ w.cell? ⟨c, 1, none⟩ = some (.int .i64 s.2) ∧ w.cell? ⟨b, 0, none⟩ = some t' ∧ Trv m w t' l := by
  cases L with
  | nil => exact .inl ⟨rfl, h⟩
  | cons s l => obtain ⟨b, c, t', h1, h2, h3, h4, h5, h6, h7⟩ := h; exact .inr ⟨s, l, b, c, t', rfl, h1, h2, h3, h4, h5, h6, h7⟩
set_option maxHeartbeats 4000000 in
set_option maxRecDepth 100000 in
theorem iTPoints (m n : Nat) (L : List P2) (t : Value) (x y : Int) (w : World) (h : Trv m w t L) (hn : L.length = n) (h12 : n ≤ 1000) :
    Calls Try.prog 84 #[t, .agg #[.int .i64 x, .int .i64 y]] w fun e w' => ∃ g cap, e = .returned (.slice (some ⟨g, 0, none⟩) (n + 1) cap) ∧ w.heap.size ≤ g ∧ Own w' g 31 2 (n + 1) cap (Poly.fl (wayW (x, y) L)) ∧ Below w.heap.size w w' := by
  have H := Lib.hid (And.intro h hn)
  clear h hn
  go_enter Try.func84, Try.ntmps84
  go_wp2_with ((go_at_call 90; (with_reducible refine (point_any _ _ _).mono ?_); rintro e wp ⟨rfl, hbn⟩; obtain ⟨hcn, hfn⟩ := bcell hbn; (try simp only [World.size_drew, World.cell?_drew, World.frozen?_drew, World.heap_drewN, World.cell?_drewN, World.frozen?_drewN] at hcn hfn); have hsz := hbn.size; (try simp at hsz); (try have hsl := Nat.lt_of_succ_le hsz); (try have hz0 : w.heap.size < wp.heap.size := (by have := hbn.size; (try simp at this); omega))))
  have HW := Lib.hid (own_lit2 wp 31 x y)
  have HB := Lib.hid hbn
  have y0 := hcn w.heap.size 0 (by simp)
  have y1 := hcn w.heap.size 1 (by simp)
  have yf := hfn w.heap.size 0 (by simp)
  have yg := hfn w.heap.size 1 (by simp)
  simp [go_sem] at y0 y1 yf yg
  clear hbn hcn hfn
  go_loopw [0, 5] (fun t0 l wr => ∃ (A R : List P2) (q : P2) (g cap a : Nat), Trv m w t0 R ∧ l = .slice (some ⟨g, 0, none⟩) a cap ∧ A.length = a ∧ Own wr g 31 2 a cap (Poly.fl A) ∧ A ++ (wayW q R).tail = wayW (x, y) L ∧ a + R.length = n + 1 ∧ w.heap.size < g ∧ wr.cell? ⟨w.heap.size, 0, none⟩ = some (.int .i64 q.1) ∧ wr.cell? ⟨w.heap.size, 1, none⟩ = some (.int .i64 q.2) ∧ wr.frozen? ⟨w.heap.size, 0, none⟩ = false ∧ wr.frozen? ⟨w.heap.size, 1, none⟩ = false ∧ Below w.heap.size w wr) (fun t0 l wr => n + 1 - slen l)
  case atStart =>
    refine ⟨[(x, y)], L, (x, y), wp.heap.size, 1, 1, ?_, rfl, rfl, HW.out, ?_, by rw [H.out.2]; omega, hsl, ?_, ?_, ?_, ?_, ?_⟩
    · exact H.out.1
    · cases L <;> rfl
    · simp [go_sem, y0, hsl]
    · simp [go_sem, y1, hsl]
    · simp [go_sem, yf, hsl]
    · simp [go_sem, yg, hsl]
    · have hbn := HB.out
      exact (by repeat (first | assumption | exact Below.refl _ _ | (refine below_chain ?_ (by assumption) (by first | omega | (simp <;> omega) | simp)) | (refine Below.alloc ?_ (by first | omega | (simp <;> omega) | simp) _) | (apply below_drewN) | (apply below_drew) | (refine Below.setCell ?_ (by first | omega | (simp <;> omega) | simp) _)))
  case round =>
    clear HW HB y0 y1 yf yg hsz hsl hz0
    obtain ⟨A, R, q, g, cap, a, hT, rfl, hA, hO, hE, hL, hg, c0, c1, cf, cg, hb⟩ := hrel
    have hs := hb.size
    have HR := Lib.hid (And.intro hO (And.intro hE (And.intro hA hL)))
    have hlg := hO.lt
    clear hO hE hA
    rcases hT.cases with ⟨rfl, rfl⟩ | ⟨s, R', b, c, t', rfl, hb1, hc1, rfl, d0, d1, d2, hT'⟩
    · have hq := neq_nil
      obtain rfl : a = n + 1 := by simpa using hL
      clear hL
      go_wp2_with fail
      go_ret
      have hE := HR.out.2.1
      rw [show (wayW q []).tail = [] from rfl, List.append_nil] at hE
      exact ⟨g, cap, rfl, by omega, by rw [← hE]; exact HR.out.1, hb⟩
    · have hq := neq_fn
      obtain ⟨q1, q2⟩ := q
      obtain ⟨z, hz⟩ : ∃ z, adW (q1, q2) s = z := ⟨_, rfl⟩
      have han : a ≤ n := by simp at hL; omega
      have HZ := Lib.hid hz
      have HT := Lib.hid hT'
      have c1' := fun w h0 h1 h2 => Lib.hid (iGoZ q1 q2 b c s z t' w hz h0 h1 h2)
      clear hz hL hT hT'
      simp only at c0 c1
      have hlt : w.heap.size < wr.heap.size := by omega
      have e0 := (hb.cell (p := ⟨c, 0, none⟩) (World.block_lt_of_cell? w _ d0)).trans d0
      have e1 := (hb.cell (p := ⟨c, 1, none⟩) (World.block_lt_of_cell? w _ d1)).trans d1
      have e2 := (hb.cell (p := ⟨b, 0, none⟩) (World.block_lt_of_cell? w _ d2)).trans d2
      clear d0 d1 d2
      go_wp2_with (first
        | ((go_at_call 134; (with_reducible refine ((c1' _ e0 e1 e2).out).mono ?_); rintro e w1 ⟨rfl, hb_w1⟩; have hs_w1 := hb_w1.size; (try simp at hs_w1)); obtain ⟨hc_w1, hf_w1⟩ := bcell hb_w1; have hz1 : w.heap.size < w1.heap.size := (by omega))
        | ((go_at_call 90; (with_reducible refine (point_any _ _ _).mono ?_); rintro e w2 ⟨rfl, hb_w2⟩; have hs_w2 := hb_w2.size; (try simp at hs_w2)); have HO := Lib.hid ((((HR.out.1.below hb_w1).put (B := w.heap.size) (o := 0) (by omega) (.int .i64 z.1)).put (B := w.heap.size) (o := 1) (by omega) (.int .i64 z.2)).below hb_w2))
        | (at_builtin; refine wp_append _ rfl _ _ 23 rfl 31 _ 2 16 Try.underlying23 info_point rfl (by decide) (by decide) g a cap (Poly.fl A) rfl (HO.out.alloc _) _ 1 1 [z.1, z.2] rfl rfl (two_cells _ _ _ _) (by omega) ?_; intro g' cap' w' hown hgr hloc hsz'; have HN := Lib.hid (And.intro hown (And.intro hgr hloc)); clear hown hgr hloc hsz'))
      obtain ⟨k0, k1, kf, kg⟩ := box2 ((hc_w1 _ 0 hlt).trans c0) ((hc_w1 _ 1 hlt).trans c1) hb_w2 HN.out.2.1 (by omega)
      have hE := HR.out.2.1
      rw [wayW_tail, HZ.out] at hE
      have hL := HR.out.2.2.2
      rw [List.length_cons] at hL
      have hm : g' = g ∨ w2.heap.size ≤ g' := HN.out.2.2.imp id (fun h => by simp at h; omega)
      refine ⟨⟨A ++ [z], R', z, g', cap', a + 1, HT.out, rfl, by rw [List.length_append, HR.out.2.2.1]; rfl, by rw [fl_append]; exact HN.out.1, by rw [List.append_assoc]; exact hE, by omega, by omega, k0, k1, by rw [kf, hf_w1 _ _ hlt]; exact cf, by rw [kg, hf_w1 _ _ hlt]; exact cg, ?_⟩, by simp only [slen]; omega⟩
      have h2 := hb.trans (hb_w1.mono hs)
      have h3 : Below w.heap.size w ((w1.setCell ⟨w.heap.size, 0, none⟩ (.int .i64 z.1)).setCell ⟨w.heap.size, 1, none⟩ (.int .i64 z.2)) := (h2.setCell (p := ⟨w.heap.size, 0, none⟩) (Nat.le_refl _) _).setCell (p := ⟨w.heap.size, 1, none⟩) (Nat.le_refl _) _
      have h4 := (h3.trans (hb_w2.mono (by simp; omega))).alloc (by omega) (.cells #[.int .i64 z.1, .int .i64 z.2] 31)
      exact h4.grown HN.out.2.1 (by simp; omega) (fun k e => by injection e with e; omega)

theorem two_cellsN (V : World) (n : Nat) (x y : Int) (T : TypeId) (h : V.heap.size = n) : ∀ (j : Nat) (z : Int), [x, y][j]? = some z → (V.alloc (.cells #[.int .i64 x, .int .i64 y] T)).cell? ((⟨n, 0, none⟩ : Addr).add j) = some (.int .i64 z) := by
  subst h; exact two_cells V x y T
theorem one_cellN (V : World) (n : Nat) (x : Int) (T : TypeId) (h : V.heap.size = n) : ∀ (j : Nat) (z : Int), [x][j]? = some z → (V.alloc (.cells #[.int .i64 x] T)).cell? ((⟨n, 0, none⟩ : Addr).add j) = some (.int .i64 z) := by
  subst h; intro j z hj; cases j with | zero => (injection hj with hj; subst hj; simp [go_sem, Addr.add]) | succ j => simp at hj
theorem info_place : (Try.prog.info? 84).map (fun i => (i.zero, i.size, i.bytes)) = some (some (.agg #[.int .i64 0, .int .i64 0]), 2, 16) := by kernel_rfl
theorem adW_zero {s : P2} (h : stP s = true) : adW (0, 0) s = s := by
  have := stP_bd h
  unfold adW wrap64
  obtain ⟨a, b⟩ := s
  simp only at *
  congr 1 <;> omega
set_option maxHeartbeats 4000000 in
set_option maxRecDepth 100000 in
theorem iTSteps (m n : Nat) (L : List P2) (t : Value) (w : World) (h : Trv m w t L) (hn : L.length = n) (h12 : n ≤ 1000) (hv : ∀ s ∈ L, stP s = true) :
    Calls Try.prog 118 #[t] w fun e w' => ∃ p cap, e = .returned (.slice p n cap) ∧ Ints w' p (Poly.fl L) ∧ Below w.heap.size w w' := by
  have H := Lib.hid (And.intro h (And.intro hn hv))
  clear h hn hv
  go_enter Try.func118, Try.ntmps118
  go_wp2_with fail
  go_loopw [0, 3] (fun t0 l wr => ∃ (A R : List P2) (p : Option Addr) (cap a : Nat), Trv m w t0 R ∧ l = .slice p a cap ∧ A.length = a ∧ ((a = 0 ∧ p = none ∧ cap = 0) ∨ ∃ g, p = some ⟨g, 0, none⟩ ∧ w.heap.size ≤ g ∧ Own wr g 84 2 a cap (Poly.fl A)) ∧ A ++ R = L ∧ Below w.heap.size w wr) (fun t0 l wr => n - slen l)
  case atStart => exact ⟨[], L, none, 0, 0, H.out.1, rfl, rfl, .inl ⟨rfl, rfl, rfl⟩, rfl, Below.refl _ _⟩
  case round =>
    obtain ⟨A, R, p, cap, a, hT, rfl, hA, hO, hE, hb⟩ := hrel
    have hs := hb.size
    have HR := Lib.hid (And.intro hE hA)
    have hL : a + R.length = n := by rw [← H.out.2.1, ← hE, List.length_append, hA]
    clear hE hA
    rcases hT.cases with ⟨rfl, rfl⟩ | ⟨s, R', b, c, t', rfl, hb1, hc1, rfl, d0, d1, d2, hT'⟩
    · have hq := neq_nil
      obtain rfl : a = n := by simpa using hL
      clear hL
      have HO := Lib.hid hO
      clear hO
      go_wp2_with fail
      go_ret
      have hE := HR.out.1
      rw [List.append_nil] at hE
      subst hE
      refine ⟨p, cap, rfl, ?_, hb⟩
      rcases HO.out with ⟨h0, rfl, -⟩ | ⟨g, rfl, -, ho⟩
      · refine .inl ?_
        have := HR.out.2
        rw [h0] at this
        rw [List.length_eq_zero_iff.1 this]; rfl
      · exact ho.pts
    · have hq := neq_fn
      have hsv : stP s = true := H.out.2.2 s (by rw [← HR.out.1]; simp)
      have hz : Hid (adW (0, 0) s = s) := Lib.hid (adW_zero hsv)
      have hE : Hid ((A ++ [s]) ++ R' = L) := Lib.hid (by rw [List.append_assoc]; exact HR.out.1)
      have han : a < n := by simp at hL; omega
      have HT := Lib.hid hT'
      have e0 := (hb.cell (p := ⟨c, 0, none⟩) (World.block_lt_of_cell? w _ d0)).trans d0
      have e1 := (hb.cell (p := ⟨c, 1, none⟩) (World.block_lt_of_cell? w _ d1)).trans d1
      have e2 := (hb.cell (p := ⟨b, 0, none⟩) (World.block_lt_of_cell? w _ d2)).trans d2
      have c1' := fun w h0 h1 h2 => Lib.hid (iGoZ 0 0 b c s s t' w hz.out h0 h1 h2)
      clear d0 d1 d2 hL hT hT'
      rcases hO with ⟨rfl, rfl, rfl⟩ | ⟨g, rfl, hg, ho⟩
      · go_wp2_with (first
          | ((go_at_call 134; (with_reducible refine ((c1' _ (cell_alloc_keep _ e0) (cell_alloc_keep _ e1) (cell_alloc_keep _ e2)).out).mono ?_); rintro e w1 ⟨rfl, hb_w1⟩; have hs_w1 := hb_w1.size; (try simp at hs_w1)); obtain ⟨hc_w1, hf_w1⟩ := bcell hb_w1; have hz1 : wr.heap.size < w1.heap.size := (by omega); have k0 : w1.cell? ⟨wr.heap.size, 0, none⟩ = some (.int .i64 0) := (by rw [hc_w1 _ _ (by simp)]; simp [go_sem]); have k1 : w1.cell? ⟨wr.heap.size, 1, none⟩ = some (.int .i64 0) := (by rw [hc_w1 _ _ (by simp)]; simp [go_sem]); have kf : w1.frozen? ⟨wr.heap.size, 0, none⟩ = false := (by rw [hf_w1 _ _ (by simp)]; simp [go_sem]); have kg : w1.frozen? ⟨wr.heap.size, 1, none⟩ = false := (by rw [hf_w1 _ _ (by simp)]; simp [go_sem]))
          | (at_builtin; refine wp_append_nil _ rfl _ _ 113 rfl 84 _ 2 16 Try.underlying113 info_place rfl (by decide) (by decide) rfl _ 1 1 [s.1, s.2] rfl (by decide) rfl (two_cellsN _ _ _ _ _ (by simp)) (by decide) ?_; intro cap' w' hown hbel hsz'; have HN := Lib.hid (And.intro hown hbel); clear hown hbel hsz'))
        have hb3 : Below w.heap.size w ((w1.setCell ⟨wr.heap.size, 0, none⟩ (.int .i64 s.1)).setCell ⟨wr.heap.size, 1, none⟩ (.int .i64 s.2)) :=
          (((hb.alloc hs (.cells #[.int .i64 0, .int .i64 0] 84)).trans (hb_w1.mono (by simp; omega))).setCell (p := ⟨wr.heap.size, 0, none⟩) hs _).setCell (p := ⟨wr.heap.size, 1, none⟩) hs _
        have hb4 := hb3.alloc (by simp; omega) (.cells #[.int .i64 s.1, .int .i64 s.2] 84)
        have hA : A = [] := List.length_eq_zero_iff.1 HR.out.2
        refine ⟨⟨[s], R', _, cap', 1, HT.out, rfl, rfl, .inr ⟨_, rfl, by omega, ?_⟩, ?_, hb4.trans (HN.out.2.mono (by simp; omega))⟩, by simp [slen]; omega⟩
        · have := HN.out.1
          simp only [World.size_alloc, World.size_setCell] at this
          exact this
        · have := hE.out
          rw [hA] at this
          exact this
      · have hgr : g < wr.heap.size := ho.lt
        have HG := Lib.hid ho
        clear ho
        go_wp2_with (first
          | ((go_at_call 134; (with_reducible refine ((c1' _ (cell_alloc_keep _ e0) (cell_alloc_keep _ e1) (cell_alloc_keep _ e2)).out).mono ?_); rintro e w1 ⟨rfl, hb_w1⟩; have hs_w1 := hb_w1.size; (try simp at hs_w1)); obtain ⟨hc_w1, hf_w1⟩ := bcell hb_w1; have hz1 : wr.heap.size < w1.heap.size := (by omega); have k0 : w1.cell? ⟨wr.heap.size, 0, none⟩ = some (.int .i64 0) := (by rw [hc_w1 _ _ (by simp)]; simp [go_sem]); have k1 : w1.cell? ⟨wr.heap.size, 1, none⟩ = some (.int .i64 0) := (by rw [hc_w1 _ _ (by simp)]; simp [go_sem]); have kf : w1.frozen? ⟨wr.heap.size, 0, none⟩ = false := (by rw [hf_w1 _ _ (by simp)]; simp [go_sem]); have kg : w1.frozen? ⟨wr.heap.size, 1, none⟩ = false := (by rw [hf_w1 _ _ (by simp)]; simp [go_sem]); have HP := Lib.hid ((((HG.out.alloc (.cells #[.int .i64 0, .int .i64 0] 84)).below hb_w1).put (B := wr.heap.size) (o := 0) (Nat.ne_of_lt hgr) (.int .i64 s.1)).put (B := wr.heap.size) (o := 1) (Nat.ne_of_lt hgr) (.int .i64 s.2)))
          | (at_builtin; refine wp_append _ rfl _ _ 113 rfl 84 _ 2 16 Try.underlying113 info_place rfl (by decide) (by decide) g a cap (Poly.fl A) rfl (HP.out.alloc _) _ 1 1 [s.1, s.2] rfl rfl (two_cellsN _ _ _ _ _ (by simp)) (by omega) ?_; intro g' cap' w' hown hgr hloc hsz'; have HN := Lib.hid (And.intro hown (And.intro hgr hloc)); clear hown hgr hloc hsz'))
        have hb3 : Below w.heap.size w ((w1.setCell ⟨wr.heap.size, 0, none⟩ (.int .i64 s.1)).setCell ⟨wr.heap.size, 1, none⟩ (.int .i64 s.2)) :=
          (((hb.alloc hs (.cells #[.int .i64 0, .int .i64 0] 84)).trans (hb_w1.mono (by simp; omega))).setCell (p := ⟨wr.heap.size, 0, none⟩) hs _).setCell (p := ⟨wr.heap.size, 1, none⟩) hs _
        have hb4 := hb3.alloc (by simp; omega) (.cells #[.int .i64 s.1, .int .i64 s.2] 84)
        have hm : w.heap.size ≤ g' := by
          rcases HN.out.2.2 with h | h
          · omega
          · simp at h; omega
        exact ⟨⟨A ++ [s], R', _, cap', a + 1, HT.out, rfl, by rw [List.length_append, HR.out.2]; rfl, .inr ⟨_, rfl, hm, by rw [fl_append]; exact HN.out.1⟩, hE.out, hb4.grown HN.out.2.1 (by simp; omega) (fun k e => by injection e with e; omega)⟩, by simp only [slen]; omega⟩

theorem take_map {f : P2 → Int} {L : List P2} {a : Nat} (h : a < L.length) : (L.map f).take (a + 1) = (L.map f).take a ++ [f (cy L a)] := by
  rw [List.take_add_one, List.getElem?_map, cy_lt h]; rfl
set_option maxHeartbeats 4000000 in
set_option maxRecDepth 100000 in
theorem iTCoord (m n : Nat) (ax : Int) (f : P2 → Int) (hf : (ax = 0 ∧ f = fun s => s.1) ∨ (ax = 1 ∧ f = fun s => s.2)) (L : List P2) (t : Value) (w : World) (h : Trv m w t L) (hn : L.length = n) (h12 : n ≤ 1000) (hv : ∀ s ∈ L, stP s = true) :
    Calls Try.prog 83 #[t, .int .i64 ax] w fun e w' => ∃ p cap, e = .returned (.slice p n cap) ∧ Ints w' p (L.map f) ∧ Below w.heap.size w w' := by
  have c1 := fun w h => Lib.hid (iTSteps m n L t w h hn h12 hv)
  have H := Lib.hid (And.intro h hn)
  have HF := Lib.hid hf
  clear h hn hv hf
  go_enter Try.func83, Try.ntmps83
  go_wp2_with ((go_at_call 118; (with_reducible refine ((c1 _ H.out.1).out).mono ?_); rintro e w1 ⟨q, cq, rfl, hq, hb_w1⟩; have hs_w1 := hb_w1.size; (try simp at hs_w1)))
  have HQ := Lib.hid (And.intro hq hb_w1)
  clear hq hb_w1 c1
  go_loopw [5, 11] (fun l i wr => ∃ (p : Option Addr) (cap a : Nat), a ≤ n ∧ i = .int .i64 a ∧ l = .slice p a cap ∧ ((a = 0 ∧ p = none ∧ cap = 0) ∨ ∃ g, p = some ⟨g, 0, none⟩ ∧ w1.heap.size ≤ g ∧ Own wr g 3 1 a cap ((L.map f).take a)) ∧ Below w1.heap.size w1 wr) (fun l i wr => n - (intOf i).toNat)
  case atStart => exact ⟨none, 0, 0, Nat.zero_le _, rfl, rfl, .inl ⟨rfl, rfl, rfl⟩, Below.refl _ _⟩
  case round =>
    obtain ⟨p, cap, a, ha, rfl, rfl, hO, hb⟩ := hrel
    have hs := hb.size
    by_cases hlt : a < n
    · have hlt' : (a : Int) < (n : Int) := by omega
      obtain ⟨B, o, rfl, hB, x0, x1⟩ := (HQ.out.1.below hb).pt (i := a) (by rw [H.out.2]; exact hlt)
      have hT : Hid ((L.map f).take (a + 1) = (L.map f).take a ++ [f (cy L a)]) := Lib.hid (take_map (by rw [H.out.2]; exact hlt))
      have hfv : Hid (ax = 0 ∧ f (cy L a) = (cy L a).1 ∨ ax = 1 ∧ f (cy L a) = (cy L a).2) := Lib.hid (HF.out.imp (fun h => ⟨h.1, by rw [h.2]⟩) (fun h => ⟨h.1, by rw [h.2]⟩))
      obtain ⟨v, hv⟩ : ∃ v, f (cy L a) = v := ⟨_, rfl⟩
      rw [hv] at hT hfv
      clear hv
      rcases hfv.out with ⟨rfl, rfl⟩ | ⟨rfl, rfl⟩ <;> clear hfv HF <;> rcases hO with ⟨rfl, rfl, rfl⟩ | ⟨g, rfl, hg, ho⟩
      · simp only [Nat.zero_mul, Nat.add_zero] at x0 x1
        have h00 : (0 : Int) < (n : Int) := by omega
        have HT := Lib.hid hT
        clear hlt' hT
        go_wp2_with (at_builtin; refine wp_append_nil _ rfl _ _ 46 rfl 3 _ 1 8 Try.underlying46 info_int rfl (by decide) (by decide) rfl _ 1 1 [(cy L 0).1] rfl (by decide) rfl (one_cellN _ _ _ _ (by simp)) (by decide) ?_; intro cap' w' hown hbel hsz'; have HN := Lib.hid (And.intro hown hbel); clear hown hbel hsz')
        have hb4 : Below w1.heap.size w1 ((wr.alloc (.cells #[.int .i64 (cy L 0).1, .int .i64 (cy L 0).2] 84)).alloc (.cells #[.int .i64 ((cy L 0).1)] 3)) := (hb.alloc hs _).alloc (by simp; omega) _
        refine ⟨⟨_, cap', 1, by omega, rfl, rfl, .inr ⟨_, rfl, by omega, ?_⟩, hb4.trans (HN.out.2.mono (by simp; omega))⟩, by simp [intOf]; omega⟩
        have := HN.out.1
        simp only [World.size_alloc] at this
        have hT := HT.out.out
        rw [List.take_zero, List.nil_append] at hT
        rw [show 1 = 0 + 1 from rfl, hT]
        exact this
      · have HG := Lib.hid ho
        have hgr : g < wr.heap.size := ho.lt
        have HT := Lib.hid hT
        clear ho hT
        go_wp2_with (at_builtin; refine wp_append _ rfl _ _ 46 rfl 3 _ 1 8 Try.underlying46 info_int rfl (by decide) (by decide) g a cap _ rfl ((HG.out.alloc _).alloc _) _ 1 1 [(cy L a).1] rfl rfl (one_cellN _ _ _ _ (by simp)) (by omega) ?_; intro g' cap' w' hown hgr' hloc hsz'; have HN := Lib.hid (And.intro hown (And.intro hgr' hloc)); clear hown hgr' hloc hsz')
        have hb4 : Below w1.heap.size w1 ((wr.alloc (.cells #[.int .i64 (cy L a).1, .int .i64 (cy L a).2] 84)).alloc (.cells #[.int .i64 ((cy L a).1)] 3)) := (hb.alloc hs _).alloc (by simp; omega) _
        have hm : w1.heap.size ≤ g' := by
          rcases HN.out.2.2 with h | h
          · omega
          · simp at h; omega
        exact ⟨⟨_, cap', a + 1, by omega, by go_num, rfl, .inr ⟨_, rfl, hm, by rw [HT.out.out]; exact HN.out.1⟩, hb4.grown HN.out.2.1 (by simp; omega) (fun k e => by injection e with e; omega)⟩, by simp [intOf]; omega⟩
      · simp only [Nat.zero_mul, Nat.add_zero] at x0 x1
        have h00 : (0 : Int) < (n : Int) := by omega
        have HT := Lib.hid hT
        clear hlt' hT
        go_wp2_with (at_builtin; refine wp_append_nil _ rfl _ _ 46 rfl 3 _ 1 8 Try.underlying46 info_int rfl (by decide) (by decide) rfl _ 1 1 [(cy L 0).2] rfl (by decide) rfl (one_cellN _ _ _ _ (by simp)) (by decide) ?_; intro cap' w' hown hbel hsz'; have HN := Lib.hid (And.intro hown hbel); clear hown hbel hsz')
        have hb4 : Below w1.heap.size w1 ((wr.alloc (.cells #[.int .i64 (cy L 0).1, .int .i64 (cy L 0).2] 84)).alloc (.cells #[.int .i64 ((cy L 0).2)] 3)) := (hb.alloc hs _).alloc (by simp; omega) _
        refine ⟨⟨_, cap', 1, by omega, rfl, rfl, .inr ⟨_, rfl, by omega, ?_⟩, hb4.trans (HN.out.2.mono (by simp; omega))⟩, by simp [intOf]; omega⟩
        have := HN.out.1
        simp only [World.size_alloc] at this
        have hT := HT.out.out
        rw [List.take_zero, List.nil_append] at hT
        rw [show 1 = 0 + 1 from rfl, hT]
        exact this
      · have HG := Lib.hid ho
        have hgr : g < wr.heap.size := ho.lt
        have HT := Lib.hid hT
        clear ho hT
        go_wp2_with (at_builtin; refine wp_append _ rfl _ _ 46 rfl 3 _ 1 8 Try.underlying46 info_int rfl (by decide) (by decide) g a cap _ rfl ((HG.out.alloc _).alloc _) _ 1 1 [(cy L a).2] rfl rfl (one_cellN _ _ _ _ (by simp)) (by omega) ?_; intro g' cap' w' hown hgr' hloc hsz'; have HN := Lib.hid (And.intro hown (And.intro hgr' hloc)); clear hown hgr' hloc hsz')
        have hb4 : Below w1.heap.size w1 ((wr.alloc (.cells #[.int .i64 (cy L a).1, .int .i64 (cy L a).2] 84)).alloc (.cells #[.int .i64 ((cy L a).2)] 3)) := (hb.alloc hs _).alloc (by simp; omega) _
        have hm : w1.heap.size ≤ g' := by
          rcases HN.out.2.2 with h | h
          · omega
          · simp at h; omega
        exact ⟨⟨_, cap', a + 1, by omega, by go_num, rfl, .inr ⟨_, rfl, hm, by rw [HT.out.out]; exact HN.out.1⟩, hb4.grown HN.out.2.1 (by simp; omega) (fun k e => by injection e with e; omega)⟩, by simp [intOf]; omega⟩
    · have e : a = n := by omega
      subst e
      have HO := Lib.hid hO
      clear hO
      go_wp2_with fail
      go_ret
      have hl : (L.map f).length = a := by rw [List.length_map]; exact H.out.2
      refine ⟨p, cap, rfl, ?_, HQ.out.2.trans (hb.mono (by have := HQ.out.2.size; omega))⟩
      rcases HO.out with ⟨h0, rfl, -⟩ | ⟨g, rfl, -, ho⟩
      · refine .inl (List.length_eq_zero_iff.1 (by omega))
      · rw [List.take_of_length_le (by omega)] at ho
        exact ho.ints
set_option maxHeartbeats 4000000 in
set_option maxRecDepth 100000 in
theorem iTLens (m n : Nat) (f : P2 → Int) (hf : f = absP) (L : List P2) (t : Value) (w : World) (h : Trv m w t L) (hn : L.length = n) (h12 : n ≤ 1000) (hv : ∀ s ∈ L, stP s = true) :
    Calls Try.prog 92 #[t] w fun e w' => ∃ p cap, e = .returned (.slice p n cap) ∧ Ints w' p (L.map f) ∧ Below w.heap.size w w' := by
  have c1 := fun w h => Lib.hid (iTSteps m n L t w h hn h12 hv)
  have H := Lib.hid (And.intro h hn)
  have HV := Lib.hid (And.intro hf hv)
  clear h hn hv hf
  go_enter Try.func92, Try.ntmps92
  go_wp2_with ((go_at_call 118; (with_reducible refine ((c1 _ H.out.1).out).mono ?_); rintro e w1 ⟨q, cq, rfl, hq, hb_w1⟩; have hs_w1 := hb_w1.size; (try simp at hs_w1)))
  have HQ := Lib.hid (And.intro hq hb_w1)
  clear hq hb_w1 c1
  go_loopw [3, 9] (fun l i wr => ∃ (p : Option Addr) (cap a : Nat), a ≤ n ∧ i = .int .i64 a ∧ l = .slice p a cap ∧ ((a = 0 ∧ p = none ∧ cap = 0) ∨ ∃ g, p = some ⟨g, 0, none⟩ ∧ w1.heap.size ≤ g ∧ Own wr g 3 1 a cap ((L.map f).take a)) ∧ Below w1.heap.size w1 wr) (fun l i wr => n - (intOf i).toNat)
  case atStart => exact ⟨none, 0, 0, Nat.zero_le _, rfl, rfl, .inl ⟨rfl, rfl, rfl⟩, Below.refl _ _⟩
  case round =>
    obtain ⟨p, cap, a, ha, rfl, rfl, hO, hb⟩ := hrel
    have hs := hb.size
    by_cases hlt : a < n
    · have hlt' : (a : Int) < (n : Int) := by omega
      obtain ⟨B, o, rfl, hB, x0, x1⟩ := (HQ.out.1.below hb).pt (i := a) (by rw [H.out.2]; exact hlt)
      have hsv := stP_bd (HV.out.2 (cy L a) (List.mem_of_getElem? (cy_lt (by rw [H.out.2]; exact hlt))))
      have hT : Hid ((L.map f).take (a + 1) = (L.map f).take a ++ [f (cy L a)]) := Lib.hid (take_map (by rw [H.out.2]; exact hlt))
      obtain ⟨h1, h2⟩ := hsv
      have hT2 : ∀ u v : Int, (u = -(cy L a).1 ∧ (cy L a).1 < -(cy L a).1 ∨ u = (cy L a).1 ∧ ¬ (cy L a).1 < -(cy L a).1) → (v = -(cy L a).2 ∧ (cy L a).2 < -(cy L a).2 ∨ v = (cy L a).2 ∧ ¬ (cy L a).2 < -(cy L a).2) → Hid ((L.map f).take (a + 1) = (L.map f).take a ++ [u + v]) := fun u v hu hv => by
        have : f (cy L a) = u + v := by rw [HV.out.1]; unfold absP; omega
        rw [← this]; exact hT
      by_cases g1 : (cy L a).1 < -(cy L a).1 <;> by_cases g2 : (cy L a).2 < -(cy L a).2
      · have hT3 := hT2 _ _ (.inl ⟨rfl, g1⟩) (.inl ⟨rfl, g2⟩)
        clear hT hT2
        rcases hO with ⟨rfl, rfl, rfl⟩ | ⟨g, rfl, hg, ho⟩
        · simp only [Nat.zero_mul, Nat.add_zero] at x0 x1
          have h00 : (0 : Int) < (n : Int) := by omega
          have HT := Lib.hid hT3
          clear hlt' hT3
          go_wp2_with (at_builtin; refine wp_append_nil _ rfl _ _ 46 rfl 3 _ 1 8 Try.underlying46 info_int rfl (by decide) (by decide) rfl _ 1 1 [-(cy L 0).1 + -(cy L 0).2] rfl (by decide) rfl (one_cellN _ _ _ _ (by simp)) (by decide) ?_; intro cap' w' hown hbel hsz'; have HN := Lib.hid (And.intro hown hbel); clear hown hbel hsz')
          have hb4 : Below w1.heap.size w1 ((wr.alloc (.cells #[.int .i64 (cy L 0).1, .int .i64 (cy L 0).2] 84)).alloc (.cells #[.int .i64 (-(cy L 0).1 + -(cy L 0).2)] 3)) := (hb.alloc hs _).alloc (by simp; omega) _
          refine ⟨⟨_, cap', 1, by omega, rfl, rfl, .inr ⟨_, rfl, by omega, ?_⟩, hb4.trans (HN.out.2.mono (by simp; omega))⟩, by simp [intOf]; omega⟩
          have := HN.out.1
          simp only [World.size_alloc] at this
          have hT := HT.out.out
          rw [List.take_zero, List.nil_append] at hT
          rw [show 1 = 0 + 1 from rfl, hT]
          exact this
        · have HG := Lib.hid ho
          have hgr : g < wr.heap.size := ho.lt
          have HT := Lib.hid hT3
          clear ho hT3
          go_wp2_with (at_builtin; refine wp_append _ rfl _ _ 46 rfl 3 _ 1 8 Try.underlying46 info_int rfl (by decide) (by decide) g a cap _ rfl ((HG.out.alloc _).alloc _) _ 1 1 [-(cy L a).1 + -(cy L a).2] rfl rfl (one_cellN _ _ _ _ (by simp)) (by omega) ?_; intro g' cap' w' hown hgr' hloc hsz'; have HN := Lib.hid (And.intro hown (And.intro hgr' hloc)); clear hown hgr' hloc hsz')
          have hb4 : Below w1.heap.size w1 ((wr.alloc (.cells #[.int .i64 (cy L a).1, .int .i64 (cy L a).2] 84)).alloc (.cells #[.int .i64 (-(cy L a).1 + -(cy L a).2)] 3)) := (hb.alloc hs _).alloc (by simp; omega) _
          have hm : w1.heap.size ≤ g' := by
            rcases HN.out.2.2 with h | h
            · omega
            · simp at h; omega
          exact ⟨⟨_, cap', a + 1, by omega, by go_num, rfl, .inr ⟨_, rfl, hm, by rw [HT.out.out]; exact HN.out.1⟩, hb4.grown HN.out.2.1 (by simp; omega) (fun k e => by injection e with e; omega)⟩, by simp [intOf]; omega⟩
      · have hT3 := hT2 _ _ (.inl ⟨rfl, g1⟩) (.inr ⟨rfl, g2⟩)
        clear hT hT2
        rcases hO with ⟨rfl, rfl, rfl⟩ | ⟨g, rfl, hg, ho⟩
        · simp only [Nat.zero_mul, Nat.add_zero] at x0 x1
          have h00 : (0 : Int) < (n : Int) := by omega
          have HT := Lib.hid hT3
          clear hlt' hT3
          go_wp2_with (at_builtin; refine wp_append_nil _ rfl _ _ 46 rfl 3 _ 1 8 Try.underlying46 info_int rfl (by decide) (by decide) rfl _ 1 1 [-(cy L 0).1 + (cy L 0).2] rfl (by decide) rfl (one_cellN _ _ _ _ (by simp)) (by decide) ?_; intro cap' w' hown hbel hsz'; have HN := Lib.hid (And.intro hown hbel); clear hown hbel hsz')
          have hb4 : Below w1.heap.size w1 ((wr.alloc (.cells #[.int .i64 (cy L 0).1, .int .i64 (cy L 0).2] 84)).alloc (.cells #[.int .i64 (-(cy L 0).1 + (cy L 0).2)] 3)) := (hb.alloc hs _).alloc (by simp; omega) _
          refine ⟨⟨_, cap', 1, by omega, rfl, rfl, .inr ⟨_, rfl, by omega, ?_⟩, hb4.trans (HN.out.2.mono (by simp; omega))⟩, by simp [intOf]; omega⟩
          have := HN.out.1
          simp only [World.size_alloc] at this
          have hT := HT.out.out
          rw [List.take_zero, List.nil_append] at hT
          rw [show 1 = 0 + 1 from rfl, hT]
          exact this
        · have HG := Lib.hid ho
          have hgr : g < wr.heap.size := ho.lt
          have HT := Lib.hid hT3
          clear ho hT3
          go_wp2_with (at_builtin; refine wp_append _ rfl _ _ 46 rfl 3 _ 1 8 Try.underlying46 info_int rfl (by decide) (by decide) g a cap _ rfl ((HG.out.alloc _).alloc _) _ 1 1 [-(cy L a).1 + (cy L a).2] rfl rfl (one_cellN _ _ _ _ (by simp)) (by omega) ?_; intro g' cap' w' hown hgr' hloc hsz'; have HN := Lib.hid (And.intro hown (And.intro hgr' hloc)); clear hown hgr' hloc hsz')
          have hb4 : Below w1.heap.size w1 ((wr.alloc (.cells #[.int .i64 (cy L a).1, .int .i64 (cy L a).2] 84)).alloc (.cells #[.int .i64 (-(cy L a).1 + (cy L a).2)] 3)) := (hb.alloc hs _).alloc (by simp; omega) _
          have hm : w1.heap.size ≤ g' := by
            rcases HN.out.2.2 with h | h
            · omega
            · simp at h; omega
          exact ⟨⟨_, cap', a + 1, by omega, by go_num, rfl, .inr ⟨_, rfl, hm, by rw [HT.out.out]; exact HN.out.1⟩, hb4.grown HN.out.2.1 (by simp; omega) (fun k e => by injection e with e; omega)⟩, by simp [intOf]; omega⟩
      · have hT3 := hT2 _ _ (.inr ⟨rfl, g1⟩) (.inl ⟨rfl, g2⟩)
        clear hT hT2
        rcases hO with ⟨rfl, rfl, rfl⟩ | ⟨g, rfl, hg, ho⟩
        · simp only [Nat.zero_mul, Nat.add_zero] at x0 x1
          have h00 : (0 : Int) < (n : Int) := by omega
          have HT := Lib.hid hT3
          clear hlt' hT3
          go_wp2_with (at_builtin; refine wp_append_nil _ rfl _ _ 46 rfl 3 _ 1 8 Try.underlying46 info_int rfl (by decide) (by decide) rfl _ 1 1 [(cy L 0).1 + -(cy L 0).2] rfl (by decide) rfl (one_cellN _ _ _ _ (by simp)) (by decide) ?_; intro cap' w' hown hbel hsz'; have HN := Lib.hid (And.intro hown hbel); clear hown hbel hsz')
          have hb4 : Below w1.heap.size w1 ((wr.alloc (.cells #[.int .i64 (cy L 0).1, .int .i64 (cy L 0).2] 84)).alloc (.cells #[.int .i64 ((cy L 0).1 + -(cy L 0).2)] 3)) := (hb.alloc hs _).alloc (by simp; omega) _
          refine ⟨⟨_, cap', 1, by omega, rfl, rfl, .inr ⟨_, rfl, by omega, ?_⟩, hb4.trans (HN.out.2.mono (by simp; omega))⟩, by simp [intOf]; omega⟩
          have := HN.out.1
          simp only [World.size_alloc] at this
          have hT := HT.out.out
          rw [List.take_zero, List.nil_append] at hT
          rw [show 1 = 0 + 1 from rfl, hT]
          exact this
        · have HG := Lib.hid ho
          have hgr : g < wr.heap.size := ho.lt
          have HT := Lib.hid hT3
          clear ho hT3
          go_wp2_with (at_builtin; refine wp_append _ rfl _ _ 46 rfl 3 _ 1 8 Try.underlying46 info_int rfl (by decide) (by decide) g a cap _ rfl ((HG.out.alloc _).alloc _) _ 1 1 [(cy L a).1 + -(cy L a).2] rfl rfl (one_cellN _ _ _ _ (by simp)) (by omega) ?_; intro g' cap' w' hown hgr' hloc hsz'; have HN := Lib.hid (And.intro hown (And.intro hgr' hloc)); clear hown hgr' hloc hsz')
          have hb4 : Below w1.heap.size w1 ((wr.alloc (.cells #[.int .i64 (cy L a).1, .int .i64 (cy L a).2] 84)).alloc (.cells #[.int .i64 ((cy L a).1 + -(cy L a).2)] 3)) := (hb.alloc hs _).alloc (by simp; omega) _
          have hm : w1.heap.size ≤ g' := by
            rcases HN.out.2.2 with h | h
            · omega
            · simp at h; omega
          exact ⟨⟨_, cap', a + 1, by omega, by go_num, rfl, .inr ⟨_, rfl, hm, by rw [HT.out.out]; exact HN.out.1⟩, hb4.grown HN.out.2.1 (by simp; omega) (fun k e => by injection e with e; omega)⟩, by simp [intOf]; omega⟩
      · have hT3 := hT2 _ _ (.inr ⟨rfl, g1⟩) (.inr ⟨rfl, g2⟩)
        clear hT hT2
        rcases hO with ⟨rfl, rfl, rfl⟩ | ⟨g, rfl, hg, ho⟩
        · simp only [Nat.zero_mul, Nat.add_zero] at x0 x1
          have h00 : (0 : Int) < (n : Int) := by omega
          have HT := Lib.hid hT3
          clear hlt' hT3
          go_wp2_with (at_builtin; refine wp_append_nil _ rfl _ _ 46 rfl 3 _ 1 8 Try.underlying46 info_int rfl (by decide) (by decide) rfl _ 1 1 [(cy L 0).1 + (cy L 0).2] rfl (by decide) rfl (one_cellN _ _ _ _ (by simp)) (by decide) ?_; intro cap' w' hown hbel hsz'; have HN := Lib.hid (And.intro hown hbel); clear hown hbel hsz')
          have hb4 : Below w1.heap.size w1 ((wr.alloc (.cells #[.int .i64 (cy L 0).1, .int .i64 (cy L 0).2] 84)).alloc (.cells #[.int .i64 ((cy L 0).1 + (cy L 0).2)] 3)) := (hb.alloc hs _).alloc (by simp; omega) _
          refine ⟨⟨_, cap', 1, by omega, rfl, rfl, .inr ⟨_, rfl, by omega, ?_⟩, hb4.trans (HN.out.2.mono (by simp; omega))⟩, by simp [intOf]; omega⟩
          have := HN.out.1
          simp only [World.size_alloc] at this
          have hT := HT.out.out
          rw [List.take_zero, List.nil_append] at hT
          rw [show 1 = 0 + 1 from rfl, hT]
          exact this
        · have HG := Lib.hid ho
          have hgr : g < wr.heap.size := ho.lt
          have HT := Lib.hid hT3
          clear ho hT3
          go_wp2_with (at_builtin; refine wp_append _ rfl _ _ 46 rfl 3 _ 1 8 Try.underlying46 info_int rfl (by decide) (by decide) g a cap _ rfl ((HG.out.alloc _).alloc _) _ 1 1 [(cy L a).1 + (cy L a).2] rfl rfl (one_cellN _ _ _ _ (by simp)) (by omega) ?_; intro g' cap' w' hown hgr' hloc hsz'; have HN := Lib.hid (And.intro hown (And.intro hgr' hloc)); clear hown hgr' hloc hsz')
          have hb4 : Below w1.heap.size w1 ((wr.alloc (.cells #[.int .i64 (cy L a).1, .int .i64 (cy L a).2] 84)).alloc (.cells #[.int .i64 ((cy L a).1 + (cy L a).2)] 3)) := (hb.alloc hs _).alloc (by simp; omega) _
          have hm : w1.heap.size ≤ g' := by
            rcases HN.out.2.2 with h | h
            · omega
            · simp at h; omega
          exact ⟨⟨_, cap', a + 1, by omega, by go_num, rfl, .inr ⟨_, rfl, hm, by rw [HT.out.out]; exact HN.out.1⟩, hb4.grown HN.out.2.1 (by simp; omega) (fun k e => by injection e with e; omega)⟩, by simp [intOf]; omega⟩
    · have e : a = n := by omega
      subst e
      have HO := Lib.hid hO
      clear hO
      go_wp2_with fail
      go_ret
      have hl : (L.map f).length = a := by rw [List.length_map]; exact H.out.2
      refine ⟨p, cap, rfl, ?_, HQ.out.2.trans (hb.mono (by have := HQ.out.2.size; omega))⟩
      rcases HO.out with ⟨h0, rfl, -⟩ | ⟨g, rfl, -, ho⟩
      · refine .inl (List.length_eq_zero_iff.1 (by omega))
      · rw [List.take_of_length_le (by omega)] at ho
        exact ho.ints
end Go.Proofs.Ytgncjpakclbegaa
