/-
  A loop over an iterator that yields lists in a block of its own and reads what it has laid between two rounds: what such an iterator gives, and the loop's law, where the body writes one block alone and always goes on. No function of the program is named.
  The list that stands behind a list of ascending indexes, and that all of them come so one behind the other. No function of the program is named.
  The program's step from one list of ascending indexes to the next.
  The program's iterator over all ascending lists of so many indexes.
  The program's iterator over all trees of a net.
  The program's TreeMany and TreeWeight.
  The program's TreeMany and TreeWeight, for any net; what trees weigh.
-/
import Derived.RangeFuncNested
import Derived.RangeFuncBound
import Derived.RangeFuncCalls
import Derived.RangeFuncLeaves
import Derived.RangeFuncBox
import Derived.Test.YtoaomjchaihkaaaDoorZa
import Derived.Test.YtoaomjchaihkaaaDoorZi
import Derived.Test.YtoaomjchaihkaaaDoorTv
import Derived.Shelf.Abstract
import Derived.Shelf.RegionOpen
import Derived.OwnWalkIn
import Derived.TacticsInMore
import Derived.LoopNIn
import Derived.LoopIn
namespace Go.Proofs.YtoaomjchaihkaaaDoor
open Go.RowKit
set_option linter.unusedVariables false

/-- what a round is given: a slice of ints in a block at or beyond b -/
def Elem (b : Nat) (W : World) (x : List Int) (v : Value) : Prop := ∃ B cap : Nat, v = .slice (some ⟨B, 0, none⟩) x.length cap ∧ b ≤ B ∧ B < W.heap.size ∧ Ints W (some ⟨B, 0, none⟩) x
/-- the iterator gives xs, whatever a body does that writes the block R alone -/
def Gives (P : Program) (R g : Nat) (lb : Array Value) (xs : List (List Int)) (w : World) : Prop :=
  ∀ (l : Nat) (J : List (List Int) → World → Prop) (W : World), Below w.heap.size w W → (∀ s A A', J s A → Below W.heap.size A A' → J s A') →
    (∀ pre x v W1, J pre W1 → Elem W.heap.size W1 x v → W.heap.size ≤ W1.heap.size → pre ++ [x] <+: xs → ∀ n, YieldAt Fence.wide n P l #[v] W1 fun e W' => e = .returned (.bool true) ∧ J (pre ++ [x]) W' ∧ W1.grownBy W' (some R)) →
    J [] W → ∀ n, CallsIn Fence.wide n P g (#[.func (.yield l) #[] #[]] ++ lb) W fun e W' => (∃ u, e = .returned u) ∧ J xs W' ∧ W.grownBy W' (some R)
/-- how a round is left -/
def onPost (R : Nat) (I : List (List Int) → World → Prop) (xs : List (List Int)) (W : World) : Exit → Act → World → Prop
  | .normal, _, W' => W.grownBy W' (some R) ∧ I xs W'
  | .ret, _, _ => False
  | .exit _, _, _ => False
  | .goto _, _, _ => False
  | .panic _, _, _ => False
  | .outgrown, _, _ => False
theorem round_any {m m' : Nat} {P : Program} {l : Nat} {f : FuncId} {tmps : Array Value} {assign body : Code} {w : World} {R : Ending → World → Prop}
    (h : RoundIn Fence.wide m P l f tmps assign body w R) : RoundIn Fence.wide m' P l f tmps assign body w R := ⟨h.1, fun c cs _ => h.2 c cs (room_wide _)⟩
theorem calls_any {m m' : Nat} {P : Program} {f : FuncId} {args : Array Value} {w : World} {R : Ending → World → Prop} (h : CallsIn Fence.wide m P f args w R) : CallsIn Fence.wide m' P f args w R := ⟨h.1, fun cs _ => h.2 cs (room_wide _)⟩
theorem grown_trans {a b c : World} {g : Nat} (h : a.grownBy b (some g)) (k : b.grownBy c (some g)) : a.grownBy c (some g) := ⟨k.os.trans h.os, k.tape.trans h.tape, k.output.trans h.output, Nat.le_trans h.size k.size, fun i hi hn => (k.block i (Nat.lt_of_lt_of_le hi h.size) hn).trans (h.block i hi hn)⟩
theorem grown_below {w w' : World} {g : Nat} (h : Below w.heap.size w w') : w.grownBy w' (some g) := ⟨h.os, h.tape, h.output, h.size, fun k hk _ => h.block k hk⟩
theorem below_put {B : Nat} (W : World) (l : Nat) (o : Obj) (h : B ≤ l) : Below B W (W.putObj l o) := ⟨rfl, rfl, rfl, by simp, fun k hk => World.putObj_heap_other (by omega)⟩

theorem wpIn_rangeFunc_on {P : Program} {n R : Nat} {g : Operand} {p : Tmp} {assign body : Code} {Q : Exit → Act → World → Prop} {a : Act} {w : World}
    {gf : Nat} {lb : Array Value} (hg : a.eval g = .func (.func gf) #[] lb) (eg : ∀ args w, (callFunc gf args).run P w = .ok (.enter gf args) w)
    {xs : List (List Int)} (hseq : Gives P R gf lb xs w) (hR : R < w.heap.size)
    (I : List (List Int) → World → Prop) (hI : ∀ s A A', I s A → Below w.heap.size A A' → I s A') (h0 : I [] w) (a₁ : Value → Act)
    (hassign : ∀ (l : Nat) (v : Value) (W : World) (K : Act → World → Prop), K (a₁ v) W →
      assign.wpIn (Fence.wide.inRound l) (n - 1 - 1) P (Exit.then K (fun _ _ _ => False)) { tmps := a.tmps.setIfInBounds p v, defers := [] } W)
    (hbody : ∀ (l : Nat) (pre : List (List Int)) (x : List Int) (v : Value) (W : World), I pre W → Elem w.heap.size W x v → w.heap.size ≤ W.heap.size → pre ++ [x] <+: xs → body.wpIn (Fence.wide.inRound l) (n - 1 - 1) P (onPost R I (pre ++ [x]) W) (a₁ v) W)
    (hdone : ∀ (D : Nat) (W : World), w.heap.size ≤ D → I xs W → W.heap[D]? = some (.deferred (some [])) → w.grownBy W (some R) → Q .normal { a with defers := { target := .collected D, args := #[] } :: a.defers } W) :
    (Code.rangeFunc g #[p] assign body).wpIn Fence.wide n P Q a w := by
  refine wpIn_rangeFunc ?_
  intro fn hfn
  obtain ⟨rec, hrec⟩ : ∃ rec : LoopState → Option Code → Loop, rec = fun st pe => { state := st, pending := pe, fn, tmps := a.tmps, params := #[p], assign, body, defers := w.heap.size } := ⟨_, rfl⟩
  obtain ⟨W1, hW1⟩ : ∃ W1, (w.alloc (.deferred (some []))).alloc (.loop (rec .ready none)) = W1 := ⟨_, rfl⟩
  have hL1 : W1.heap[w.heap.size + 1]? = some (.loop (rec .ready none)) := by
    rw [← hW1]; have := World.alloc_heap_new (w.alloc (.deferred (some []))) (.loop (rec .ready none)); rwa [World.size_alloc] at this
  have hK1 : W1.heap[w.heap.size]? = some (.deferred (some [])) := by
    rw [← hW1]; exact (Below.heap_alloc _ _ _ (by simp)).trans (World.alloc_heap_new w _)
  have hb1 : Below w.heap.size w W1 := by rw [← hW1]; exact ((Below.refl _ w).alloc (Nat.le_refl _) _).alloc (by simp) _
  have hs1 : W1.heap.size = w.heap.size + 2 := by rw [← hW1]; simp
  have hI1 : I [] W1 := hI _ _ _ h0 hb1
  refine ⟨w.heap.size + 1, [{ target := .collected w.heap.size, args := #[] }], W1, { target := .fn (.func gf) lb, args := #[.func (.yield (w.heap.size + 1)) #[] #[]] }, W1, gf,
    #[.func (.yield (w.heap.size + 1)) #[] #[]] ++ lb, W1, ?_, ?_, ?_, ?_, ?_, ?_⟩
  · rw [← hW1, hrec]; exact run_enterLoop_outer _ _ _ _ _
  · simp only [resolve, hg]
    simp [go_sem]
  · intro f' hf'; trivial
  · simp [invoke, go_sem, eg]
  · intro h; simp [Fence.wide] at h
  · refine (hseq (w.heap.size + 1)
      (fun pre W => I pre W ∧ W.heap[w.heap.size + 1]? = some (.loop (rec .ready none)) ∧ W.heap[w.heap.size]? = some (.deferred (some [])))
      W1 hb1
      (fun s A A' hs hb => ⟨hI s A A' hs.1 (hb.mono (by omega)), (hb.block _ (by omega)).trans hs.2.1, (hb.block _ (by omega)).trans hs.2.2⟩)
      ?_ ⟨hI1, hL1, hK1⟩ (n - 1)).mono ?_
    · -- one round
      rintro pre x v W ⟨hi, hl, hk⟩ ⟨B, cap, rfl, hB1, hB2, hBi⟩ hsW hxm n'
      have hlt : w.heap.size + 1 < W.heap.size := (Array.getElem?_eq_some_iff.1 hl).1
      have hy := run_yield (P := P) (args := #[Value.slice (some ⟨B, 0, none⟩) x.length cap]) hl (by rw [hrec]; rfl)
      rw [hrec] at hy
      refine ⟨fn, _, assign, body, hy, round_any (m := n - 1 - 1) (roundIn_of_wpIn hfn ?_)⟩
      have hz : ∀ (t : Array Value) (v : Value), ((#[p] : Array Tmp).zip #[v]).foldl (fun t (p, v) => t.setIfInBounds p v) t = t.setIfInBounds p v := fun t v => by simp
      dsimp only
      rw [hz]
      refine hassign _ (.slice (some ⟨B, 0, none⟩) x.length cap) W _ ⟨_, run_beginRound hl (by rw [hrec]), ?_⟩
      obtain ⟨W2, hW2⟩ : ∃ W2, W.putObj (w.heap.size + 1) (.loop { rec .ready none with state := .busy }) = W2 := ⟨_, rfl⟩
      have hl2 : W2.heap[w.heap.size + 1]? = some (.loop { rec .ready none with state := .busy }) := by rw [← hW2]; exact World.putObj_heap_same hlt
      have hb2 : Below w.heap.size W W2 := by rw [← hW2]; exact below_put _ _ _ (by omega)
      have hs2 : W2.heap.size = W.heap.size := by rw [← hW2]; simp
      have ho2 : ∀ k, k ≠ w.heap.size + 1 → W2.heap[k]? = W.heap[k]? := fun k hk => by rw [← hW2]; exact World.putObj_heap_other hk
      rw [hW2]
      have hE : Elem w.heap.size W2 x (.slice (some ⟨B, 0, none⟩) x.length cap) := ⟨B, cap, rfl, by omega, by omega, hBi.keep (fun B' o' e => by cases e; exact ho2 _ (by omega)) (by omega)⟩
      refine wpIn_mono (hbody _ pre x _ W2 (hI _ _ _ hi hb2) hE (by omega) hxm) ?_
      rintro e a3 W3 hp
      cases e with
      | normal =>
        obtain ⟨hg3, hi3⟩ := hp
        have hl3 : W3.heap[w.heap.size + 1]? = some (.loop { rec .ready none with state := .busy }) := (hg3.block _ (by omega) (by simp; omega)).trans hl2
        have hr := run_endRound (P := P) none hl3
        have hs3 := hg3.size
        have hs4 : w.heap.size + 1 < W3.heap.size := by omega
        refine ⟨_, _, hr, rfl, ⟨hI _ _ _ hi3 (below_put _ _ _ (by omega)), ?_, ?_⟩, ?_⟩
        · rw [World.putObj_heap_same hs4, hrec]; rfl
        · exact (World.putObj_heap_other (by omega)).trans ((hg3.block _ (by omega) (by simp; omega)).trans ((ho2 _ (by omega)).trans hk))
        · refine ⟨hg3.os.trans hb2.os, hg3.tape.trans hb2.tape, hg3.output.trans hb2.output, by simp; omega, fun k hk' hn => ?_⟩
          by_cases e : k = w.heap.size + 1
          · subst e
            rw [World.putObj_heap_same hs4, hl, hrec]; rfl
          · exact (World.putObj_heap_other e).trans ((hg3.block k (by omega) hn).trans (ho2 k e))
      | ret => exact hp.elim
      | exit id => exact hp.elim
      | goto t => exact hp.elim
      | panic ch => exact hp.elim
      | outgrown => exact hp.elim
    · -- behind the iterator
      rintro e W2 ⟨⟨v, rfl⟩, ⟨hi, hl, hk⟩, hgr⟩
      have hs2 := hgr.size
      refine ⟨none, _, by have := run_endLoop (P := P) hl (by rw [hrec]; simp); rw [hrec] at this; exact this, hdone _ _ (Nat.le_refl _) (hI _ _ _ hi (below_put _ _ _ (by omega))) ((World.putObj_heap_other (by omega)).trans hk) ?_⟩
      exact ⟨hgr.os.trans hb1.os, hgr.tape.trans hb1.tape, hgr.output.trans hb1.output, by simp; omega, fun k hk' hn => (World.putObj_heap_other (by omega)).trans ((hgr.block k (by omega) hn).trans (hb1.block k hk'))⟩
end Go.Proofs.YtoaomjchaihkaaaDoor
namespace Go.Proofs.YtoaomjchaihkaaaDoor
set_option linter.unusedVariables false

/-- a, a + 1, .. -/
def upF (a : Int) (n : Nat) : List Int := (List.range n).map (fun i : Nat => a + (i : Int))
theorem upF_len (a : Int) (n : Nat) : (upF a n).length = n := by simp [upF]
theorem upF_at {a : Int} {n i : Nat} (h : i < n) : (upF a n)[i]? = some (a + (i : Int)) := by simp [upF, h]
theorem upF_cons (a : Int) (n : Nat) : upF a (n + 1) = a :: upF (a + 1) n := by
  unfold upF
  rw [List.range_succ_eq_map]
  simp only [List.map_cons, List.map_map]
  congr 1
  · simp
  · exact List.map_congr_left (fun i _ => by simp; omega)
theorem upF_snoc (a : Int) (n : Nat) : upF a (n + 1) = upF a n ++ [a + (n : Int)] := by
  unfold upF; rw [List.range_succ]; simp
/-- the next list of as many indexes below m -/
def nxt (m : Nat) : List Int → Option (List Int)
  | [] => none
  | a :: t => match nxt m t with
    | some u => some (a :: u)
    | none => if a + (t.length : Int) + 1 < (m : Int) then some (upF (a + 1) (t.length + 1)) else none
theorem nxt_len {m : Nat} : ∀ {x y : List Int}, nxt m x = some y → y.length = x.length
  | [], y, h => by simp [nxt] at h
  | a :: t, y, h => by
    unfold nxt at h
    cases e : nxt m t with
    | some u => rw [e] at h; simp at h; subst h; simp [nxt_len e]
    | none =>
      rw [e] at h
      simp only at h
      split at h
      · simp at h; subst h; simp [upF_len]
      · cases h
/-- the lists come one behind the other, from x on -/
inductive Seq (m : Nat) : List Int → List (List Int) → Prop
  | one {x : List Int} (h : nxt m x = none) : Seq m x [x]
  | more {x y : List Int} {L : List (List Int)} (h : nxt m x = some y) (r : Seq m y L) : Seq m x (x :: L)
theorem Seq.head {m : Nat} {x : List Int} {L : List (List Int)} (h : Seq m x L) : ∃ R, L = x :: R := by
  cases h
  · exact ⟨_, rfl⟩
  · exact ⟨_, rfl⟩
theorem Seq.stop {m : Nat} {a : Int} {d : Nat} (hno : ¬ a + (d : Int) + 1 < (m : Int)) {x : List Int} {L : List (List Int)} (h : Seq m x L) : x.length = d → Seq m (a :: x) (L.map (a :: ·)) := by
  induction h with
  | one h => intro hl; refine .one ?_; unfold nxt; rw [h]; simp only [hl]; rw [if_neg hno]
  | more h r ih => intro hl; exact .more (by unfold nxt; rw [h]) (ih (by rw [nxt_len h]; exact hl))
theorem Seq.on {m : Nat} {a : Int} {d : Nat} (hyes : a + (d : Int) + 1 < (m : Int)) {L2 : List (List Int)} (h2 : Seq m (upF (a + 1) (d + 1)) L2) {x : List Int} {L : List (List Int)} (h : Seq m x L) : x.length = d → Seq m (a :: x) (L.map (a :: ·) ++ L2) := by
  induction h with
  | one h => intro hl; refine .more (y := upF (a + 1) (d + 1)) ?_ h2; unfold nxt; rw [h]; simp only [hl]; rw [if_pos hyes]
  | more h r ih => intro hl; exact .more (by unfold nxt; rw [h]) (ih (by rw [nxt_len h]; exact hl))
theorem ext_step {m d b : Nat} (h : b < m) : ext m (d + 1) b = (ext m d (b + 1)).map ((b : Int) :: ·) ++ ext m (d + 1) (b + 1) := by
  simp only [ext]
  obtain ⟨n, hn⟩ : ∃ n, m - b = n + 1 := ⟨m - b - 1, by omega⟩
  rw [hn, List.range'_succ, List.flatMap_cons, show m - (b + 1) = n by omega]
theorem ext_none {m : Nat} : ∀ {d b : Nat}, m < b + (d + 1) → ext m (d + 1) b = [] := by
  intro d b h
  apply List.eq_nil_iff_forall_not_mem.2
  intro T hT
  obtain ⟨h1, h2, h3⟩ := mem_ext.1 hT
  have key : ∀ (i : Nat) (z : Int), T[i]? = some z → (b : Int) + i ≤ z := by
    intro i
    induction i with
    | zero => intro z hz; have := h3 z (List.mem_of_getElem? hz); omega
    | succ i ih =>
      intro z hz
      have hi := (List.getElem?_eq_some_iff.1 hz).1
      have := ih _ (List.getElem?_eq_getElem (by omega))
      have := h2.get (List.getElem?_eq_getElem (by omega : i < T.length)) hz (by omega)
      omega
  have hz := List.getElem?_eq_getElem (by omega : d < T.length)
  have := key d _ hz
  have := (h2.rng _ (List.mem_of_getElem? hz)).2
  omega
theorem ext_seq {m : Nat} : ∀ (d b : Nat), b + d ≤ m → Seq m (upF b d) (ext m d b) := by
  intro d
  induction d with
  | zero => intro b _; exact .one rfl
  | succ d ih =>
    have key : ∀ (e b : Nat), b + (d + 1) + e = m → Seq m (upF b (d + 1)) (ext m (d + 1) b) := by
      intro e
      induction e with
      | zero =>
        intro b hb
        rw [ext_step (by omega), ext_none (b := b + 1) (by omega), List.append_nil, upF_cons]
        refine Seq.stop (d := d) (by omega) ?_ (upF_len _ _)
        have := ih (b + 1) (by omega)
        rwa [Int.natCast_add] at this
      | succ e ihe =>
        intro b hb
        rw [ext_step (by omega), upF_cons]
        have h1 := ih (b + 1) (by omega)
        have h2 := ihe (b + 1) (by omega)
        rw [Int.natCast_add] at h1 h2
        exact Seq.on (d := d) (by omega) h2 h1 (upF_len _ _)
    intro b hb
    exact key (m - (b + (d + 1))) b (by omega)
/-- what is found from behind -/
def room (m : Nat) (x : List Int) (i : Nat) (z : Int) : Prop := z < (m : Int) - (x.length : Int) + (i : Int)
theorem nxt_none {m : Nat} : ∀ {x : List Int}, (∀ (j : Nat) (z : Int), x[j]? = some z → ¬ room m x j z) → nxt m x = none
  | [], _ => rfl
  | a :: t, h => by
    have ht : nxt m t = none := nxt_none (fun j z hz hr => h (j + 1) z (by simpa using hz) (by unfold room at *; simp; omega))
    have h0 := h 0 a rfl
    unfold nxt
    rw [ht]
    simp only
    rw [if_neg (by unfold room at h0; simp at h0; omega)]
theorem nxt_some {m : Nat} : ∀ {x : List Int} {i : Nat} {z : Int}, x[i]? = some z → room m x i z → (∀ (j : Nat) (y : Int), i < j → x[j]? = some y → ¬ room m x j y) → nxt m x = some (x.take i ++ upF (z + 1) (x.length - i))
  | [], i, z, hz, _, _ => by simp at hz
  | a :: t, 0, z, hz, hr, h => by
    simp at hz; subst hz
    have ht : nxt m t = none := nxt_none (fun j z hz hr => h (j + 1) z (by omega) (by simpa using hz) (by unfold room at *; simp; omega))
    unfold nxt
    rw [ht]
    simp only
    rw [if_pos (by unfold room at hr; simp at hr; omega)]
    simp
  | a :: t, i + 1, z, hz, hr, h => by
    have ht := nxt_some (m := m) (x := t) (i := i) (z := z) (by simpa using hz) (by unfold room at *; simp at hr; omega) (fun j y hj hy hr' => h (j + 1) y (by omega) (by simpa using hy) (by unfold room at *; simp; omega))
    unfold nxt
    rw [ht]
    simp
end Go.Proofs.YtoaomjchaihkaaaDoor
namespace Go.Proofs.YtoaomjchaihkaaaDoor
open Go.RowKit
set_option linter.unusedVariables false

/-- from the index i on up to q: z + 1, z + 2, .. -/
def adv (x : List Int) (i : Nat) (z : Int) (q : Nat) : List Int := x.take i ++ upF (z + 1) (q - i) ++ x.drop q
section
variable {x : List Int} {i q : Nat} {z : Int}
theorem adv_len (hi : i ≤ q) (hq : q ≤ x.length) : (adv x i z q).length = x.length := by
  unfold adv; simp [upF_len]; omega
theorem adv_one (hz : x[i]? = some z) : x.set i (z + 1) = adv x i z (i + 1) := by
  have hl := (List.getElem?_eq_some_iff.1 hz).1
  unfold adv
  rw [show i + 1 - i = 1 by omega, List.set_eq_take_append_cons_drop, if_pos hl]
  simp [upF]
theorem adv_at (hi : i < q) (hq : q ≤ x.length) : (adv x i z q)[q - 1]? = some (z + ((q - i : Nat) : Int)) := by
  unfold adv
  rw [List.append_assoc, List.getElem?_append_right (by simp; omega), List.getElem?_append_left (by simp [upF_len]; omega)]
  simp only [List.length_take]
  rw [show q - 1 - min i x.length = q - i - 1 by omega, upF_at (by omega)]
  congr 1; omega
theorem adv_set (hi : i < q) (hq : q < x.length) : (adv x i z q).set q (z + ((q - i : Nat) : Int) + 1) = adv x i z (q + 1) := by
  unfold adv
  rw [List.set_append_right _ _ (by simp [upF_len]; omega), show q + 1 - i = (q - i) + 1 by omega, upF_snoc]
  simp only [List.length_append, List.length_take, upF_len]
  rw [show q - (min i x.length + (q - i)) = 0 by omega]
  simp
  have h1 : z + ((q - i : Nat) : Int) + 1 = z + 1 + ((q - i : Nat) : Int) := by omega
  rw [h1]
  have h2 := List.drop_eq_getElem_cons hq
  rw [h2]; rfl
theorem adv_all (hi : i ≤ x.length) : adv x i z x.length = x.take i ++ upF (z + 1) (x.length - i) := by
  unfold adv; simp
end

set_option maxHeartbeats 2000000 in
theorem iAdvance (g d m : Nat) (x : List Int) (w : World) (ho : Own w g 3 1 d d x) (hd : d ≤ 16) (hm : m ≤ 16) (hx : ∀ z ∈ x, 0 ≤ z ∧ z < 16) (b : Bool) (y : List Int) (hb : (b = true ∧ nxt m x = some y) ∨ (b = false ∧ nxt m x = none)) :
    Calls Tryd.prog 120 #[.slice (some ⟨g, 0, none⟩) d d, .int .i64 m] w fun e w' => e = .returned (.bool b) ∧ (b = true → Own w' g 3 1 d d y) ∧ w.grownBy w' (some g) := by
  have hxl : x.length = d := by have := ho.len; omega
  have H := Lib.hid (And.intro ho (And.intro hxl (And.intro hx hb)))
  clear ho hxl hx hb
  go_enter Tryd.func120, Tryd.ntmps120
  go_wp2_with fail
  go_loopw [5] (fun i wr => ∃ j : Nat, j ≤ d ∧ i = .int .i64 ((j : Int) - 1) ∧ (∀ (q : Nat) (z : Int), j ≤ q → x[q]? = some z → ¬ room m x q z) ∧ w = wr) (fun i _ => (intOf i + 1).toNat)
  case atStart => exact ⟨d, Nat.le_refl _, rfl, fun q z hq hz => by have := (List.getElem?_eq_some_iff.1 hz).1; have := H.out.2.1; omega, rfl⟩
  case round =>
    obtain ⟨j, hj, rfl, hno, rfl⟩ := hrel
    have HN := Lib.hid hno
    clear hno
    by_cases hj0 : j = 0
    · subst hj0
      have hf : Hid (b = false) := Lib.hid (by
        rcases H.out.2.2.2 with ⟨-, h⟩ | ⟨h, -⟩
        · rw [nxt_none (fun q z hz => HN.out q z (Nat.zero_le _) hz)] at h; cases h
        · exact h)
      go_wp2_with fail
      go_ret
      exact ⟨ret_bool hf.out.symm, fun h => (by rw [hf.out] at h; cases h), (grew.refl w g).1⟩
    · obtain ⟨i, rfl⟩ : ∃ i, j = i + 1 := ⟨j - 1, by omega⟩
      obtain ⟨z, hz⟩ : ∃ z, x[i]? = some z := ⟨_, List.getElem?_eq_getElem (by have := H.out.2.1; omega)⟩
      obtain ⟨z0, z1⟩ := H.out.2.2.1 z (List.mem_of_getElem? hz)
      have e0 := H.out.1.cells hz
      have f0 := H.out.1.frozen i
      have hlo := H.out.1.lt
      have hii : ((i + 1 : Nat) : Int) - 1 = (i : Int) := by omega
      have hid : (i : Int) < (d : Int) := by omega
      have hi0 : (0 : Int) ≤ (i : Int) := by omega
      rw [hii]
      have HZ := Lib.hid hz
      by_cases hr : (m : Int) - (d : Int) + (i : Int) ≤ z
      · clear hz hii
        go_wp2_with fail
        go_roundw
        case rel => exact ⟨i, by omega, by go_num, fun q y hq hy => (by
          by_cases e : q = i
          · subst e
            have := HZ.out
            rw [hy] at this; cases this
            unfold room; rw [H.out.2.1]; omega
          · exact HN.out q y (by omega) hy), by first | trivial | rfl⟩
        case measure => simp [intOf] <;> omega
      · have hr' : z < (m : Int) - (d : Int) + (i : Int) := by omega
        have hy : Hid (b = true ∧ y = adv x i z d) := Lib.hid (by
          have hn := nxt_some (m := m) hz (by unfold room; rw [H.out.2.1]; exact hr') (fun q y' hq hy' => HN.out q y' (by omega) hy')
          rcases H.out.2.2.2 with ⟨h1, h⟩ | ⟨-, h⟩
          · rw [hn] at h
            refine ⟨h1, ?_⟩
            have := H.out.2.1
            rw [← this, adv_all (by omega)]
            simpa using h.symm
          · rw [hn] at h; cases h)
        have HO1 := Lib.hid (by have := H.out.1.set i (z + 1) (by have := H.out.2.1; omega); rw [adv_one hz] at this; exact this)
        clear hz hii
        go_wp2_with fail
        go_loopw [6] (fun u wr => ∃ q : Nat, i < q ∧ q ≤ d ∧ u = .int .i64 q ∧ Own wr g 3 1 d d (adv x i z q) ∧ w.grownBy wr (some g)) (fun u _ => d - (intOf u).toNat)
        case atStart => exact ⟨i + 1, by omega, by omega, by go_num, HO1.out, grew_set _ _ _ _⟩
        case round =>
          clear HO1 e0 f0 hlo
          rename World => wq
          obtain ⟨q, hiq, hqd, rfl, how, hgr⟩ := hrel
          have HO := Lib.hid (And.intro how hgr)
          by_cases hq : q < d
          · have hxl := H.out.2.1
            have e1 := how.cells (adv_at (x := x) (z := z) hiq (by omega))
            obtain ⟨v, hv⟩ : ∃ v, (adv x i z q)[q]? = some v := ⟨_, List.getElem?_eq_getElem (by rw [adv_len (by omega) (by omega)]; omega)⟩
            have e2 := how.cells hv
            have f2 := how.frozen q
            have hlo := how.lt
            have hq1 : (q : Int) - 1 = ((q - 1 : Nat) : Int) := by omega
            have hq2 : ((q - 1 : Nat) : Int) < (d : Int) := by omega
            have hS := Lib.hid (adv_set (x := x) (z := z) (i := i) (q := q) hiq (by omega))
            obtain ⟨s, hs⟩ : ∃ s : Int, z + ((q - i : Nat) : Int) = s := ⟨_, rfl⟩
            have hs0 : 0 ≤ s ∧ s ≤ 100 := by omega
            have HS := Lib.hid hs
            rw [hs] at e1
            clear how hgr hv hs hxl
            go_wp2_with fail
            go_roundw
            case rel => exact ⟨q + 1, by omega, by omega, by go_num, by rw [← hS.out, HS.out]; exact HO.out.1.set q _ (by have := H.out.2.1; rw [adv_len (by omega) (by omega)]; omega), grew_trans HO.out.2 (grew_set _ _ _ _)⟩
            case measure => simp [intOf]; omega
          · have e : q = d := by omega
            subst e
            clear how hgr
            go_wp2_with fail
            go_ret
            exact ⟨ret_bool hy.out.1.symm, fun _ => by rw [hy.out.2]; exact HO.out.1, HO.out.2⟩
end Go.Proofs.YtoaomjchaihkaaaDoor
namespace Go.Proofs.YtoaomjchaihkaaaDoor
open Go.RowKit Go.Shelf
set_option linter.unusedVariables false
attribute [local go_sem] Oper.semAt_some

theorem Seq.unique {m : Nat} {x : List Int} {L : List (List Int)} (h : Seq m x L) : ∀ {L' : List (List Int)}, Seq m x L' → L = L' := by
  induction h with
  | one h =>
    intro L' h'
    cases h' with
    | one _ => rfl
    | more h2 _ => rw [h] at h2; cases h2
  | more h r ih =>
    intro L' h'
    cases h' with
    | one h2 => rw [h] at h2; cases h2
    | more h2 r2 =>
      rw [h] at h2; cases h2
      rw [ih r2]
theorem own_unique {w : World} {g : Nat} {T : TypeId} {d : Nat} {x y : List Int} (h : Own w g T 1 d d x) (h' : Own w g T 1 d d y) : x = y := by
  obtain ⟨cur, hg, -, -, -, h4, -⟩ := h.body
  obtain ⟨cur', hg', -, -, -, h4', -⟩ := h'.body
  rw [hg] at hg'; cases hg'
  rw [h4] at h4'
  have hinj : ∀ a b : Int, Value.int .i64 a = Value.int .i64 b → a = b := fun a b e => by cases e; rfl
  unfold ivs at h4'
  exact List.map_inj_right hinj |>.1 h4'
open Classical in
/-- how many lists are still to come -/
noncomputable def left (m g d : Nat) (T : TypeId) (v : Value) (w : World) : Nat :=
  if h : ∃ r : List Int × List (List Int), v = .bool true ∧ Own w g T 1 d d r.1 ∧ Seq m r.1 r.2 then (Classical.choose h).2.length else 0
theorem left_eq {m g d : Nat} {T : TypeId} {w : World} {x : List Int} {L : List (List Int)} (ho : Own w g T 1 d d x) (hs : Seq m x L) : left m g d T (.bool true) w = L.length := by
  have hex : ∃ r : List Int × List (List Int), Value.bool true = .bool true ∧ Own w g T 1 d d r.1 ∧ Seq m r.1 r.2 := ⟨(x, L), rfl, ho, hs⟩
  unfold left
  rw [dif_pos hex]
  obtain ⟨-, h1, h2⟩ := Classical.choose_spec hex
  have := own_unique h1 ho
  rw [this] at h2
  rw [h2.unique hs]
theorem left_no {m g d : Nat} {T : TypeId} {w : World} : left m g d T (.bool false) w = 0 := by
  unfold left
  rw [dif_neg (by rintro ⟨r, h, -⟩; cases h)]
theorem grown_new {W A B : World} {R g : Nat} (h : W.grownBy A (some R)) (k : A.grownBy B (some g)) (hg : W.heap.size ≤ g) : W.grownBy B (some R) :=
  ⟨k.os.trans h.os, k.tape.trans h.tape, k.output.trans h.output, Nat.le_trans h.size k.size, fun i hi hn => (k.block i (Nat.lt_of_lt_of_le hi h.size) (by simp; omega)).trans (h.block i hi hn)⟩
theorem below_new {A B : World} {n g : Nat} (k : A.grownBy B (some g)) (hg : n ≤ g) (hs : n ≤ A.heap.size) : Below n A B := ⟨k.os, k.tape, k.output, k.size, fun i hi => k.block i (Nat.lt_of_lt_of_le hi hs) (by simp; omega)⟩
theorem cell_grown {A B : World} {R b o : Nat} {v : Value} (k : A.grownBy B (some R)) (h : A.cell? ⟨b, o, none⟩ = some v) (hb : b < A.heap.size) (hne : b ≠ R) : B.cell? ⟨b, o, none⟩ = some v :=
  (World.cell?_of_block (a := ⟨b, o, none⟩) (k.block b hb (by simpa using hne))).trans h

set_option maxHeartbeats 2000000 in
set_option maxRecDepth 100000 in
theorem subsets_give (R Bs Bc d m : Nat) (w : World) (h1 : w.cell? ⟨Bs, 0, none⟩ = some (.int .i64 d)) (h2 : w.cell? ⟨Bc, 0, none⟩ = some (.int .i64 m)) (hs : Bs < w.heap.size) (hc : Bc < w.heap.size) (hR : R < w.heap.size) (hRs : Bs ≠ R) (hRc : Bc ≠ R) (hd0 : 1 ≤ d) (hd : d ≤ 6) (hm : m ≤ 12) :
    Gives Tryd.prog R 119 #[.pointer (some ⟨Bs, 0, none⟩), .pointer (some ⟨Bc, 0, none⟩)] (ext m d 0) w := by
  intro l J W hW hJ hY h0 n
  have c1 : W.cell? ⟨Bs, 0, none⟩ = some (.int .i64 d) := (hW.cell (p := ⟨Bs, 0, none⟩) hs).trans h1
  have c2 : W.cell? ⟨Bc, 0, none⟩ = some (.int .i64 m) := (hW.cell (p := ⟨Bc, 0, none⟩) hc).trans h2
  have hsW := hW.size
  have hmk := fun w => made_ints w d (by omega)
  have hO0 : Own (W.alloc (.cells (madeCells (Array.replicate 1 (.int .i64 0)) (d * 1)) 3)) W.heap.size 3 1 d d (fillI 0 (iota d)) := by
    have := Own.made W 3 d 1 (by decide) (by unfold maxLen; omega)
    rw [fillI_zero, iota_len]; rw [Nat.mul_one] at this ⊢; exact this
  have H0 := Lib.hid hO0
  have HJ := Lib.hid (And.intro hJ (And.intro hY h0))
  clear hO0 hJ hY h0
  refine callsIn_of_wp Tryd.func119 rfl trivial ?_ rfl
  simp only [Tryd.ntmps119, List.size_toArray, List.length_cons, List.length_nil, Nat.reduceAdd, Nat.reduceSub, Array.replicate_succ, Array.replicate_zero, List.push_toArray, List.append_toArray, List.nil_append, List.cons_append]
  gi_wp2
  clear hmk
  gi_loopw [11] (fun i wr => ∃ k : Nat, k ≤ d ∧ i = .int .i64 k ∧ Own wr W.heap.size 3 1 d d (fillI k (iota d)) ∧ Below W.heap.size W wr) (fun i _ => d - (intOf i).toNat)
  case atStart => exact ⟨0, Nat.zero_le _, rfl, by simpa using H0.out, (Below.refl _ _).alloc (Nat.le_refl _) _⟩
  case round =>
    clear H0
    obtain ⟨k, hk, rfl, how, hbr⟩ := hrel
    have hbs := hbr.size
    have HO := Lib.hid (And.intro how hbr)
    by_cases hlt : k < d
    · have hf := how.frozen k
      have hlo := how.lt
      have hcx := how.cells (i := k) (z := ((fillI k (iota d))[k]?).getD 0) (by have := fillI_len k (iota d) (by rw [iota_len]; omega); rw [iota_len] at this; rw [List.getElem?_eq_getElem (by omega)]; rfl)
      have HR := Lib.hid (iota_nth hlt)
      clear how hbr
      gi_wp2
      go_roundw
      case rel => exact ⟨k + 1, by omega, by go_num, by rw [← fillI_set HR.out]; exact HO.out.1.set k k (by rw [fillI_len _ _ (by rw [iota_len]; omega), iota_len]; exact hlt), HO.out.2.setCell (p := ⟨W.heap.size, k, none⟩) (Nat.le_refl _) _⟩
      case measure => simp [intOf]; omega
    · have e : k = d := by omega
      subst e
      have c3 : wr.cell? ⟨Bs, 0, none⟩ = some (.int .i64 k) := (hbr.cell (p := ⟨Bs, 0, none⟩) (show Bs < W.heap.size by omega)).trans c1
      have c4 : wr.cell? ⟨Bc, 0, none⟩ = some (.int .i64 m) := (hbr.cell (p := ⟨Bc, 0, none⟩) (show Bc < W.heap.size by omega)).trans c2
      have HI : Hid (J [] wr ∧ W.grownBy wr (some R) ∧ Own wr W.heap.size 3 1 k k (iota k)) := Lib.hid ⟨HJ.out.1 _ _ _ HJ.out.2.2 hbr, grown_below hbr, by have := HO.out.1; rwa [fillI_iota] at this⟩
      clear how hbr HO c1 c2
      obtain ⟨b, hb⟩ : ∃ b, decide ((k : Int) ≤ (m : Int)) = b := ⟨_, rfl⟩
      have hup : upF ((0 : Nat) : Int) k = iota k := by unfold upF iota; exact List.map_congr_left (fun i _ => by simp)
      have hst : Hid (b = true → Seq m (iota k) (ext m k 0)) := Lib.hid (fun e => by
        rw [e] at hb
        have := ext_seq (m := m) k 0 (by simp at hb; omega)
        rwa [hup] at this)
      have hno : Hid (b = false → ext m k 0 = []) := Lib.hid (fun e => by
        rw [e] at hb
        obtain ⟨d', rfl⟩ : ∃ d', k = d' + 1 := ⟨k - 1, by omega⟩
        exact ext_none (by simp at hb; omega))
      have hbn : decide (k ≤ m) = b := by rw [← hb]; simp
      have HBN := Lib.hid hbn
      clear hup hbn
      gi_wp2
      clear hb c3 c4
      gi_loopw [6] (fun v wr => ∃ b : Bool, v = .bool b ∧ W.grownBy wr (some R) ∧ (b = false → J (ext m k 0) wr) ∧ (b = true → ∃ (pre : List (List Int)) (x : List Int) (L : List (List Int)), ext m k 0 = pre ++ L ∧ Seq m x L ∧ Own wr W.heap.size 3 1 k k x ∧ J pre wr)) (fun v wr => left m W.heap.size k 3 v wr)
      case atStart => exact ⟨b, by simp [HBN.out], HI.out.2.1, fun e => by rw [hno.out e]; exact HI.out.1, fun e => ⟨[], _, _, rfl, hst.out e, HI.out.2.2, HI.out.1⟩⟩
      case round =>
        clear HI hst hno
        rename World => wq
        obtain ⟨b, rfl, hgr, hf, ht⟩ := hrel
        have hgs := hgr.size
        cases b
        · have HF := Lib.hid (And.intro (hf rfl) hgr)
          clear hf ht hgr
          gi_wp2
          go_end0
          exact ⟨⟨_, rfl⟩, HF.out.1, HF.out.2⟩
        · obtain ⟨pre, x, L, hext, hseq, how, hj⟩ := ht rfl
          clear hf ht
          have hxl : x.length = k := by have := how.len; omega
          have hlo := how.lt
          obtain ⟨L', hL'⟩ := hseq.head
          have hmem : x ∈ ext m k 0 := by rw [hext, hL']; simp
          have hasc := (mem_ext.1 hmem).2.1
          have hE : Elem W.heap.size wq x (.slice (some ⟨W.heap.size, 0, none⟩) k k) := ⟨W.heap.size, k, by rw [hxl], Nat.le_refl _, hlo, how.ints⟩
          have hpre : pre ++ [x] <+: ext m k 0 := ⟨L', by rw [hext, hL']; simp⟩
          obtain ⟨fn, tmps, assign, body, hy, hround⟩ := HJ.out.2.1 pre x _ wq hj hE (by omega) hpre (n - 1)
          have HW := Lib.hid (And.intro how hgr)
          have HS := Lib.hid (And.intro hext (And.intro hseq (And.intro hL' (And.intro hxl hasc))))
          clear how hgr hext hseq hL' hxl hasc hmem hj hE hpre
          gi_wp2
          refine ⟨by simp [Fence.wide], ?_⟩
          refine hround.mono ?_
          rintro e W3 ⟨rfl, hJ3, hg3⟩
          have hs3 := hg3.size
          have c4 : W3.cell? ⟨Bc, 0, none⟩ = some (.int .i64 m) := cell_grown hg3 (cell_grown HW.out.2 ((hW.cell (p := ⟨Bc, 0, none⟩) hc).trans h2) (show Bc < W.heap.size by omega) hRc) (show Bc < wq.heap.size by omega) hRc
          have ho3 : Own W3 W.heap.size 3 1 k k x := HW.out.1.block (hg3.block _ hlo (by simp; omega))
          obtain ⟨b, hb⟩ : ∃ b : Bool, (b = true ↔ ∃ y, nxt m x = some y) := ⟨(nxt m x).isSome, by cases nxt m x <;> simp⟩
          obtain ⟨y, hy'⟩ : ∃ y, (b = true ∧ nxt m x = some y) ∨ (b = false ∧ nxt m x = none) := by
            cases hn : nxt m x with
            | none => exact ⟨[], .inr ⟨by rw [hn] at hb; simpa using hb, rfl⟩⟩
            | some y => exact ⟨y, .inl ⟨hb.2 ⟨y, hn⟩, rfl⟩⟩
          have ca := Lib.hid (iAdvance W.heap.size k m x W3 ho3 (by omega) (by omega) (fun z hz => by have := HS.out.2.2.2.2.rng z hz; omega) b y hy')
          have H3 := Lib.hid (And.intro hJ3 (And.intro hg3 (And.intro hy' ho3)))
          clear hJ3 hg3 hy' hb ho3
          have hdd : ∀ k : Nat, (Fence.wide.depth.isSome = true → 1 ≤ k) := fun k h => by simp [Fence.wide] at h
          gi_wp2
          refine ⟨by simp [Fence.wide], ?_⟩
          refine ⟨by simp [Fence.wide], ?_⟩
          refine ((callsIn_wide.2 ca.out).mono ?_)
          rintro e W4 ⟨rfl, ho4, hg4⟩
          gi_wp2
          go_roundw
          case rel =>
            have hgr4 := grown_new (grown_trans HW.out.2 H3.out.2.1) hg4 (Nat.le_refl _)
            have hj4 : J (pre ++ [x]) W4 := HJ.out.1 _ _ _ H3.out.1 (below_new hg4 (Nat.le_refl _) (by omega))
            refine ⟨b, rfl, hgr4, fun e => ?_, fun e => ?_⟩
            · rcases H3.out.2.2.1 with ⟨h, -⟩ | ⟨-, h⟩
              · rw [h] at e; cases e
              · have : L = [x] := HS.out.2.1.unique (.one h)
                rw [HS.out.1, this]; exact hj4
            · rcases H3.out.2.2.1 with ⟨-, h⟩ | ⟨h, -⟩
              · obtain ⟨R2, hR2⟩ : ∃ R2, L = x :: R2 ∧ Seq m y R2 := by
                  have hs := HS.out.2.1
                  cases hs with
                  | one h2 => rw [h] at h2; cases h2
                  | more h2 r => rw [h] at h2; cases h2; exact ⟨_, rfl, r⟩
                exact ⟨pre ++ [x], y, R2, by rw [HS.out.1, hR2.1]; simp, hR2.2, ho4 e, hj4⟩
              · rw [h] at e; cases e
          case measure =>
            rw [left_eq HW.out.1 HS.out.2.1]
            rcases H3.out.2.2.1 with ⟨hb1, h⟩ | ⟨hb1, h⟩
            · have hs := HS.out.2.1
              cases hs with
              | one h2 => rw [h] at h2; cases h2
              | more h2 r =>
                rw [h] at h2; cases h2
                have := ho4 hb1
                subst hb1
                show left m W.heap.size k 3 (.bool true) W4 < _
                rw [left_eq this r]; simp
            · subst hb1
              show left m W.heap.size k 3 (.bool false) W4 < _
              rw [left_no, HS.out.2.2.1]; simp
end Go.Proofs.YtoaomjchaihkaaaDoor
namespace Go.Proofs.YtoaomjchaihkaaaDoor
open Go.RowKit Go.Shelf
set_option linter.unusedVariables false
attribute [local go_sem] Oper.semAt_some

set_option maxHeartbeats 1000000 in
theorem iSubsets (m d : Int) (w : World) :
    Calls Tryd.prog 102 #[.int .i64 m, .int .i64 d] w fun e w' => e = .returned (.func (.func 119) #[] #[.pointer (some ⟨w.heap.size + 1, 0, none⟩), .pointer (some ⟨w.heap.size, 0, none⟩)]) ∧ w' = (w.alloc (.cells #[.int .i64 m] 3)).alloc (.cells #[.int .i64 d] 3) := by
  go_enter Tryd.func102, Tryd.ntmps102
  go_wp2_with fail
  go_ret
  exact ⟨rfl, rfl⟩
set_option maxHeartbeats 1000000 in
theorem iTreesOf (n : Int) (p : Option Addr) (m c : Nat) (w : World) :
    Calls Tryd.prog 69 #[.int .i64 n, .slice p m c] w fun e w' => e = .returned (.func (.func 101) #[] #[.pointer (some ⟨w.heap.size + 1, 0, none⟩), .pointer (some ⟨w.heap.size, 0, none⟩)]) ∧ w' = (w.alloc (.cells #[.int .i64 n] 3)).alloc (.cells #[.slice p m c] 23) := by
  go_enter Tryd.func69, Tryd.ntmps69
  go_wp2_with fail
  go_ret
  exact ⟨rfl, rfl⟩

theorem runs_grown {w w' : World} {p : Option Addr} {rs : List Rn} {R : Nat} (h : Runs w p rs) (hg : w.grownBy w' (some R)) (hp : rs = [] ∨ ∀ o, p ≠ some ⟨R, o, none⟩) : Runs w' p rs := by
  rcases hp with rfl | hp
  · exact .inl rfl
  · exact h.grown hg hp
theorem grown_far {W A B : World} {R n : Nat} (h : W.grownBy A (some R)) (k : Below n A B) (hn : W.heap.size ≤ n) : W.grownBy B (some R) :=
  ⟨k.os.trans h.os, k.tape.trans h.tape, k.output.trans h.output, Nat.le_trans h.size k.size, fun i hi hne => (k.block i (by omega)).trans (h.block i hi hne)⟩

set_option maxHeartbeats 4000000 in
set_option maxRecDepth 100000 in
theorem trees_give (R Br Bn N m c : Nat) (p : Option Addr) (rs : List Rn) (w : World) (h1 : w.cell? ⟨Br, 0, none⟩ = some (.slice p m c)) (h2 : w.cell? ⟨Bn, 0, none⟩ = some (.int .i64 N)) (hs : Br < w.heap.size) (hc : Bn < w.heap.size) (hR : R < w.heap.size) (hRs : Br ≠ R) (hRc : Bn ≠ R)
    (hr : Runs w p rs) (hp : rs = [] ∨ ∀ o, p ≠ some ⟨R, o, none⟩) (hm : rs.length = m) (hn : nOk N rs = true) :
    Gives Tryd.prog R 101 #[.pointer (some ⟨Br, 0, none⟩), .pointer (some ⟨Bn, 0, none⟩)] (trees N rs) w := by
  obtain ⟨hn2, hn6, hl12, -⟩ := nOk_true hn
  obtain ⟨d, hd⟩ : ∃ d : Nat, d + 1 = N := ⟨N - 1, by omega⟩
  have hd1 : (N : Int) - 1 = (d : Int) := by omega
  intro l J W hW hJ hY h0 n
  have c1 : W.cell? ⟨Br, 0, none⟩ = some (.slice p m c) := (hW.cell (p := ⟨Br, 0, none⟩) hs).trans h1
  have c2 : W.cell? ⟨Bn, 0, none⟩ = some (.int .i64 N) := (hW.cell (p := ⟨Bn, 0, none⟩) hc).trans h2
  have hsW := hW.size
  have HJ := Lib.hid (And.intro hJ (And.intro hY h0))
  have HM := Lib.hid (And.intro hm (And.intro hn (And.intro (hr.below hW) hp)))
  have hm12 : m ≤ 12 := by omega
  have hBrW : Br < W.heap.size := by omega
  have hBnW : Bn < W.heap.size := by omega
  have hBrW : Br < W.heap.size := by omega
  have hBnW : Bn < W.heap.size := by omega
  have hBrW : Br < W.heap.size := by omega
  have hBnW : Bn < W.heap.size := by omega
  have hdd : ∀ k : Nat, (Fence.wide.depth.isSome = true → 1 ≤ k) := fun k h => by simp [Fence.wide] at h
  clear hJ hY h0 hm hn hr hp h1 h2 hl12
  refine callsIn_of_wp_marks Tryd.func101 rfl trivial ?_ rfl
  simp only [Tryd.ntmps101, List.size_toArray, List.length_cons, List.length_nil, Nat.reduceAdd, Nat.reduceSub, Array.replicate_succ, Array.replicate_zero, List.push_toArray, List.append_toArray, List.nil_append, List.cons_append]
  gi_wp2
  refine ⟨by simp [Fence.wide], ?_⟩
  refine ⟨by simp [Fence.wide], ?_⟩
  refine (callsIn_wide.2 (iSubsets _ _ _)).mono ?_
  rintro e w2 ⟨rfl, hw2⟩
  have hsz : w2.heap.size = W.heap.size + 3 := by rw [hw2]; simp
  have hb2 : Below W.heap.size W w2 := by rw [hw2]; exact (((Below.refl _ W).alloc (Nat.le_refl _) _).alloc (by simp) _).alloc (by simp; omega) _
  have y0 : w2.cell? ⟨W.heap.size, 0, none⟩ = some (.func (.yield l) #[] #[]) := by rw [hw2]; simp [go_sem]
  have y1 : w2.cell? ⟨W.heap.size + 1, 0, none⟩ = some (.int .i64 m) := by rw [hw2]; simp [go_sem]
  have y2 : w2.cell? ⟨W.heap.size + 1 + 1, 0, none⟩ = some (.int .i64 d) := by rw [hw2]; simp [go_sem]
  clear hw2
  gi_wp2
  have hsub := subsets_give R (W.heap.size + 1 + 1) (W.heap.size + 1) d m w2 y2 y1 (by omega) (by omega) (by omega) (by omega) (by omega) (by omega) (by omega) (by omega)
  have hext : (ext m d 0).filter (isT N rs) = trees N rs := by unfold trees; rw [HM.out.1, show N - 1 = d by omega]
  refine wpIn_rangeFunc_on (R := R) (gf := 119) (lb := #[.pointer (some ⟨W.heap.size + 1 + 1, 0, none⟩), .pointer (some ⟨W.heap.size + 1, 0, none⟩)]) rfl (enters_of Tryd.func119 (by kernel_rfl) rfl) hsub (by omega)
    (fun pre W' => J (pre.filter (isT N rs)) W' ∧ w2.grownBy W' (some R))
    (fun s A A' hs hb => ⟨HJ.out.1 _ _ _ hs.1 (hb.mono (by omega)), grown_far hs.2 hb (Nat.le_refl _)⟩)
    ⟨HJ.out.1 _ _ _ HJ.out.2.2 hb2, grown_below (Below.refl _ _)⟩
    (fun v => { tmps := #[.func (.yield l) #[] #[], .pointer (some ⟨Br, 0, none⟩), .pointer (some ⟨Bn, 0, none⟩), .pointer (some ⟨W.heap.size, 0, none⟩), v, .slice p m c, .int .i64 m, .int .i64 N, .int .i64 d, .func (.func 119) #[] #[.pointer (some ⟨W.heap.size + 1 + 1, 0, none⟩), .pointer (some ⟨W.heap.size + 1, 0, none⟩)], v, undef, undef, undef, undef, undef, undef, undef, undef, undef, undef], defers := [] })
    ?assign ?body ?done
  case assign =>
    intro l' v W' K hK
    gi_wp2
    exact hK
  case body =>
    rintro l' pre x v W1 ⟨hj, hg⟩ ⟨B, cap, rfl, hB1, hB2, hBi⟩ hsz1 hxp
    have hxm : x ∈ ext m d 0 := hxp.subset (by simp)
    have hxf : (pre ++ [x]).filter (isT N rs) <+: trees N rs := by rw [← hext]; exact hxp.filter _
    obtain ⟨hxl, hxa, -⟩ := mem_ext.1 hxm
    obtain ⟨b, hb⟩ : ∃ b, isT N rs x = b := ⟨_, rfl⟩
    have hbw : nWhole N (sub rs x) = b := by rw [← hb]; exact (isT_whole HM.out.2.1 (by omega) (by rw [HM.out.1]; exact hxa)).symm
    have z0 : W1.cell? ⟨W.heap.size, 0, none⟩ = some (.func (.yield l) #[] #[]) := cell_grown hg y0 (by omega) (by omega)
    have z1 : W1.cell? ⟨Br, 0, none⟩ = some (.slice p m c) := cell_grown hg ((hb2.cell (p := ⟨Br, 0, none⟩) hBrW).trans c1) (by omega) hRs
    have z2 : W1.cell? ⟨Bn, 0, none⟩ = some (.int .i64 N) := cell_grown hg ((hb2.cell (p := ⟨Bn, 0, none⟩) hBnW).trans c2) (by omega) hRc
    have k1 : W.heap.size < W1.heap.size := by omega
    have k2 : Br < W1.heap.size := by omega
    have k3 : Bn < W1.heap.size := by omega
    have cL := Lib.hid (iLinksAll N m d p (some ⟨B, 0, none⟩) c cap rs x b W1 (runs_grown (HM.out.2.2.1.below hb2) hg HM.out.2.2.2) hBi HM.out.1 hxl HM.out.2.1 hxa hd hbw)
    have HX := Lib.hid (And.intro hj (And.intro hg (And.intro hBi (And.intro hb (And.intro hxf hxl)))))
    rw [hxl]
    clear hj hg hBi hb hbw hxm hxa hxp hxf c1 c2 y0 y1 y2 hsub hW
    cases b
    · gi_wp2
      refine ⟨by simp [Fence.wide], ?_⟩
      refine ⟨by simp [Fence.wide], ?_⟩
      refine (CallsIn.inRound l' (callsIn_wide.2 cL.out)).mono ?_
      rintro e W2 ⟨rfl, hbW⟩
      have hs2 := hbW.size
      have q0 : W2.cell? ⟨W.heap.size, 0, none⟩ = some (.func (.yield l) #[] #[]) := (hbW.cell (p := ⟨W.heap.size, 0, none⟩) k1).trans z0
      gi_wp2
      refine ⟨fun _ h => (by cases h), ?_⟩
      gi_wp2
      refine ⟨grown_below hbW, HJ.out.1 _ _ _ ?_ (hbW.mono (by omega)), grown_far HX.out.2.1 hbW (by omega)⟩
      rw [List.filter_append, List.filter_cons_of_neg (by rw [HX.out.2.2.2.1]; simp)]
      simpa using HX.out.1
    · gi_wp2
      refine ⟨by simp [Fence.wide], ?_⟩
      refine ⟨by simp [Fence.wide], ?_⟩
      refine (CallsIn.inRound l' (callsIn_wide.2 cL.out)).mono ?_
      rintro e W2 ⟨rfl, hbW⟩
      have hs2 := hbW.size
      have q0 : W2.cell? ⟨W.heap.size, 0, none⟩ = some (.func (.yield l) #[] #[]) := (hbW.cell (p := ⟨W.heap.size, 0, none⟩) k1).trans z0
      have hE : Elem W.heap.size W2 x (.slice (some ⟨B, 0, none⟩) d cap) := ⟨B, cap, by rw [HX.out.2.2.2.2.2], by omega, by omega, HX.out.2.2.1.below hbW⟩
      obtain ⟨fn, tmps, assign, body, hy, hround⟩ := HJ.out.2.1 (pre.filter (isT N rs)) x _ W2 (HJ.out.1 _ _ _ HX.out.1 (hbW.mono (by omega))) hE (by omega) (by have := HX.out.2.2.2.2.1; rw [List.filter_append, List.filter_cons_of_pos HX.out.2.2.2.1] at this; simpa using this) 0
      clear hE
      gi_wp2
      refine ⟨by simp [Fence.wide], ?_⟩
      refine RoundIn.mono (show RoundIn (Fence.wide.inRound l') _ _ _ _ _ _ _ _ _ from round_any hround) ?_
      rintro e W3 ⟨rfl, hj3, hg3⟩
      gi_wp2
      refine ⟨grown_trans (grown_below hbW) hg3, ?_, grown_trans (grown_far HX.out.2.1 hbW (by omega)) hg3⟩
      rw [List.filter_append, List.filter_cons_of_pos HX.out.2.2.2.1]
      simpa using hj3
  case done =>
    rintro D W1 hD ⟨hj, hg⟩ hK hgr
    rw [hext] at hj
    gi_wp2
    refine ⟨by simp, .inl ⟨_, _, rfl, run_takeDeferred hK, ?_⟩⟩
    exact ⟨_, results_none rfl _ _ _, ⟨_, rfl⟩, HJ.out.1 _ _ _ hj (below_put _ _ _ (by omega)), grown_far (grown_trans (grown_below hb2) hg) (below_put W1 D _ (Nat.le_refl D)) (by omega)⟩
end Go.Proofs.YtoaomjchaihkaaaDoor
namespace Go.Proofs.YtoaomjchaihkaaaDoor
open Go.RowKit Go.Shelf
set_option linter.unusedVariables false
attribute [local go_sem] Oper.semAt_some

theorem ext_few (m : Nat) : ∀ d b : Nat, (ext m d b).length ≤ m ^ d := by
  intro d
  induction d with
  | zero => intro b; simp [ext]
  | succ d ih =>
    have key : ∀ e b : Nat, m - b = e → (ext m (d + 1) b).length ≤ e * m ^ d := by
      intro e
      induction e with
      | zero => intro b hb; simp [ext, hb]
      | succ e ihe =>
        intro b hb
        rw [ext_step (by omega), List.length_append, List.length_map]
        have h1 := ih (b + 1)
        have h2 := ihe (b + 1) (by omega)
        rw [Nat.add_mul, Nat.one_mul]
        omega
    intro b
    have := key (m - b) b rfl
    have h2 : (m - b) * m ^ d ≤ m * m ^ d := Nat.mul_le_mul_right _ (by omega)
    rw [Nat.pow_succ, Nat.mul_comm (m ^ d) m]
    omega
theorem trees_few {N : Nat} {rs : List Rn} (hn : nOk N rs = true) : (trees N rs).length ≤ 248832 := by
  obtain ⟨h1, h2, h3, -⟩ := nOk_true hn
  unfold trees
  have a := List.length_filter_le (isT N rs) (ext rs.length (N - 1) 0)
  have b := ext_few rs.length (N - 1) 0
  have c : rs.length ^ (N - 1) ≤ 12 ^ (N - 1) := Nat.pow_le_pow_left h3 _
  have d : 12 ^ (N - 1) ≤ 12 ^ 5 := Nat.pow_le_pow_right (by decide) (by omega)
  have e : (12 : Nat) ^ 5 = 248832 := by decide
  omega
theorem many_few {N : Nat} {rs : List Rn} (hn : nOk N rs = true) : many N rs ≤ 248832 := trees_few hn

end Go.Proofs.YtoaomjchaihkaaaDoor
namespace Go.Proofs.YtoaomjchaihkaaaDoor
open Go.RowKit Go.Shelf
set_option linter.unusedVariables false
attribute [local go_sem] Oper.semAt_some

theorem weigh_snoc (rs : List Rn) (T : List Int) (z : Int) : weigh rs (T ++ [z]) = weigh rs T * (runOf rs z).g := by
  unfold weigh; simp
theorem weigh_nil (rs : List Rn) : weigh rs [] = 1 := rfl
theorem weigh_le {rs : List Rn} : ∀ (n : Nat) {T : List Int}, T.length = n → (∀ z ∈ T, 1 ≤ (runOf rs z).g ∧ (runOf rs z).g ≤ 9) → 1 ≤ weigh rs T ∧ weigh rs T ≤ 9 ^ n := by
  intro n
  induction n with
  | zero => intro T h _; rw [List.eq_nil_of_length_eq_zero h, weigh_nil]; simp
  | succ n ih =>
    intro T' h hz
    obtain ⟨T, z, rfl, hl⟩ := snoc_of h
    obtain ⟨a, b⟩ := ih hl (fun y hy => hz y (List.mem_append_left _ hy))
    obtain ⟨c, d⟩ := hz z (by simp)
    rw [weigh_snoc, Int.pow_succ]
    constructor
    · have := Int.mul_le_mul a c (by omega) (by omega); omega
    · exact Int.mul_le_mul b d (by omega) (by omega)
def sm (rs : List Rn) (L : List (List Int)) : Int := (L.map (weigh rs)).foldl (· + ·) 0
theorem sm_snoc (rs : List Rn) (L : List (List Int)) (x : List Int) : sm rs (L ++ [x]) = sm rs L + weigh rs x := by unfold sm; simp
theorem sm_nil (rs : List Rn) : sm rs [] = 0 := rfl
theorem sm_le {rs : List Rn} : ∀ (n : Nat) {L : List (List Int)}, L.length = n → (∀ x ∈ L, 1 ≤ weigh rs x ∧ weigh rs x ≤ 59049) → 0 ≤ sm rs L ∧ sm rs L ≤ (n : Int) * 59049 := by
  intro n
  induction n with
  | zero => intro L h _; rw [List.eq_nil_of_length_eq_zero h, sm_nil]; simp
  | succ n ih =>
    intro L' h hz
    obtain ⟨L, x, rfl, hl⟩ := snoc_of h
    obtain ⟨a, b⟩ := ih hl (fun y hy => hz y (List.mem_append_left _ hy))
    obtain ⟨c, d⟩ := hz x (by simp)
    rw [sm_snoc]
    omega
theorem weight_at {N : Nat} {rs : List Rn} (hn : nOk N rs = true) {z : Int} (h0 : 0 ≤ z) (h1 : z < rs.length) : 1 ≤ (runOf rs z).g ∧ (runOf rs z).g ≤ 9 := by
  obtain ⟨-, -, -, -, -, -, -, a, b⟩ := rOk_true ((nOk_true hn).2.2.2 _ _ (runOf_at h0 h1))
  exact ⟨a, b⟩
theorem nine_le {k : Nat} (h : k ≤ 5) : (9 : Int) ^ k ≤ 59049 := by
  have : k = 0 ∨ k = 1 ∨ k = 2 ∨ k = 3 ∨ k = 4 ∨ k = 5 := by omega
  rcases this with rfl | rfl | rfl | rfl | rfl | rfl <;> decide
theorem weigh_tree {N : Nat} {rs : List Rn} {T : List Int} (h : IsTree N rs T) (q : Nat) : 1 ≤ weigh rs (T.take q) ∧ weigh rs (T.take q) ≤ 59049 := by
  have hl := h.len
  have hN := (nOk_true h.ok).2.1
  obtain ⟨a, b⟩ := weigh_le _ (T := T.take q) rfl (fun z hz => by
    obtain ⟨x, y⟩ := h.asc.rng z (List.mem_of_mem_take hz)
    exact weight_at h.ok x y)
  exact ⟨a, Int.le_trans b (nine_le (by simp; omega))⟩
theorem sm_trees {N : Nat} {rs : List Rn} (hn : nOk N rs = true) {pre : List (List Int)} (h : pre <+: trees N rs) : 0 ≤ sm rs pre ∧ sm rs pre ≤ 248832 * 59049 := by
  have hl := h.length_le
  have hf := trees_few hn
  obtain ⟨a, b⟩ := sm_le (rs := rs) _ (L := pre) rfl (fun x hx => by
    have := weigh_tree (mem_trees.1 (h.subset hx)) x.length
    rwa [List.take_length] at this)
  omega

set_option maxHeartbeats 4000000 in
set_option maxRecDepth 100000 in
theorem iWeight_in (N m c : Nat) (p : Option Addr) (rs : List Rn) (w : World) (n : Nat) (hr : Runs w p rs) (hm : rs.length = m) (hn : nOk N rs = true) :
    CallsIn Fence.wide n Tryd.prog 33 #[.int .i64 N, .slice p m c] w fun e w' => e = .returned (.int .i64 (heavy N rs)) ∧ Below w.heap.size w w' := by
  have hm12 : m ≤ 12 := by have := (nOk_true hn).2.2.1; omega
  have c1 := fun w h => Lib.hid (iValid_n (p := p) (c := c) w hm h (by omega) hn)
  have H := Lib.hid (And.intro hr (And.intro hm hn))
  clear hr hm hn
  refine callsIn_of_wp_marks Tryd.func33 rfl trivial ?_ rfl
  simp only [Tryd.ntmps33, List.size_toArray, List.length_cons, List.length_nil, Nat.reduceAdd, Nat.reduceSub, Array.replicate_succ, Array.replicate_zero, List.push_toArray, List.append_toArray, List.nil_append, List.cons_append]
  gi_wp2
  refine ⟨by simp [Fence.wide], ?_⟩
  refine ⟨by simp [Fence.wide], ?_⟩
  refine (callsIn_wide.2 (c1 _ (H.out.1.alloc _)).out).mono ?_
  rintro e wa ⟨rfl, hb_wa⟩
  have hs_wa := hb_wa.size
  simp only [World.size_alloc] at hs_wa
  have hra := Lib.hid ((H.out.1.alloc _).below hb_wa)
  have x0 : wa.cell? ⟨w.heap.size, 0, none⟩ = some (.slice p m c) := (hb_wa.cell (p := ⟨w.heap.size, 0, none⟩) (by simp)).trans (by simp [go_sem])
  have hbw : Below w.heap.size w wa := ((Below.refl _ w).alloc (Nat.le_refl _) _).trans (hb_wa.mono (by simp))
  clear c1 hb_wa
  have kw : w.heap.size < wa.heap.size := by omega
  gi_wp2
  refine ⟨by simp [Fence.wide], ?_⟩
  refine ⟨by simp [Fence.wide], ?_⟩
  refine (callsIn_wide.2 (iTreesOf _ _ _ _ _)).mono ?_
  rintro e w2 ⟨rfl, hw2⟩
  have hsz : w2.heap.size = wa.heap.size + 3 := by rw [hw2]; simp
  have hb2 : Below wa.heap.size wa w2 := by
    rw [hw2]
    exact (((Below.refl _ wa).alloc (Nat.le_refl _) _).alloc (by simp) _).alloc (by simp; omega) _
  have y0 : w2.cell? ⟨wa.heap.size, 0, none⟩ = some (.int .i64 0) := by rw [hw2]; simp [go_sem]
  have y1 : w2.cell? ⟨wa.heap.size + 1, 0, none⟩ = some (.int .i64 N) := by rw [hw2]; simp [go_sem]
  have y2 : w2.cell? ⟨wa.heap.size + 1 + 1, 0, none⟩ = some (.slice p m c) := by rw [hw2]; simp [go_sem]
  have f0 : w2.frozen? ⟨wa.heap.size, 0, none⟩ = false := by rw [hw2]; simp [go_sem]
  clear hw2
  have hp : rs = [] ∨ ∀ o, p ≠ some ⟨wa.heap.size, o, none⟩ := by
    by_cases e : rs = []
    · exact .inl e
    · exact .inr (fun o e2 => by
        have := hra.out
        rw [e2] at this
        have := this.lt e
        omega)
  have HP := Lib.hid hp
  have hgive := trees_give wa.heap.size (wa.heap.size + 1 + 1) (wa.heap.size + 1) N m c p rs w2 y2 y1 (by omega) (by omega) (by omega) (by omega) (by omega) (hra.out.below hb2) hp H.out.2.1 H.out.2.2
  gi_wp2
  refine wpIn_rangeFunc_on (R := wa.heap.size) (gf := 101) (lb := #[.pointer (some ⟨wa.heap.size + 1 + 1, 0, none⟩), .pointer (some ⟨wa.heap.size + 1, 0, none⟩)]) rfl (enters_of Tryd.func101 (by kernel_rfl) rfl) hgive (by omega)
    (fun pre W' => W'.cell? ⟨wa.heap.size, 0, none⟩ = some (.int .i64 (sm rs pre)) ∧ W'.frozen? ⟨wa.heap.size, 0, none⟩ = false ∧ w2.grownBy W' (some wa.heap.size))
    (fun s A A' hs hb => ⟨(hb.cell (p := ⟨wa.heap.size, 0, none⟩) (show wa.heap.size < w2.heap.size by omega)).trans hs.1, (hb.frozen (p := ⟨wa.heap.size, 0, none⟩) (show wa.heap.size < w2.heap.size by omega)).trans hs.2.1, grown_far hs.2.2 hb (Nat.le_refl _)⟩)
    ⟨y0, f0, grown_below (Below.refl _ _)⟩
    (fun v => { tmps := #[.int .i64 N, .slice p m c, undef, .pointer (some ⟨w.heap.size, 0, none⟩), .int .i64 0, .pointer (some ⟨wa.heap.size, 0, none⟩), v, undef, undef, undef, .int .i64 N, .slice p m c, .bool true, .bool false, .int .i64 N, .slice p m c, .func (.func 101) #[] #[.pointer (some ⟨wa.heap.size + 1 + 1, 0, none⟩), .pointer (some ⟨wa.heap.size + 1, 0, none⟩)], v, undef, undef, undef, undef, undef, undef, undef, undef, undef, undef, undef, undef, undef, undef, undef, undef, undef, undef], defers := [] })
    ?assign ?body ?done
  case assign =>
    intro l' v W' K hK
    gi_wp2
    exact hK
  case body =>
    rintro l' pre x v W1 ⟨hc, hf, hg⟩ ⟨B, cap, rfl, hB1, hB2, hBi⟩ hsz1 hxp
    have hxt : IsTree N rs x := mem_trees.1 (hxp.subset (by simp))
    have hbd := sm_trees H.out.2.2 hxp
    rw [sm_snoc] at hbd
    have hbp := sm_trees H.out.2.2 ((List.prefix_append pre [x]).trans hxp)
    have hwx := weigh_tree hxt x.length
    rw [List.take_length] at hwx
    obtain ⟨s, hs⟩ : ∃ s, sm rs pre = s := ⟨_, rfl⟩
    obtain ⟨d, hd⟩ : ∃ d, x.length = d := ⟨_, rfl⟩
    have hd5 : d ≤ 8 := by have := hxt.len; have := (nOk_true H.out.2.2).2.1; omega
    have k1 : wa.heap.size < W1.heap.size := by omega
    have k2 : w.heap.size < W1.heap.size := by omega
    have z3 : W1.cell? ⟨w.heap.size, 0, none⟩ = some (.slice p m c) := cell_grown hg ((hb2.cell (p := ⟨w.heap.size, 0, none⟩) kw).trans x0) (by omega) (by omega)
    have hr1 := runs_grown (hra.out.below hb2) hg hp
    have HX := Lib.hid (And.intro hg (And.intro hBi (And.intro hr1 (And.intro hxt (And.intro hd (And.intro hs (And.intro hwx hbd)))))))
    rw [hs] at hc hbp
    rw [hd]
    clear hg hBi hr1 hxt hxp hd hs hwx hbd hp hgive y0 y1 y2 f0 x0
    gi_wp2
    gi_loopw [7, 20] (fun v i wr => ∃ q : Nat, q ≤ d ∧ i = .int .i64 q ∧ v = .int .i64 (weigh rs (x.take q)) ∧ W1 = wr) (fun _ i _ => d - (intOf i).toNat)
    case atStart => exact ⟨0, Nat.zero_le _, rfl, rfl, rfl⟩
    case round =>
      obtain ⟨q, hq, rfl, rfl, rfl⟩ := hrel
      obtain ⟨hg, hBi, hr1, hxt, hd, hs, hwx, hbd⟩ := HX.out
      by_cases hlt : q < d
      · obtain ⟨B', o, z, e2, hz, hB, e0⟩ := hBi.at (i := q) (by omega)
        cases e2
        simp only [Nat.zero_add] at e0
        obtain ⟨z0, z1⟩ := hxt.asc.rng z (List.mem_of_getElem? hz)
        have hwz := weight_at H.out.2.2 z0 z1
        have hw1 := weigh_tree hxt q
        have hw2 := weigh_tree hxt (q + 1)
        have hsn : weigh rs (x.take (q + 1)) = weigh rs (x.take q) * (runOf rs z).g := by rw [take_succ_of hz, weigh_snoc]
        obtain ⟨u, rfl⟩ : ∃ u : Nat, z = (u : Int) := ⟨z.toNat, by omega⟩
        have hum : u < m := by have := H.out.2.1; omega
        obtain ⟨D, o', r, rfl, hr, hD, a0, a1, a2, a3⟩ := hr1.at (i := u) (by have := H.out.2.1; omega)
        have hrg : (runOf rs (u : Int)).g = r.g := by unfold runOf; simp [hr]
        rw [hrg] at hsn hwz
        rw [hsn] at hw2
        obtain ⟨pr, hpr⟩ : ∃ pr, weigh rs (x.take q) = pr := ⟨_, rfl⟩
        rw [hpr] at hw1 hw2 ⊢
        have HN := Lib.hid (And.intro hsn hpr)
        obtain ⟨g0, hg0⟩ : ∃ g, r.g = g := ⟨_, rfl⟩
        rw [hg0] at a3 hw2 hwz
        have HG0 := Lib.hid hg0
        clear hz hr hr1 hxt hsn hpr hg0 hrg a0 a1 a2 z0 z1 hg hBi hd hs hwx hbd
        gi_wp2
        go_roundw
        case rel => exact ⟨q + 1, by omega, by go_num, by rw [HN.out.1, HN.out.2, HG0.out], by first | trivial | rfl⟩
        case measure => simp [intOf]; omega
      · have e : q = d := by omega
        subst e
        have hwq : weigh rs (x.take q) = weigh rs x := by rw [← hd, List.take_length]
        rw [hwq]
        obtain ⟨pr, hpr⟩ : ∃ pr, weigh rs x = pr := ⟨_, rfl⟩
        rw [hpr] at hwx hbd ⊢
        rw [hs] at hbd
        have HG := Lib.hid (And.intro hg (And.intro hpr hs))
        clear hg hBi hr1 hxt hd hs hwq hpr
        gi_wp2
        exact ⟨grownBy_setCell' W1 _ _, by rw [sm_snoc, HG.out.2.1, HG.out.2.2]; exact World.cell?_setCell_same' _ _ _ (by rw [hc]; rfl), by rw [World.frozen?_setCell]; exact hf, grown_trans HG.out.1 (grownBy_setCell' W1 _ _)⟩
  case done =>
    rintro D W1 hD ⟨hc, hf, hg⟩ hK hgr
    have k1 : wa.heap.size < W1.heap.size := by have := hg.size; omega
    have HG := Lib.hid hg
    clear hg hgr y0 y1 y2 f0 hgive
    gi_wp2
    refine ⟨by simp, .inl ⟨_, _, rfl, run_takeDeferred hK, ?_⟩⟩
    have hB1 : Below w.heap.size wa W1 := (hb2.mono (by omega)).trans (below_new HG.out (by omega) (by omega))
    exact ⟨_, results_tmp rfl _ _ _, rfl, (hbw.trans hB1).trans (below_put W1 D _ (by omega))⟩
/-! as plain calls, for any net -/
theorem iWeight_yes (N m c : Nat) (p : Option Addr) (rs : List Rn) (w : World) (hr : Runs w p rs) (hm : rs.length = m) (hn : nOk N rs = true) :
    Calls Tryd.prog 33 #[.int .i64 N, .slice p m c] w fun e w' => e = .returned (.int .i64 (heavy N rs)) ∧ Below w.heap.size w w' := callsIn_wide.1 (iWeight_in N m c p rs w 0 hr hm hn)
set_option maxHeartbeats 1000000 in
theorem iWeight_no (n : Int) (m c : Nat) (p : Option Addr) (rs : List Rn) (w : World) (hr : Runs w p rs) (hm : rs.length = m) (hl : m ≤ 4000000000000000000) (hn : nOk n rs = false) :
    Calls Tryd.prog 33 #[.int .i64 n, .slice p m c] w fun e w' => e = .returned (.int .i64 (-1)) ∧ Below w.heap.size w w' := by
  have c1 := fun w h => Lib.hid (iValid_n (p := p) (c := c) w hm h hl hn)
  have H := Lib.hid hr
  clear hr hm hn
  go_enter Tryd.func33, Tryd.ntmps33
  go_wp2_with ((go_at_call 55; (with_reducible refine ((c1 _ ?_).out).mono ?_); (focus ((exact H.out.alloc _); done)); rintro e wa ⟨rfl, hb_wa⟩; have hs_wa := hb_wa.size; (try simp at hs_wa)))
  go_ret
  exact ⟨rfl, (by repeat (first | assumption | exact Below.refl _ _ | (refine below_chain ?_ (by assumption) (by first | omega | (simp <;> omega) | simp)) | (refine Below.alloc ?_ (by first | omega | (simp <;> omega) | simp) _) | (apply below_drewN) | (apply below_drew) | (refine Below.setCell ?_ (by first | omega | (simp <;> omega) | simp) _)))⟩
end Go.Proofs.YtoaomjchaihkaaaDoor
