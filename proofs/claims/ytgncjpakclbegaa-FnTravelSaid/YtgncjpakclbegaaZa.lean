/-
  A region that draws its order, by an invariant: what holds whatever has come up so far is kept by each operation that may come up next. No function of the program is named.
  What every walk here uses: that new memory changes nothing old, and the ends of walks. No function of the program is named.
  A region that draws its order, whose first operations read, compute or call functions that only make new memory, and whose last ones come in one order: one walk in the order of the text serves every order. No function of the program is named.
  Runs of a net as lists, and slices that hold them: what a slice value of runs, or of integers, reads as in a world, and that new memory does not change it. No function of the program is named.
  Nets as lists of runs: when they are valid. No function of the program is named.
  A block of integers that a call has made: what it reads as, and what stores, appends and new memory leave of it; a list of runs laid flat. No function of the program is named.
  What the two programs' checks of a number and of a run answer.
  Appending integers, or runs laid flat, to a block that the call has made, or to nil: the law at the operation. No function of the program is named.
  How the laws copy integers, compare them, mark what is theirs and look whether it holds (no runs).
  How the laws hand runs over and compare them.
  A block of slices that a call has made, and lists of integers that it holds. No function of the program is named.
  Appending integers, or runs laid flat, in a region that draws its order: the law at a step. No function of the program is named.
  Appending integers, or runs laid flat, in a region that draws its order, maybe none. No function of the program is named.
-/
import Derived.OrdersHeld
import Derived.Deep.RegionHeld
import Derived.Test.YtgncjpakclbegaaProg
import Derived.WalkKit
import Derived.LoopTactic
import Derived.RegionTactic
import Derived.Deep.QuietTactic
import Derived.BigQuiet
import Derived.IntWalk
import Derived.Lib.Hide
import Derived.Below
import Derived.Deep.RegionWith
import Derived.Deep.Draws
import Derived.StillTail
import Derived.Maps.AppendAt
import Derived.Deep.OwnRows
import Derived.Laws.MakeOwn
import Derived.Lib.SmallJoins
import Derived.Deep.AppendLies
import Derived.Deep.RegionHeld3
import Derived.Deep.RegionLaw
namespace Go.Proofs.Ytgncjpakclbegaa
open Go

def un (listed : Array Bool) : Nat → Nat
  | 0 => 0
  | n + 1 => un listed n + if listed.getD n true then 0 else 1
theorem getD_set_self (listed : Array Bool) (i : Nat) : (listed.setIfInBounds i true).getD i true = true := by
  by_cases h : i < listed.size <;> simp [h]
theorem un_other {listed : Array Bool} {i : Nat} : ∀ n, n ≤ i → un (listed.setIfInBounds i true) n = un listed n
  | 0, _ => rfl
  | n + 1, h => by simp only [un]; rw [un_other n (by omega), getD_set_ne true (by omega)]
theorem un_set {listed : Array Bool} {i : Nat} (hi : listed.getD i true = false) : ∀ n, i < n → un (listed.setIfInBounds i true) n + 1 = un listed n
  | 0, h => by omega
  | n + 1, h => by
    simp only [un]
    by_cases e : i = n
    · subst e; rw [un_other i (Nat.le_refl _), getD_set_self, hi]; simp
    · rw [getD_set_ne true e]; have := un_set hi n (by omega); omega
theorem un_zero {listed : Array Bool} : ∀ n, un listed n = 0 → ∀ j, j < n → listed.getD j true = true
  | 0, _, j, h => by omega
  | n + 1, h, j, hj => by
    simp only [un] at h
    by_cases e : j = n
    · subst e
      cases hl : listed.getD j true
      · rw [hl] at h; simp at h
      · rfl
    · exact un_zero n (by omega) j (by omega)

section
variable {P : Program} {ops : Array Oper} {Q : Exit → Act → World → Prop} {md : Region.Mode}
/-- each operation waits for earlier ones alone -/
def backward (ops : Array Oper) : Bool := (List.range ops.size).all fun i => match ops[i]? with | none => true | some o => o.after.all fun e => decide (e.on < i)
theorem backward_spec (h : backward ops = true) {i : Nat} {o : Oper} (ho : ops[i]? = some o) : ∀ e ∈ o.after, e.on < i := by
  unfold backward at h
  rw [List.all_eq_true] at h
  have := h i (by rw [List.mem_range]; exact (Array.getElem?_eq_some_iff.1 ho).1)
  rw [ho] at this
  intro e he
  have h2 := (Array.all_eq_true_iff_forall_mem.1 this) e he
  simpa using h2
theorem ready_nil (hb : backward ops = true) {listed : Array Bool} (hsz : listed.size = ops.size) (h : Region.ready md ops listed = []) : ∀ j, j < ops.size → listed.getD j true = true := by
  intro j
  induction j using Nat.strongRecOn with
  | ind j ih =>
    intro hj
    cases hl : listed.getD j true
    · exfalso
      have : j ∈ Region.ready md ops listed := by
        rw [mem_ready]
        refine ⟨hl, ops[j], Array.getElem?_eq_getElem hj, fun e he _ => ?_⟩
        have hlt := backward_spec hb (Array.getElem?_eq_getElem hj) e he
        have ht := ih e.on hlt (by omega)
        have hs : e.on < listed.size := by omega
        simp [hs] at ht ⊢; exact ht
      rw [h] at this; cases this
    · rfl
theorem wpAny_inv (hb : backward ops = true) (I : Array Bool → Act → World → Prop)
    (step : ∀ (listed : Array Bool) (a : Act) (w : World) (i : Nat) (o : Oper), I listed a w → ops[i]? = some o → listed.getD i true = false →
      (∀ e ∈ o.after, Region.binds md e = true → listed.getD e.on false = true) → wpOp P ops Q i (I (listed.setIfInBounds i true)) a w)
    (fin : ∀ (listed : Array Bool) (a : Act) (w : World), I listed a w → (∀ j, j < ops.size → listed.getD j true = true) → Q .normal a w) :
    ∀ (fuel : Nat) (listed : Array Bool) (a : Act) (w : World), listed.size = ops.size → un listed ops.size ≤ fuel → I listed a w → wpAny P md ops Q fuel listed a w
  | 0, listed, a, w, hs, hu, hI => by
    have hall := un_zero (listed := listed) ops.size (by omega)
    refine ⟨?_, fin listed a w hI hall⟩
    cases hr : Region.ready md ops listed with
    | nil => rfl
    | cons j rest =>
      have hj : j ∈ Region.ready md ops listed := by rw [hr]; exact List.mem_cons_self
      rw [mem_ready] at hj
      obtain ⟨h0, o, ho, _⟩ := hj
      have hlt := (Array.getElem?_eq_some_iff.1 ho).1
      rw [hall j hlt] at h0; cases h0
  | fuel + 1, listed, a, w, hs, hu, hI => by
    refine ⟨fun hr => fin listed a w hI (ready_nil hb hs hr), fun i hi => ?_⟩
    rw [mem_ready] at hi
    obtain ⟨h0, o, ho, hd⟩ := hi
    have hlt := (Array.getElem?_eq_some_iff.1 ho).1
    have hc := un_set h0 ops.size hlt
    exact wpOp_mono (fun a' w' h' => wpAny_inv hb I step fin fuel _ a' w' (by simpa using hs) (by omega) h') (step listed a w i o hI ho h0 hd)
theorem un_le (listed : Array Bool) : ∀ n, un listed n ≤ n
  | 0 => Nat.le_refl _
  | n + 1 => by have := un_le listed n; simp only [un]; split <;> omega
/-- the region as a whole -/
theorem wp_region_inv {id : Nat} {a : Act} {w : World} (hm : P.follows .mixedOrders = true) (hb : backward ops = true) (I : Array Bool → Act → World → Prop)
    (h0 : I (Array.replicate ops.size false) a w.drew)
    (step : ∀ (listed : Array Bool) (a : Act) (w : World) (i : Nat) (o : Oper), I listed a w → ops[i]? = some o → listed.getD i true = false →
      (∀ e ∈ o.after, Region.binds .any e = true → listed.getD e.on false = true) → wpOp P ops Q i (I (listed.setIfInBounds i true)) a w)
    (fin : ∀ (listed : Array Bool) (a : Act) (w : World), I listed a w → (∀ j, j < ops.size → listed.getD j true = true) → Q .normal a w) : (Code.region id ops true).wp P Q a w :=
  wp_region_any hm (wpAny_inv hb I step fin _ _ _ _ (by simp) (un_le _ _) h0)
end
end Go.Proofs.Ytgncjpakclbegaa
namespace Go.Proofs.Ytgncjpakclbegaa
open Go.RowKit

theorem ret_int {k : IntKind} {a b : Int} (h : a = b) : Ending.returned (.int k a) = .returned (.int k b) := by rw [h]
theorem ret_bool {a b : Bool} (h : a = b) : Ending.returned (.bool a) = .returned (.bool b) := by rw [h]
theorem below_drewN {B : Nat} {a w : World} (h : Below B a w) (n : Nat) : Below B a (w.drewN n) := ⟨h.os, h.tape, h.output, h.size, h.block⟩
theorem below_drew {B : Nat} {a w : World} (h : Below B a w) : Below B a w.drew := ⟨h.os, h.tape, h.output, h.size, h.block⟩
theorem bcell {W w1 : World} (hb : Below W.heap.size W w1) : (∀ b o, b < W.heap.size → w1.cell? ⟨b, o, none⟩ = W.cell? ⟨b, o, none⟩) ∧ (∀ b o, b < W.heap.size → w1.frozen? ⟨b, o, none⟩ = W.frozen? ⟨b, o, none⟩) :=
  ⟨fun b o h => hb.cell (p := ⟨b, o, none⟩) h, fun b o h => hb.frozen (p := ⟨b, o, none⟩) h⟩
theorem below_chain {B : Nat} {w W w' : World} (h1 : Below B w W) (h2 : Below W.heap.size W w') (hs : B ≤ W.heap.size) : Below B w w' := h1.trans (h2.mono hs)
/-- what a cell holds stays, whatever is new -/
theorem cell_alloc_keep {w : World} {b o : Nat} {v : Value} (x : Obj) (h : w.cell? ⟨b, o, none⟩ = some v) : (w.alloc x).cell? ⟨b, o, none⟩ = some v :=
  (((Below.refl _ _).alloc (Nat.le_refl _) x : Below w.heap.size w (w.alloc x)).cell (p := ⟨b, o, none⟩) (World.block_lt_of_cell? w _ h)).trans h
theorem cell_below_keep {w w' : World} {b o : Nat} {v : Value} (hb : Below w.heap.size w w') (h : w.cell? ⟨b, o, none⟩ = some v) : w'.cell? ⟨b, o, none⟩ = some v :=
  (hb.cell (p := ⟨b, o, none⟩) (World.block_lt_of_cell? w _ h)).trans h
theorem cell_drew_keep {w : World} {b o : Nat} {v : Value} (h : w.cell? ⟨b, o, none⟩ = some v) : w.drew.cell? ⟨b, o, none⟩ = some v := h
theorem cell_drewN_keep {w : World} {b o : Nat} {v : Value} (n : Nat) (h : w.cell? ⟨b, o, none⟩ = some v) : (w.drewN n).cell? ⟨b, o, none⟩ = some v := h
theorem cell_set_keep {w : World} {b o : Nat} {v : Value} {a : Addr} (u : Value) (ha : b ≠ a.block) (h : w.cell? ⟨b, o, none⟩ = some v) : (w.setCell a u).cell? ⟨b, o, none⟩ = some v :=
  (World.cell?_of_block (a := ⟨b, o, none⟩) (Below.heap_setCell w a u b ha)).trans h
end Go.Proofs.Ytgncjpakclbegaa
namespace Go.Proofs.Ytgncjpakclbegaa
open Go Go.RowKit

/-- a world that differs from w by new memory and draws alone -/
structure Ext (w : World) where
  now : World
  grown : Below w.heap.size w now
theorem Ext.refl (w : World) : Below w.heap.size w w := Below.refl _ _
instance (w : World) : Nonempty (Ext w) := ⟨⟨w, Below.refl _ _⟩⟩
theorem Ext.cell {w : World} : ∀ (d : Ext w) (b o : Nat), b < w.heap.size → d.now.cell? ⟨b, o, none⟩ = w.cell? ⟨b, o, none⟩ := fun d b o h => d.grown.cell (p := ⟨b, o, none⟩) h
def Grows (w : World) (w' : World) : Prop := ∃ d : Ext w, w' = d.now
theorem Grows.of {w w' : World} (h : Below w.heap.size w w') : ∃ d : Ext w, w' = d.now := ⟨⟨w', h⟩, rfl⟩
theorem Ext.call {P : Program} {f : FuncId} {args : Array Value} {w : World} {d : Ext w} {v : Value}
    (h : Calls P f args d.now fun e w' => e = .returned v ∧ Below d.now.heap.size d.now w') : Calls P f args d.now fun e w' => e = .returned v ∧ ∃ d' : Ext w, w' = d'.now :=
  h.mono fun _ _ ⟨he, hb⟩ => ⟨he, Grows.of (d.grown.trans (hb.mono d.grown.size))⟩
theorem Ext.call0 {P : Program} {f : FuncId} {args : Array Value} {w : World} {d : Ext w} {v : Value}
    (h : Calls P f args d.now fun e w' => e = .returned v ∧ d.now = w') : Calls P f args d.now fun e w' => e = .returned v ∧ ∃ d' : Ext w, w' = d'.now :=
  Ext.call (h.mono fun _ _ ⟨he, hb⟩ => ⟨he, by subst hb; exact Below.refl _ _⟩)
theorem Ext.calln {P : Program} {f : FuncId} {args : Array Value} {w : World} {d : Ext w} {v : Value}
    (h : Calls P f args d.now fun e w' => e = .returned v ∧ ∃ k, w' = d.now.drewN k) : Calls P f args d.now fun e w' => e = .returned v ∧ ∃ d' : Ext w, w' = d'.now :=
  Ext.call (h.mono fun _ _ ⟨he, k, hb⟩ => ⟨he, by subst hb; exact ⟨rfl, rfl, rfl, Nat.le_refl _, fun _ _ => rfl⟩⟩)

theorem wpQuiet_mono' {P : Program} {ops : Array Oper} {C : World → Prop} {Q Q' : Act → Prop} (h : ∀ a, Q a → Q' a) : ∀ (l : List Oper) (a : Act), wpQuiet P ops C Q l a → wpQuiet P ops C Q' l a
  | [], a, hq => h a hq
  | o :: l, a, hq => by
    unfold wpQuiet at hq ⊢
    split
    · rename_i hw; rw [if_pos hw] at hq; exact Oper.quiet_mono (fun a' h' => wpQuiet_mono' h l a' h') hq
    · rename_i hw; rw [if_neg hw] at hq; exact wpQuiet_mono' h l _ hq
/-! a head whose operations are quiet, a tail in one order -/
section
variable {P : Program} {C : World → Prop} {ops : Array Oper}
theorem getD_of {l : Array Bool} {i : Nat} (h : i < l.size) (a b : Bool) : l.getD i a = l.getD i b := by simp [h]
/-- the guards of the head look into the head -/
def guardsB (ops : Array Oper) (n : Nat) : Bool := (List.range n).all fun i => match ops[i]? with | none => true | some o => match o.guard with | none => true | some g => decide (g.1 < n)
theorem guards_spec {n i : Nat} {o : Oper} (h : guardsB ops n = true) (hi : i < n) (ho : ops[i]? = some o) : ∀ g, o.guard = some g → g.1 < n := by
  unfold guardsB at h
  rw [List.all_eq_true] at h
  have h1 := h i (List.mem_range.2 hi)
  rw [ho] at h1
  intro g hg
  simp only [hg] at h1
  simpa using h1
theorem wanted_head {n : Nat} {o : Oper} {t : Array Value} (hg : ∀ g, o.guard = some g → g.1 < n) : Region.wanted o (yielded (ops.extract 0 n) t) = Region.wanted o (yielded ops t) := by
  unfold Region.wanted
  cases h : o.guard with
  | none => rfl
  | some g =>
    have h1 := hg g h
    have e : (ops.extract 0 n)[g.1]? = ops[g.1]? := by
      rw [Array.getElem?_extract]; simp; omega
    have h2 : yielded (ops.extract 0 n) t g.1 = yielded ops t g.1 := by unfold yielded; rw [e]
    simp only [h2]
theorem head_get {n i : Nat} (h : i < n) : (ops.extract 0 n)[i]? = ops[i]? := by rw [Array.getElem?_extract]; simp; omega

theorem wpAny_head {n g : Nat} {Qh : Act → Prop} {Q' : Exit → Act → World → Prop} (hb : backward ops = true) (hs : Region.sinkB .any ops n = true) (hc : Region.chainB .any ops n = true) (hgd : guardsB ops n = true) (hn : n < ops.size)
    (hL : ∀ a w listed, listed.size = ops.size → (∀ j, j < n → listed.getD j true = true) → (∀ j, n ≤ j → j < ops.size → listed.getD j true = false) → C w → Qh a → wpAny P .any ops Q' g listed a w) :
    ∀ (f : Nat) (listed l2 : Array Bool) (a : Act) (w : World), l2.size = n → (∀ j, j < n → l2.getD j true = listed.getD j true) → HeadInv .any ops n listed → un listed n = f → C w →
      wpAnyQ P .any (ops.extract 0 n) C Qh f l2 a → wpAny P .any ops Q' (f + g) listed a w := by
  intro f
  induction f with
  | zero =>
    intro listed l2 a w h2 he inv hu hC h
    rw [Nat.zero_add]
    exact hL a w listed inv.size (un_zero n hu) inv.tail hC h.2
  | succ f ih =>
    intro listed l2 a w h2 he inv hu hC h
    rw [show f + 1 + g = (f + g) + 1 by omega]
    have hex : ∃ i, i < n ∧ listed.getD i true = false := by
      apply Classical.byContradiction
      intro hno
      have : ∀ m, m ≤ n → un listed m = 0 := by
        intro m
        induction m with
        | zero => intro _; rfl
        | succ m ihm =>
          intro hm
          simp only [un]
          rw [ihm (by omega)]
          cases hl : listed.getD m true
          · exact absurd ⟨m, by omega, hl⟩ hno
          · rfl
      have := this n (Nat.le_refl _)
      omega
    obtain ⟨i0, hi0, hf0⟩ := hex
    refine ⟨fun h0 => ?_, fun i hi => ?_⟩
    · have := ready_nil hb inv.size h0 i0 (by omega)
      rw [hf0] at this; cases this
    · have hin : i < n := by
        rcases Nat.lt_or_ge i n with h' | h'
        · exact h'
        · exact absurd hi (tail_waits hs hc hn inv _ i0 rfl hi0 hf0 i h')
      obtain ⟨hun, o, ho, hall⟩ := mem_ready.1 hi
      have hr : i ∈ Region.ready .any (ops.extract 0 n) l2 := by
        refine mem_ready.2 ⟨by rw [he i hin]; exact hun, o, by rw [head_get hin]; exact ho, fun e hee hbe => ?_⟩
        have hlt := backward_spec hb ho e hee
        have h3 := hall e hee hbe
        have hs1 : e.on < listed.size := by rw [inv.size]; omega
        have hs2 : e.on < l2.size := by omega
        rw [getD_of hs2 false true, he e.on (by omega), getD_of hs1 true false]
        exact h3
      have hq := h.2 i hr
      have hq' : qOp P ops C i (wpAnyQ P .any (ops.extract 0 n) C Qh f (l2.setIfInBounds i true)) a := by
        unfold qOp at hq ⊢
        rw [head_get hin] at hq
        simp only [ho] at hq ⊢
        rw [wanted_head (guards_spec hgd hin ho)] at hq
        exact hq
      refine wpOp_of_qOp hC (fun a' w' hC' hK => ?_) hq'
      refine ih _ _ a' w' (by simpa using h2) (fun j hj => ?_) (inv.set hi hin) ?_ hC' hK
      · by_cases e : i = j
        · subst e; rw [getD_set_self, getD_set_self]
        · rw [getD_set_ne true e, getD_set_ne true e]; exact he j hj
      · have := un_set hun n hin; omega
/-- the region, its head walked in the order of the text -/
theorem wp_region_head {id : Nat} {Q : Exit → Act → World → Prop} {a : Act} {w : World} {l : List Oper} (n : Nat) (hm : P.follows .mixedOrders = true) (hB : (backward l.toArray && guardsB l.toArray n && Region.lexB .any (l.take n).toArray && Region.lexTailB .any l.toArray n) = true)
    (hC : C w.drew)
    (h : wpQuiet P (l.take n).toArray C (fun a' => ∀ w', C w' → wpList P l.toArray Q (l.drop n) a' w') (l.take n) a) : (Code.region id l.toArray true).wp P Q a w := by
  rw [Bool.and_eq_true, Bool.and_eq_true, Bool.and_eq_true] at hB
  obtain ⟨⟨⟨hb, hgd⟩, hlex⟩, hT⟩ := hB
  simp only [Region.lexTailB, Bool.and_eq_true, decide_eq_true_eq] at hT
  obtain ⟨⟨⟨⟨hsel, hn⟩, hs⟩, hc⟩, hseq⟩ := hT
  simp only [Region.lexB, Bool.and_eq_true] at hlex
  have hex : (l.take n).toArray = l.toArray.extract 0 n := by simp
  have hlt : n < l.length := by simpa using hn
  have htl : (l.take n).length = n := by simp; omega
  have h0 := wpAnyQ_lex (C := C) (md := .any) hlex.1 (l.take n) 0 (Array.replicate (l.take n).toArray.size false) a (by simp) (by simpa using hlex.2) h
  rw [hex] at h0
  have hseqT : ∀ (f k : Nat) (listed : Array Bool), k + f = n → listed.size = l.toArray.size → (∀ j, j < k → listed.getD j true = true) → (∀ j, k ≤ j → j < l.toArray.size → listed.getD j true = false) →
      Region.lexHead .any l.toArray (l.toArray.size - n) f k listed = true →
      ∀ listed2 : Array Bool, listed2.size = l.toArray.size → (∀ j, j < n → listed2.getD j true = true) → (∀ j, n ≤ j → j < l.toArray.size → listed2.getD j true = false) → Region.seqB .any l.toArray (l.toArray.size - n) n listed2 = true := by
    intro f
    induction f with
    | zero =>
      intro k listed hk hsz h1 h2 hh listed2 hs2 h3 h4
      have e : k = n := by omega
      subst e
      have el : listed2 = listed := by
        apply Array.ext (by omega)
        intro i h5 h6
        have := fun (x : Array Bool) (hx : i < x.size) => (show x.getD i true = x[i] by simp [hx])
        rw [← this _ h5, ← this _ h6]
        rcases Nat.lt_or_ge i k with h7 | h7
        · rw [h3 i h7, h1 i h7]
        · rw [h4 i h7 (by omega), h2 i h7 (by omega)]
      rw [el]
      simpa [Region.lexHead] using hh
    | succ f ih =>
      intro k listed hk hsz h1 h2 hh
      simp only [Region.lexHead, Bool.and_eq_true] at hh
      refine ih (k + 1) _ (by omega) (by simpa using hsz) (fun j hj => ?_) (fun j hj hj2 => ?_) hh.2
      · by_cases e : k = j
        · subst e; exact getD_set_self _ _
        · rw [getD_set_ne true e]; exact h1 j (by omega)
      · rw [getD_set_ne true (by omega)]; exact h2 j (by omega) hj2
  have hrep : ∀ (m j : Nat), j < m → (Array.replicate m false).getD j true = false := fun m j hj => by simp [hj]
  have hun : ∀ m, m ≤ n → un (Array.replicate l.toArray.size false) m = m := by
    intro m
    induction m with
    | zero => intro _; rfl
    | succ m ih => intro hm; simp only [un]; rw [ih (by omega), hrep _ _ (by omega)]; rfl
  refine wp_region_any hm ?_
  have H := wpAny_head (C := C) (Qh := fun a' => ∀ w', C w' → wpList P l.toArray Q (l.drop n) a' w') (Q' := Q) (g := l.toArray.size - n) hb hs hc hgd hn (fun a' w' listed hsz h1 h2 hC' hQ => by
    have := wpAny_of_seq (md := .any) (Q' := Q) (l.drop n) n listed a' w' (fun j => by simp [List.getElem?_drop]) (by
      have := hseqT n 0 _ (by omega) (by simp) (fun j hj => by omega) (fun j _ hj => hrep _ j hj) hseq listed hsz h1 h2
      simpa using this) (hQ w' hC')
    simpa using this) n (Array.replicate l.toArray.size false) (Array.replicate n false) a w.drew (by simp) (fun j hj => by rw [hrep _ _ hj, hrep _ _ (by omega)])
    ⟨by simp, fun j oj _ hl => (by rw [getD_replicate_false] at hl; cases hl), fun t _ ht => hrep _ t ht⟩ (hun n (Nat.le_refl _)) hC (by simpa [htl, Nat.min_eq_left (Nat.le_of_lt hlt)] using h0)
  rw [show n + (l.toArray.size - n) = l.toArray.size by omega] at H
  exact H
end
/-- at the class of the worlds that grow (the world at hand behind a letter of its own) -/
theorem wp_region_grows {P : Program} {id : Nat} {Q : Exit → Act → World → Prop} {a : Act} {w : World} {l : List Oper} (hm : P.follows .mixedOrders = true) (hB : Region.lexB .any l.toArray = true)
    (h : ∀ W : World, (∀ b o, W.cell? ⟨b, o, none⟩ = w.cell? ⟨b, o, none⟩) → W.heap.size = w.heap.size → (∀ (d : Ext W) (b o : Nat), b < W.heap.size → d.now.cell? ⟨b, o, none⟩ = W.cell? ⟨b, o, none⟩) →
      wpQuiet P l.toArray (fun w' => ∃ d : Ext W, w' = d.now) (fun a' => ∀ w', Below w.heap.size w w' → Q .normal a' w') l a) : (Code.region id l.toArray true).wp P Q a w :=
  wp_region_quiet (C := fun w' => ∃ d : Ext w, w' = d.now) hm hB (Grows.of ⟨rfl, rfl, rfl, Nat.le_refl _, fun _ _ => rfl⟩) (by
    have := h w (fun _ _ => rfl) rfl Ext.cell
    refine wpQuiet_mono' (fun a' ha w' => ?_) _ _ this
    rintro ⟨d, rfl⟩
    exact ha _ d.grown)
theorem wp_region_grows_tail {P : Program} {id : Nat} {Q : Exit → Act → World → Prop} {a : Act} {w : World} {l : List Oper} (n : Nat) (hm : P.follows .mixedOrders = true) (hB : (backward l.toArray && guardsB l.toArray n && Region.lexB .any (l.take n).toArray && Region.lexTailB .any l.toArray n) = true)
    (h : ∀ W : World, (∀ b o, W.cell? ⟨b, o, none⟩ = w.cell? ⟨b, o, none⟩) → W.heap.size = w.heap.size → (∀ (d : Ext W) (b o : Nat), b < W.heap.size → d.now.cell? ⟨b, o, none⟩ = W.cell? ⟨b, o, none⟩) →
      wpQuiet P (l.take n).toArray (fun w' => ∃ d : Ext W, w' = d.now) (fun a' => ∀ w', Below w.heap.size w w' → wpList P l.toArray Q (l.drop n) a' w') (l.take n) a) : (Code.region id l.toArray true).wp P Q a w :=
  wp_region_head (C := fun w' => ∃ d : Ext w, w' = d.now) n hm hB (Grows.of (w := w) (w' := w.drew) ⟨rfl, rfl, rfl, Nat.le_refl _, fun _ _ => rfl⟩) (by
    have := h w (fun _ _ => rfl) rfl Ext.cell
    refine wpQuiet_mono' (fun a' ha w' => ?_) _ _ this
    rintro ⟨d, rfl⟩
    exact ha _ d.grown)
end Go.Proofs.Ytgncjpakclbegaa
namespace Go.Proofs.Ytgncjpakclbegaa
set_option linter.unusedVariables false
open Go.RowKit

/-- a run: from, to, rise, weight -/
structure Rn where
  f : Int
  t : Int
  s : Int
  g : Int
deriving DecidableEq, Inhabited

def RunAt (w : World) (B o : Nat) (r : Rn) : Prop :=
  w.cell? ⟨B, o, none⟩ = some (.int .i64 r.f) ∧ w.cell? ⟨B, o + 1, none⟩ = some (.int .i64 r.t) ∧ w.cell? ⟨B, o + 2, none⟩ = some (.int .i64 r.s) ∧ w.cell? ⟨B, o + 3, none⟩ = some (.int .i64 r.g)
/-- the slice that begins at p holds the runs rs -/
def Runs (w : World) (p : Option Addr) (rs : List Rn) : Prop :=
  rs = [] ∨ ∃ B o, p = some ⟨B, o, none⟩ ∧ B < w.heap.size ∧ ∀ i r, rs[i]? = some r → RunAt w B (o + i * 4) r
/-- the slice that begins at p holds the integers zs -/
def Ints (w : World) (p : Option Addr) (zs : List Int) : Prop :=
  zs = [] ∨ ∃ B o, p = some ⟨B, o, none⟩ ∧ B < w.heap.size ∧ ∀ i z, zs[i]? = some z → w.cell? ⟨B, o + i, none⟩ = some (.int .i64 z)

/-- the two worlds hold the same in the blocks below B -/
theorem Runs.keep {w w' : World} {p : Option Addr} {rs : List Rn} (h : Runs w p rs) (hk : ∀ B o, p = some ⟨B, o, none⟩ → w'.heap[B]? = w.heap[B]?) (hs : w.heap.size ≤ w'.heap.size) : Runs w' p rs := by
  rcases h with rfl | ⟨B, o, rfl, hB, hc⟩
  · exact .inl rfl
  · refine .inr ⟨B, o, rfl, by omega, fun i r hi => ?_⟩
    have e := hk B o rfl
    obtain ⟨h1, h2, h3, h4⟩ := hc i r hi
    exact ⟨(World.cell?_of_block (a := ⟨B, _, none⟩) e).trans h1, (World.cell?_of_block (a := ⟨B, _, none⟩) e).trans h2, (World.cell?_of_block (a := ⟨B, _, none⟩) e).trans h3, (World.cell?_of_block (a := ⟨B, _, none⟩) e).trans h4⟩
theorem Ints.keep {w w' : World} {p : Option Addr} {zs : List Int} (h : Ints w p zs) (hk : ∀ B o, p = some ⟨B, o, none⟩ → w'.heap[B]? = w.heap[B]?) (hs : w.heap.size ≤ w'.heap.size) : Ints w' p zs := by
  rcases h with rfl | ⟨B, o, rfl, hB, hc⟩
  · exact .inl rfl
  · refine .inr ⟨B, o, rfl, by omega, fun i r hi => ?_⟩
    exact (World.cell?_of_block (a := ⟨B, _, none⟩) (hk B o rfl)).trans (hc i r hi)
theorem Runs.lt {w : World} {B o : Nat} {rs : List Rn} (h : Runs w (some ⟨B, o, none⟩) rs) (hne : rs ≠ []) : B < w.heap.size := by
  rcases h with rfl | ⟨B', o', e, hB, _⟩
  · exact absurd rfl hne
  · simp at e; obtain ⟨rfl, rfl⟩ := e; exact hB
/-- new memory alone -/
theorem Runs.below {w w' : World} {p : Option Addr} {rs : List Rn} (h : Runs w p rs) (hb : Below w.heap.size w w') : Runs w' p rs := by
  rcases h with rfl | ⟨B, o, rfl, hB, hc⟩
  · exact .inl rfl
  · exact Runs.keep (.inr ⟨B, o, rfl, hB, hc⟩) (fun B' o' e => by simp at e; obtain ⟨rfl, rfl⟩ := e; exact hb.block _ hB) hb.size
theorem Ints.below {w w' : World} {p : Option Addr} {zs : List Int} (h : Ints w p zs) (hb : Below w.heap.size w w') : Ints w' p zs := by
  rcases h with rfl | ⟨B, o, rfl, hB, hc⟩
  · exact .inl rfl
  · exact Ints.keep (.inr ⟨B, o, rfl, hB, hc⟩) (fun B' o' e => by simp at e; obtain ⟨rfl, rfl⟩ := e; exact hb.block _ hB) hb.size
theorem Runs.drewN {w : World} {p : Option Addr} {rs : List Rn} (h : Runs w p rs) (n : Nat) : Runs (w.drewN n) p rs := h
theorem Ints.drewN {w : World} {p : Option Addr} {zs : List Int} (h : Ints w p zs) (n : Nat) : Ints (w.drewN n) p zs := h
theorem Runs.alloc {w : World} {p : Option Addr} {rs : List Rn} (h : Runs w p rs) (o : Obj) : Runs (w.alloc o) p rs := h.below ((Below.refl _ _).alloc (Nat.le_refl _) _)
theorem Ints.alloc {w : World} {p : Option Addr} {zs : List Int} (h : Ints w p zs) (o : Obj) : Ints (w.alloc o) p zs := h.below ((Below.refl _ _).alloc (Nat.le_refl _) _)
/-- one block alone is written -/
theorem Runs.grown {w w' : World} {p : Option Addr} {rs : List Rn} {g : Nat} (h : Runs w p rs) (hg : w.grownBy w' (some g)) (hne : ∀ o, p ≠ some ⟨g, o, none⟩) : Runs w' p rs := by
  rcases h with rfl | ⟨B, o, rfl, hB, hc⟩
  · exact .inl rfl
  · exact Runs.keep (.inr ⟨B, o, rfl, hB, hc⟩) (fun B' o' e => by simp at e; obtain ⟨rfl, rfl⟩ := e; exact hg.block _ hB (fun e => by simp at e; subst e; exact hne _ rfl)) hg.size
theorem Ints.grown {w w' : World} {p : Option Addr} {zs : List Int} {g : Nat} (h : Ints w p zs) (hg : w.grownBy w' (some g)) (hne : ∀ o, p ≠ some ⟨g, o, none⟩) : Ints w' p zs := by
  rcases h with rfl | ⟨B, o, rfl, hB, hc⟩
  · exact .inl rfl
  · exact Ints.keep (.inr ⟨B, o, rfl, hB, hc⟩) (fun B' o' e => by simp at e; obtain ⟨rfl, rfl⟩ := e; exact hg.block _ hB (fun e => by simp at e; subst e; exact hne _ rfl)) hg.size
/-- at an index -/
theorem Runs.at {w : World} {p : Option Addr} {rs : List Rn} (h : Runs w p rs) {i : Nat} (hi : i < rs.length) : ∃ B o r, p = some ⟨B, o, none⟩ ∧ rs[i]? = some r ∧ B < w.heap.size ∧ RunAt w B (o + i * 4) r := by
  rcases h with rfl | ⟨B, o, rfl, hB, hc⟩
  · simp at hi
  · exact ⟨B, o, rs[i], rfl, by simp [hi], hB, hc i _ (by simp [hi])⟩
theorem Ints.at {w : World} {p : Option Addr} {zs : List Int} (h : Ints w p zs) {i : Nat} (hi : i < zs.length) : ∃ B o z, p = some ⟨B, o, none⟩ ∧ zs[i]? = some z ∧ B < w.heap.size ∧ w.cell? ⟨B, o + i, none⟩ = some (.int .i64 z) := by
  rcases h with rfl | ⟨B, o, rfl, hB, hc⟩
  · simp at hi
  · exact ⟨B, o, zs[i], rfl, by simp [hi], hB, hc i _ (by simp [hi])⟩
end Go.Proofs.Ytgncjpakclbegaa
namespace Go.Proofs.Ytgncjpakclbegaa
set_option linter.unusedVariables false

def rOk (n : Int) (r : Rn) : Bool :=
  decide (0 ≤ r.f ∧ r.f < n) && decide (0 ≤ r.t ∧ r.t < n) && !decide (r.f = r.t) && decide (-100000 ≤ r.s ∧ r.s ≤ 100000) && decide (1 ≤ r.g ∧ r.g ≤ 9)
def nOk (n : Int) (rs : List Rn) : Bool := decide (2 ≤ n ∧ n ≤ 6) && decide (rs.length ≤ 12) && rs.all (rOk n)

theorem rOk_true {n : Int} {r : Rn} (h : rOk n r = true) : 0 ≤ r.f ∧ r.f < n ∧ 0 ≤ r.t ∧ r.t < n ∧ r.f ≠ r.t ∧ -100000 ≤ r.s ∧ r.s ≤ 100000 ∧ 1 ≤ r.g ∧ r.g ≤ 9 := by
  simp [rOk] at h; omega
theorem rOk_of {n : Int} {r : Rn} (h1 : 0 ≤ r.f) (h2 : r.f < n) (h3 : 0 ≤ r.t) (h4 : r.t < n) (h5 : r.f ≠ r.t) (h6 : -100000 ≤ r.s) (h7 : r.s ≤ 100000) (h8 : 1 ≤ r.g) (h9 : r.g ≤ 9) : rOk n r = true := by
  simp [rOk]; omega
theorem nOk_true {n : Int} {rs : List Rn} (h : nOk n rs = true) : 2 ≤ n ∧ n ≤ 6 ∧ rs.length ≤ 12 ∧ ∀ (i : Nat) (r : Rn), rs[i]? = some r → rOk n r = true := by
  simp [nOk] at h
  obtain ⟨⟨⟨h1, h2⟩, h3⟩, h4⟩ := h
  exact ⟨h1, h2, h3, fun i r hi => h4 r (List.mem_of_getElem? hi)⟩
theorem nOk_of {n : Int} {rs : List Rn} (h1 : 2 ≤ n) (h2 : n ≤ 6) (h3 : rs.length ≤ 12) (h4 : ∀ (i : Nat) (r : Rn), rs[i]? = some r → rOk n r = true) : nOk n rs = true := by
  have h5 : ∀ r ∈ rs, rOk n r = true := fun r hr => by
    obtain ⟨i, hi⟩ := List.getElem?_of_mem hr
    exact h4 i r hi
  simp [nOk, h1, h2, h3]
  exact h5
theorem nOk_no {n : Int} {rs : List Rn} {i : Nat} {r : Rn} (hi : rs[i]? = some r) (h : rOk n r = false) : nOk n rs = false := by
  rw [Bool.eq_false_iff]; intro hn
  have := (nOk_true hn).2.2.2 i r hi
  rw [h] at this; cases this
theorem nOk_size {n : Int} {rs : List Rn} (h : ¬ (2 ≤ n ∧ n ≤ 6 ∧ rs.length ≤ 12)) : nOk n rs = false := by
  rw [Bool.eq_false_iff]; intro hn
  obtain ⟨h1, h2, h3, _⟩ := nOk_true hn
  exact h ⟨h1, h2, h3⟩
/-- all the first k runs are valid -/
def okTo (n : Int) (rs : List Rn) (k : Nat) : Prop := ∀ (i : Nat) (r : Rn), i < k → rs[i]? = some r → rOk n r = true
theorem okTo_zero (n : Int) (rs : List Rn) : okTo n rs 0 := fun _ _ h => by omega
theorem okTo_succ {n : Int} {rs : List Rn} {k : Nat} {r : Rn} (h : okTo n rs k) (hr : rs[k]? = some r) (hk : rOk n r = true) : okTo n rs (k + 1) := fun i r' hi hr' => by
  by_cases e : i = k
  · subst e; rw [hr] at hr'; cases hr'; exact hk
  · exact h i r' (by omega) hr'
theorem nOk_of_to {n : Int} {rs : List Rn} (h1 : 2 ≤ n) (h2 : n ≤ 6) (h3 : rs.length ≤ 12) (h : okTo n rs rs.length) : nOk n rs = true :=
  nOk_of h1 h2 h3 fun i r hi => h i r (List.getElem?_eq_some_iff.1 hi).1 hi
end Go.Proofs.Ytgncjpakclbegaa
namespace Go.Proofs.Ytgncjpakclbegaa
open Go.RowKit
set_option linter.unusedVariables false

def ivs (xs : List Int) : List Value := xs.map (.int .i64)
/-- the block g is a row of cap elements of sz cells, the first n of which hold xs -/
def Own (w : World) (g : Nat) (T : TypeId) (sz n cap : Nat) (xs : List Int) : Prop :=
  w.ownsRow g T sz (.slice (some ⟨g, 0, none⟩) n cap) n (ivs xs)
section
variable {w w' : World} {g : Nat} {T : TypeId} {sz n cap : Nat} {xs : List Int}
theorem Own.body (h : Own w g T sz n cap xs) : ∃ cur, w.heap[g]? = some (.cells cur T (0, 0)) ∧ n ≤ cap ∧ cap ≤ maxLen ∧ cur.size = cap * sz ∧ cur.toList.take (n * sz) = ivs xs ∧ xs.length = n * sz := by
  obtain ⟨hl, hn | ⟨g', cap', cur, e, hb, hg, h1, h2, h3, h4⟩⟩ := h
  · simp at hn
  · simp at e
    obtain ⟨rfl, rfl⟩ := e
    exact ⟨cur, hg, h1, h2, h3, h4, by simpa [ivs] using hl⟩
theorem Own.of {cur : Array Value} (h0 : w.heap[g]? = some (.cells cur T (0, 0))) (h1 : n ≤ cap) (h2 : cap ≤ maxLen) (h3 : cur.size = cap * sz) (h4 : cur.toList.take (n * sz) = ivs xs) (h5 : xs.length = n * sz) : Own w g T sz n cap xs :=
  ⟨by simpa [ivs] using h5, .inr ⟨g, cap, cur, rfl, Nat.le_refl _, h0, h1, h2, h3, h4⟩⟩
theorem Own.lt (h : Own w g T sz n cap xs) : g < w.heap.size := by
  obtain ⟨cur, hg, _⟩ := h.body
  exact (Array.getElem?_eq_some_iff.1 hg).1
theorem Own.len (h : Own w g T sz n cap xs) : xs.length = n * sz := by obtain ⟨_, _, _, _, _, _, h⟩ := h.body; exact h
theorem Own.cells (h : Own w g T sz n cap xs) {i : Nat} {z : Int} (hi : xs[i]? = some z) : w.cell? ⟨g, i, none⟩ = some (.int .i64 z) := by
  obtain ⟨cur, hg, h1, h2, h3, h4, h5⟩ := h.body
  have hlt := (List.getElem?_eq_some_iff.1 hi).1
  have e : (cur.toList.take (n * sz))[i]? = some (.int .i64 z) := by rw [h4]; simp [ivs, hi]
  rw [List.getElem?_take] at e
  split at e
  · rw [Joins.cell_of_block hg]; simpa using e
  · cases e
theorem Own.frozen (h : Own w g T sz n cap xs) (i : Nat) : w.frozen? ⟨g, i, none⟩ = false := by
  obtain ⟨cur, hg, _⟩ := h.body
  exact Joins.unfrozen_of_block hg i
theorem Own.block (h : Own w g T sz n cap xs) (e : w'.heap[g]? = w.heap[g]?) : Own w' g T sz n cap xs := by
  obtain ⟨cur, hg, h1, h2, h3, h4, h5⟩ := h.body
  exact .of (e.trans hg) h1 h2 h3 h4 h5
theorem Own.below (h : Own w g T sz n cap xs) (hb : Below w.heap.size w w') : Own w' g T sz n cap xs := h.block (hb.block _ h.lt)
theorem Own.grown {g' : Nat} (h : Own w g T sz n cap xs) (hg : w.grownBy w' (some g')) (hne : g ≠ g') : Own w' g T sz n cap xs := h.block (hg.block _ h.lt (by simpa using hne))
theorem Own.alloc (h : Own w g T sz n cap xs) (o : Obj) : Own (w.alloc o) g T sz n cap xs := h.block (Deep.blk_alloc_lt _ _ _ h.lt)
theorem Own.drewN (h : Own w g T sz n cap xs) (k : Nat) : Own (w.drewN k) g T sz n cap xs := h
theorem Own.setOther (h : Own w g T sz n cap xs) {a : Addr} (ha : g ≠ a.block) (v : Value) : Own (w.setCell a v) g T sz n cap xs := h.block (Deep.blk_setCell_other _ _ _ _ ha)
theorem Own.set (h : Own w g T sz n cap xs) (i : Nat) (z : Int) (hi : i < xs.length) : Own (w.setCell ⟨g, i, none⟩ (.int .i64 z)) g T sz n cap (xs.set i z) := by
  obtain ⟨cur, hg, h1, h2, h3, h4, h5⟩ := h.body
  refine .of (Joins.block_setCell hg _) h1 h2 (by simpa using h3) ?_ (by simpa using h5)
  have : (cur.setIfInBounds i (.int .i64 z)).toList.take (n * sz) = (cur.toList.take (n * sz)).set i (.int .i64 z) := by
    rw [Array.toList_setIfInBounds, List.take_set]
  rw [this, h4]
  simp [ivs, List.map_set]
theorem Own.ints (h : Own w g T 1 n cap xs) : Ints w (some ⟨g, 0, none⟩) xs :=
  .inr ⟨g, 0, rfl, h.lt, fun i z hi => by rw [Nat.zero_add]; exact h.cells hi⟩
/-- what an append law wants -/
theorem Own.row (h : Own w g T sz n cap xs) {b : Nat} (hb : b ≤ g) : w.ownsRow b T sz (.slice (some ⟨g, 0, none⟩) n cap) n (ivs xs) := Joins.ownsRow_le h hb
end

/-- runs laid flat -/
def flat : List Rn → List Int
  | [] => []
  | r :: rs => r.f :: r.t :: r.s :: r.g :: flat rs
theorem flat_len : ∀ rs : List Rn, (flat rs).length = rs.length * 4
  | [] => rfl
  | r :: rs => by simp [flat, flat_len rs]; omega
theorem flat_append : ∀ xs ys : List Rn, flat (xs ++ ys) = flat xs ++ flat ys
  | [], bs => rfl
  | r :: xs, ys => by simp [flat, flat_append xs ys]
theorem flat_at : ∀ {rs : List Rn} {i : Nat} {r : Rn}, rs[i]? = some r → (flat rs)[i * 4]? = some r.f ∧ (flat rs)[i * 4 + 1]? = some r.t ∧ (flat rs)[i * 4 + 2]? = some r.s ∧ (flat rs)[i * 4 + 3]? = some r.g
  | [], i, r, h => by simp at h
  | a :: rs, 0, r, h => by simp at h; subst h; simp [flat]
  | a :: rs, i + 1, r, h => by
    have := flat_at (rs := rs) (i := i) (r := r) (by simpa using h)
    simp only [flat, show (i + 1) * 4 = i * 4 + 4 by omega]
    simpa [show i * 4 + 4 = i * 4 + 1 + 1 + 1 + 1 from rfl, show i * 4 + 4 + 1 = i * 4 + 1 + 1 + 1 + 1 + 1 from rfl, show i * 4 + 4 + 2 = i * 4 + 2 + 1 + 1 + 1 + 1 from rfl, show i * 4 + 4 + 3 = i * 4 + 3 + 1 + 1 + 1 + 1 from rfl] using this
theorem flat_set : ∀ {rs : List Rn} {i : Nat} (r : Rn), i < rs.length → flat (rs.set i r) = ((((flat rs).set (i * 4) r.f).set (i * 4 + 1) r.t).set (i * 4 + 2) r.s).set (i * 4 + 3) r.g
  | [], i, r, h => by simp at h
  | a :: rs, 0, r, h => by simp [flat]
  | a :: rs, i + 1, r, h => by
    have := flat_set (rs := rs) (i := i) r (by simpa using h)
    simp only [List.set_cons_succ, flat, show (i + 1) * 4 = i * 4 + 1 + 1 + 1 + 1 by omega]
    rw [this]
section
variable {w w' : World} {g : Nat} {T : TypeId} {n cap : Nat} {rs : List Rn}
theorem Own.runs (h : Own w g T 4 n cap (flat rs)) : Runs w (some ⟨g, 0, none⟩) rs :=
  .inr ⟨g, 0, rfl, h.lt, fun i r hi => by
    obtain ⟨h1, h2, h3, h4⟩ := flat_at hi
    rw [Nat.zero_add]
    exact ⟨h.cells h1, h.cells h2, h.cells h3, h.cells h4⟩⟩
theorem Own.runAt (h : Own w g T 4 n cap (flat rs)) {i : Nat} {r : Rn} (hi : rs[i]? = some r) : RunAt w g (i * 4) r := by
  obtain ⟨h1, h2, h3, h4⟩ := flat_at hi
  exact ⟨h.cells h1, h.cells h2, h.cells h3, h.cells h4⟩
theorem Own.lenR (h : Own w g T 4 n cap (flat rs)) : rs.length = n := by have := h.len; rw [flat_len] at this; omega
theorem Own.set4 (h : Own w g T 4 n cap (flat rs)) {i : Nat} (hi : i < rs.length) (r : Rn) :
    Own ((((w.setCell ⟨g, i * 4, none⟩ (.int .i64 r.f)).setCell ⟨g, i * 4 + 1, none⟩ (.int .i64 r.t)).setCell ⟨g, i * 4 + 2, none⟩ (.int .i64 r.s)).setCell ⟨g, i * 4 + 3, none⟩ (.int .i64 r.g)) g T 4 n cap (flat (rs.set i r)) := by
  have hl := flat_len rs
  rw [flat_set r hi]
  refine (((h.set (i * 4) r.f (by omega)).set (i * 4 + 1) r.t ?_).set (i * 4 + 2) r.s ?_).set (i * 4 + 3) r.g ?_ <;> simp <;> omega
theorem Own.setT (h : Own w g T 4 n cap (flat rs)) {i : Nat} {r : Rn} (hi : rs[i]? = some r) (z : Int) : Own (w.setCell ⟨g, i * 4 + 1, none⟩ (.int .i64 z)) g T 4 n cap (flat (rs.set i { r with t := z })) := by
  have hlt := (List.getElem?_eq_some_iff.1 hi).1
  have hl := flat_len rs
  have := h.set (i * 4 + 1) z (by omega)
  rw [flat_set _ hlt]
  obtain ⟨h1, h2, h3, h4⟩ := flat_at hi
  have e : (flat rs).set (i * 4 + 1) z = (((((flat rs).set (i * 4) r.f).set (i * 4 + 1) z).set (i * 4 + 2) r.s).set (i * 4 + 3) r.g) := by
    apply List.ext_getElem?
    intro j
    simp only [List.getElem?_set]
    by_cases e3 : i * 4 + 3 = j
    · subst e3; simp [h4, hl]; omega
    · by_cases e2 : i * 4 + 2 = j
      · subst e2; simp [h3, hl]; omega
      · by_cases e1 : i * 4 + 1 = j
        · subst e1; simp [hl]
        · by_cases e0 : i * 4 = j
          · subst e0; simp [h1, hl]; omega
          · simp [e0, e1, e2, e3]
  rw [← e]; exact this
end

def fill (k : Nat) (rs : List Rn) : List Rn := rs.take k ++ List.replicate (rs.length - k) ⟨0, 0, 0, 0⟩
theorem fill_zero (rs : List Rn) : fill 0 rs = List.replicate rs.length ⟨0, 0, 0, 0⟩ := by simp [fill]
theorem fill_all (rs : List Rn) : fill rs.length rs = rs := by simp [fill]
theorem fill_len (k : Nat) (rs : List Rn) (h : k ≤ rs.length) : (fill k rs).length = rs.length := by simp [fill]; omega
theorem fill_set {k : Nat} {rs : List Rn} {r : Rn} (h : rs[k]? = some r) : (fill k rs).set k r = fill (k + 1) rs := by
  have hlt := (List.getElem?_eq_some_iff.1 h).1
  unfold fill
  rw [List.set_append_right _ _ (by simp; omega)]
  have e1 : rs.length - k = (rs.length - (k + 1)) + 1 := by omega
  have e2 : k - (rs.take k).length = 0 := by simp; omega
  rw [e2, e1, List.replicate_succ, List.set_cons_zero, List.take_add_one, h]
  simp
def fillI (k : Nat) (zs : List Int) : List Int := zs.take k ++ List.replicate (zs.length - k) 0
theorem fillI_zero (zs : List Int) : fillI 0 zs = List.replicate zs.length 0 := by simp [fillI]
theorem fillI_all (zs : List Int) : fillI zs.length zs = zs := by simp [fillI]
theorem fillI_len (k : Nat) (zs : List Int) (h : k ≤ zs.length) : (fillI k zs).length = zs.length := by simp [fillI]; omega
theorem fillI_set {k : Nat} {zs : List Int} {z : Int} (h : zs[k]? = some z) : (fillI k zs).set k z = fillI (k + 1) zs := by
  have hlt := (List.getElem?_eq_some_iff.1 h).1
  unfold fillI
  rw [List.set_append_right _ _ (by simp; omega)]
  have e1 : zs.length - k = (zs.length - (k + 1)) + 1 := by omega
  have e2 : k - (zs.take k).length = 0 := by simp; omega
  rw [e2, e1, List.replicate_succ, List.set_cons_zero, List.take_add_one, h]
  simp
theorem flat_zeros (n : Nat) : flat (List.replicate n ⟨0, 0, 0, 0⟩) = List.replicate (n * 4) 0 := by
  induction n with
  | zero => rfl
  | succ n ih => rw [List.replicate_succ, flat, ih, show (n + 1) * 4 = n * 4 + 1 + 1 + 1 + 1 by omega]; simp [List.replicate_succ]

/-- what make lays -/
theorem Own.made (w : World) (T : TypeId) (n sz : Nat) (hs : 0 < sz) (hn : n ≤ maxLen) : Own (w.alloc (.cells (madeCells (Array.replicate sz (.int .i64 0)) (n * sz)) T)) w.heap.size T sz n n (List.replicate (n * sz) 0) := by
  refine .of (Deep.blk_alloc_new _ _) (Nat.le_refl _) hn (size_madeCells _ _) ?_ (by simp)
  rw [List.take_of_length_le (by simp [size_madeCells])]
  apply List.ext_getElem?
  intro i
  by_cases h : i < n * sz
  · simp [madeCells, ivs, h, Nat.mod_lt _ hs]
  · simp [madeCells, ivs, h]
/-- what a literal slice lays -/
theorem Own.lit (w : World) (T : TypeId) (xs : List Int) (hn : xs.length ≤ maxLen) : Own (w.alloc (.cells (xs.map (Value.int .i64)).toArray T)) w.heap.size T 1 xs.length xs.length xs := by
  refine .of (Deep.blk_alloc_new _ _) (Nat.le_refl _) hn (by simp) ?_ (by simp)
  rw [List.take_of_length_le (by simp)]
  rfl
end Go.Proofs.Ytgncjpakclbegaa
namespace Go.Proofs.Ytgncjpakclbegaa
open Go.RowKit
set_option linter.unusedVariables false

theorem nWithin (n m : Int) (b : Bool) (w : World) (hm : 0 ≤ m) (hm' : m ≤ 4000000000000000000) (h : decide (-m ≤ n ∧ n ≤ m) = b) :
    Calls Try.prog 125 #[.int .i64 n, .int .i64 m] w fun e w' => e = .returned (.bool b) ∧ w = w' := by
  subst h
  by_cases h1 : -m ≤ n <;> by_cases h2 : n ≤ m <;>
  · go_enter Try.func125, Try.ntmps125
    go_wp2_with fail
    go_ret
    simp [h1, h2]
theorem nIn (n l h : Int) (b : Bool) (w : World) (hb : decide (l ≤ n ∧ n ≤ h) = b) :
    Calls Try.prog 100 #[.int .i64 n, .int .i64 l, .int .i64 h] w fun e w' => e = .returned (.bool b) ∧ w = w' := by
  subst hb
  by_cases h1 : l ≤ n <;> by_cases h2 : n ≤ h <;>
  · go_enter Try.func100, Try.ntmps100
    go_wp2_with fail
    go_ret
    simp [h1, h2]
end Go.Proofs.Ytgncjpakclbegaa
namespace Go.Proofs.Ytgncjpakclbegaa
set_option linter.unusedVariables false
open Go.RowKit

/-- where an append may have left the elements: in the same block or in one that is new -/
theorem wp_append {P : Program} (w : World) {ops : Array Oper} {rest : List Oper} {o : Oper} {a : Act} {Q : Exit → Act → World → Prop} (hgd : o.guard = none) (s x : Operand) (t : TypeId)
    (ho : o.op = .call { callee := .builtin .append, args := #[s, x], argTypes := #[t, t] })
    (e : TypeId) (z : Value) (sz bytes : Nat) (ht : P.underlying t = some (.slice e)) (hinfo : (P.info? e).map (fun i => (i.zero, i.size, i.bytes)) = some (some z, sz, bytes)) (hzs : z.cells.size = sz) (hsz : 0 < sz) (hby : bytes ≤ 32)
    (g n cap : Nat) (xs : List Int) (hs : a.eval s = .slice (some ⟨g, 0, none⟩) n cap) (hown : Own w g e sz n cap xs)
    (ad : Addr) (m c : Nat) (news : List Int) (hx : a.eval x = .slice (some ad) m c) (hl : news.length = m * sz) (hnews : ∀ (j : Nat) (z : Int), news[j]? = some z → w.cell? (ad.add j) = some (.int .i64 z)) (h63 : n + m ≤ 4194304)
    (h : ∀ g' cap' w', Own w' g' e sz (n + m) cap' (xs ++ news) → w.grownBy w' (some g) → (g' = g ∨ g' = w.heap.size) → w.heap.size ≤ w'.heap.size → wpList P ops Q rest (a.put o.dst (.slice (some ⟨g', 0, none⟩) (n + m) cap')) w') :
    wpList P ops Q (o :: rest) a w := by
  obtain ⟨i, hi, hzz⟩ := Option.map_eq_some_iff.1 hinfo
  simp only [Prod.mk.injEq] at hzz
  obtain ⟨hz, hs', hb⟩ := hzz
  have h32 : (n + m) * bytes ≤ 4194304 * 32 := Nat.mul_le_mul h63 hby
  refine wpList_append_own_at w hgd s x t ho 0 e i z sz bytes ht hi hz hs' hb hzs hsz _ n (ivs xs) hs (hown.row (Nat.zero_le _)) ad m c (ivs news) hx (by simpa [ivs] using hl) ?_ ?_ (by unfold maxLen; omega) (by omega) (Nat.zero_le _) ?_
  · intro j u hu
    rw [ivs, List.getElem?_map] at hu
    obtain ⟨z', hz', rfl⟩ := Option.map_eq_some_iff.1 hu
    exact hnews j z' hz'
  · intro u hu
    rw [ivs, List.mem_map] at hu
    obtain ⟨z', _, rfl⟩ := hu
    rfl
  · intro v' w' hown' hg hnil hloc
    have hgw : w.grownBy w' (some g) := hg
    obtain ⟨hl', ⟨rfl, h0⟩ | ⟨g', cap', cur, rfl, hb', hgg, h1, h2, h3, h4⟩⟩ := hown'
    · have := hnil.1 rfl
      simp at this
    · refine h g' cap' w' ⟨by simpa [ivs] using hl', .inr ⟨g', cap', cur, rfl, Nat.le_refl _, hgg, h1, h2, h3, by rw [h4]; simp [ivs]⟩⟩ hgw ?_ hgw.size
      simpa [Value.ownBlock] using hloc
/-- .. where nothing was there before -/
theorem wp_append_nil {P : Program} (w : World) {ops : Array Oper} {rest : List Oper} {o : Oper} {a : Act} {Q : Exit → Act → World → Prop} (hgd : o.guard = none) (s x : Operand) (t : TypeId)
    (ho : o.op = .call { callee := .builtin .append, args := #[s, x], argTypes := #[t, t] })
    (e : TypeId) (z : Value) (sz bytes : Nat) (ht : P.underlying t = some (.slice e)) (hinfo : (P.info? e).map (fun i => (i.zero, i.size, i.bytes)) = some (some z, sz, bytes)) (hzs : z.cells.size = sz) (hsz : 0 < sz) (hby : bytes ≤ 32)
    (hs : a.eval s = .slice none 0 0)
    (ad : Addr) (m c : Nat) (news : List Int) (hx : a.eval x = .slice (some ad) m c) (hm : 0 < m) (hl : news.length = m * sz) (hnews : ∀ (j : Nat) (z : Int), news[j]? = some z → w.cell? (ad.add j) = some (.int .i64 z)) (h63 : m ≤ 4194304)
    (h : ∀ cap' w', Own w' w.heap.size e sz m cap' news → Below w.heap.size w w' → w.heap.size < w'.heap.size → wpList P ops Q rest (a.put o.dst (.slice (some ⟨w.heap.size, 0, none⟩) m cap')) w') :
    wpList P ops Q (o :: rest) a w := by
  obtain ⟨i, hi, hzz⟩ := Option.map_eq_some_iff.1 hinfo
  simp only [Prod.mk.injEq] at hzz
  obtain ⟨hz, hs', hb⟩ := hzz
  have h32 : m * bytes ≤ 4194304 * 32 := Nat.mul_le_mul h63 hby
  refine wpList_append_own_at w hgd s x t ho 0 e i z sz bytes ht hi hz hs' hb hzs hsz _ 0 [] hs (World.ownsRow_nil _ _ _ _) ad m c (ivs news) hx (by simpa [ivs] using hl) ?_ ?_ (by unfold maxLen; omega) (by rw [Nat.zero_add]; omega) (Nat.zero_le _) ?_
  · intro j u hu
    rw [ivs, List.getElem?_map] at hu
    obtain ⟨z', hz', rfl⟩ := Option.map_eq_some_iff.1 hu
    exact hnews j z' hz'
  · intro u hu
    rw [ivs, List.mem_map] at hu
    obtain ⟨z', _, rfl⟩ := hu
    rfl
  · intro v' w' hown' hg hnil hloc
    rw [Nat.zero_add] at hown'
    obtain ⟨hl', ⟨rfl, h0⟩ | ⟨g', cap', cur, rfl, hb', hgg, h1, h2, h3, h4⟩⟩ := hown'
    · omega
    · have e1 : g' = w.heap.size := by simpa [Value.ownBlock] using hloc
      subst e1
      exact h cap' w' ⟨by simpa [ivs] using hl', .inr ⟨_, cap', cur, rfl, Nat.le_refl _, hgg, h1, h2, h3, by rw [h4]; simp [ivs]⟩⟩ ⟨hg.os, hg.tape, hg.output, hg.size, fun k hk => hg.block k hk (by simp [Value.ownBlock])⟩ (Array.getElem?_eq_some_iff.1 hgg).1
/-- a change on a new block alone is none below -/
theorem below_gr {B g : Nat} {a w w' : World} (h : Below B a w) (hg : w.grownBy w' (some g)) (hB : B ≤ g) (hs : B ≤ w.heap.size) : Below B a w' :=
  ⟨hg.os.trans h.os, hg.tape.trans h.tape, hg.output.trans h.output, Nat.le_trans h.size hg.size, fun i hi => (hg.block i (Nat.lt_of_lt_of_le hi hs) (by simp; omega)).trans (h.block i hi)⟩
/-- an empty literal slice -/
theorem Own.empty (w : World) (T : TypeId) (sz : Nat) : Own (w.alloc (.cells #[] T)) w.heap.size T sz 0 0 [] :=
  .of (Deep.blk_alloc_new _ _) (Nat.le_refl _) (Nat.zero_le _) (by simp) (by simp [ivs]) (by simp)
end Go.Proofs.Ytgncjpakclbegaa
namespace Go.Proofs.Ytgncjpakclbegaa
open Go.RowKit
set_option linter.unusedVariables false

theorem info_int : (Try.prog.info? 3).map (fun i => (i.zero, i.size, i.bytes)) = some (some (.int .i64 0), 1, 8) := by kernel_rfl
theorem made_ints (w : World) (n : Nat) (hn : n ≤ 1048576) : (Instr.makeSlice 46 (.int .i64 (n : Int)) (.int .i64 (n : Int))).run Try.prog w = .ok (.slice (some ⟨w.heap.size, 0, none⟩) n n) (w.alloc (.cells (madeCells (Array.replicate 1 (.int .i64 0)) (n * 1)) 3)) := by
  obtain ⟨i, hi, hzz⟩ := Option.map_eq_some_iff.1 info_int
  simp only [Prod.mk.injEq] at hzz
  obtain ⟨hz, hs, hb⟩ := hzz
  have := run_make (P := Try.prog) w 46 3 i _ Try.underlying46 hi hz .i64 .i64 n n (by omega) (Int.le_refl _) (by rw [hb]; omega) (by omega)
  simp only [Int.toNat_natCast, hs] at this
  exact this

def grew (w w' : World) (g : Nat) : Prop := w.grownBy w' (some g) ∧ w'.heap.size = w.heap.size
theorem grew.refl (w : World) (g : Nat) : grew w w g := ⟨⟨rfl, rfl, rfl, Nat.le_refl _, fun _ _ _ => rfl⟩, rfl⟩
theorem grew.set {w w' : World} {g : Nat} (h : grew w w' g) (o : Nat) (v : Value) : grew w (w'.setCell ⟨g, o, none⟩ v) g :=
  ⟨⟨h.1.os, h.1.tape, h.1.output, by simpa [World.setCell] using h.1.size, fun i hi hne => (Below.heap_setCell w' ⟨g, o, none⟩ v i (by rintro rfl; exact hne rfl)).trans (h.1.block i hi hne)⟩, by simpa [World.setCell] using h.2⟩

/-- s, s + 1, .. -/
def seqI (s : Int) (n : Nat) : List Int := (List.range n).map (fun i : Nat => s + (i : Int))
theorem seqI_len (s : Int) (n : Nat) : (seqI s n).length = n := by simp [seqI]
theorem seqI_at {s : Int} {n i : Nat} (h : i < n) : (seqI s n)[i]? = some (s + i) := by unfold seqI; rw [List.getElem?_map, List.getElem?_range h]; rfl
/-- the first k marked from s on -/
def mkS (s : Int) (k : Nat) (xs : List Int) : List Int := seqI s k ++ xs.drop k
theorem mkS_zero (s : Int) (xs : List Int) : mkS s 0 xs = xs := by simp [mkS, seqI]
theorem mkS_len {s : Int} {k : Nat} {xs : List Int} (h : k ≤ xs.length) : (mkS s k xs).length = xs.length := by simp [mkS, seqI]; omega
theorem mkS_all {s : Int} {xs : List Int} : mkS s xs.length xs = seqI s xs.length := by simp [mkS]
theorem mkS_set {s : Int} {k : Nat} {xs : List Int} (h : k < xs.length) : (mkS s k xs).set k (s + k) = mkS s (k + 1) xs := by
  unfold mkS seqI
  rw [List.set_append_right _ _ (by simp)]
  rw [List.range_succ, List.map_append, List.append_assoc]
  congr 1
  rw [List.length_map, List.length_range, Nat.sub_self]
  have e : xs.drop k = xs[k] :: xs.drop (k + 1) := List.drop_eq_getElem_cons h
  rw [e]
  rfl
end Go.Proofs.Ytgncjpakclbegaa
namespace Go.Proofs.Ytgncjpakclbegaa
open Go.RowKit
set_option linter.unusedVariables false

end Go.Proofs.Ytgncjpakclbegaa
namespace Go.Proofs.Ytgncjpakclbegaa
set_option linter.unusedVariables false
open Go.RowKit

/-- the block g is a row of cap elements of one cell, the first n of which hold vs -/
def OwnV (w : World) (g : Nat) (T : TypeId) (n cap : Nat) (vs : List Value) : Prop := w.ownsRow g T 1 (.slice (some ⟨g, 0, none⟩) n cap) n vs
section
variable {w w' : World} {g : Nat} {T : TypeId} {n cap : Nat} {vs : List Value}
theorem OwnV.body (h : OwnV w g T n cap vs) : ∃ cur, w.heap[g]? = some (.cells cur T (0, 0)) ∧ n ≤ cap ∧ cap ≤ maxLen ∧ cur.size = cap * 1 ∧ cur.toList.take (n * 1) = vs ∧ vs.length = n * 1 := by
  obtain ⟨hl, hn | ⟨g', cap', cur, e, hb, hg, h1, h2, h3, h4⟩⟩ := h
  · simp at hn
  · simp at e
    obtain ⟨rfl, rfl⟩ := e
    exact ⟨cur, hg, h1, h2, h3, h4, hl⟩
theorem OwnV.of {cur : Array Value} (h0 : w.heap[g]? = some (.cells cur T (0, 0))) (h1 : n ≤ cap) (h2 : cap ≤ maxLen) (h3 : cur.size = cap * 1) (h4 : cur.toList.take (n * 1) = vs) (h5 : vs.length = n * 1) : OwnV w g T n cap vs :=
  ⟨h5, .inr ⟨g, cap, cur, rfl, Nat.le_refl _, h0, h1, h2, h3, h4⟩⟩
theorem OwnV.lt (h : OwnV w g T n cap vs) : g < w.heap.size := by
  obtain ⟨cur, hg, _⟩ := h.body
  exact (Array.getElem?_eq_some_iff.1 hg).1
theorem OwnV.len (h : OwnV w g T n cap vs) : vs.length = n := by obtain ⟨_, _, _, _, _, _, h⟩ := h.body; omega
theorem OwnV.cells (h : OwnV w g T n cap vs) {i : Nat} {v : Value} (hi : vs[i]? = some v) : w.cell? ⟨g, i, none⟩ = some v := by
  obtain ⟨cur, hg, h1, h2, h3, h4, h5⟩ := h.body
  have e : (cur.toList.take (n * 1))[i]? = some v := by rw [h4]; exact hi
  rw [List.getElem?_take] at e
  split at e
  · rw [Joins.cell_of_block hg]; simpa using e
  · cases e
theorem OwnV.block (h : OwnV w g T n cap vs) (e : w'.heap[g]? = w.heap[g]?) : OwnV w' g T n cap vs := by
  obtain ⟨cur, hg, h1, h2, h3, h4, h5⟩ := h.body
  exact .of (e.trans hg) h1 h2 h3 h4 h5
theorem OwnV.below (h : OwnV w g T n cap vs) (hb : Below w.heap.size w w') : OwnV w' g T n cap vs := h.block (hb.block _ h.lt)
theorem OwnV.grown {g' : Nat} (h : OwnV w g T n cap vs) (hg : w.grownBy w' (some g')) (hne : g ≠ g') : OwnV w' g T n cap vs := h.block (hg.block _ h.lt (by simpa using hne))
theorem OwnV.alloc (h : OwnV w g T n cap vs) (o : Obj) : OwnV (w.alloc o) g T n cap vs := h.block (Deep.blk_alloc_lt _ _ _ h.lt)
theorem OwnV.row (h : OwnV w g T n cap vs) {b : Nat} (hb : b ≤ g) : w.ownsRow b T 1 (.slice (some ⟨g, 0, none⟩) n cap) n vs := Joins.ownsRow_le h hb
end
theorem OwnV.empty (w : World) (T : TypeId) : OwnV (w.alloc (.cells #[] T)) w.heap.size T 0 0 [] := .of (Deep.blk_alloc_new _ _) (Nat.le_refl _) (Nat.zero_le _) (by simp) (by simp) (by simp)
theorem OwnV.one (w : World) (T : TypeId) (v : Value) : OwnV (w.alloc (.cells #[v] T)) w.heap.size T 1 1 [v] := .of (Deep.blk_alloc_new _ _) (Nat.le_refl _) (by unfold maxLen; omega) (by simp) (by simp) (by simp)

theorem wp_appendV {P : Program} (w : World) {ops : Array Oper} {rest : List Oper} {o : Oper} {a : Act} {Q : Exit → Act → World → Prop} (hgd : o.guard = none) (s x : Operand) (t : TypeId)
    (ho : o.op = .call { callee := .builtin .append, args := #[s, x], argTypes := #[t, t] })
    (e : TypeId) (z : Value) (bytes : Nat) (ht : P.underlying t = some (.slice e)) (hinfo : (P.info? e).map (fun i => (i.zero, i.size, i.bytes)) = some (some z, 1, bytes)) (hzs : z.cells.size = 1) (hby : bytes ≤ 32)
    (g n cap : Nat) (vs : List Value) (hs : a.eval s = .slice (some ⟨g, 0, none⟩) n cap) (hown : OwnV w g e n cap vs)
    (ad : Addr) (m c : Nat) (news : List Value) (hx : a.eval x = .slice (some ad) m c) (hl : news.length = m) (hnews : ∀ (j : Nat) (u : Value), news[j]? = some u → w.cell? (ad.add j) = some u) (h1 : ∀ u ∈ news, u.oneCell' = true) (h63 : n + m ≤ 4194304)
    (h : ∀ g' cap' w', OwnV w' g' e (n + m) cap' (vs ++ news) → w.grownBy w' (some g) → (g' = g ∨ g' = w.heap.size) → w.heap.size ≤ w'.heap.size → wpList P ops Q rest (a.put o.dst (.slice (some ⟨g', 0, none⟩) (n + m) cap')) w') :
    wpList P ops Q (o :: rest) a w := by
  obtain ⟨i, hi, hzz⟩ := Option.map_eq_some_iff.1 hinfo
  simp only [Prod.mk.injEq] at hzz
  obtain ⟨hz, hs', hb⟩ := hzz
  have h32 : (n + m) * bytes ≤ 4194304 * 32 := Nat.mul_le_mul h63 hby
  refine wpList_append_own_at w hgd s x t ho 0 e i z 1 bytes ht hi hz hs' hb hzs (by decide) _ n vs hs (hown.row (Nat.zero_le _)) ad m c news hx (by omega) hnews h1 (by unfold maxLen; omega) (by omega) (Nat.zero_le _) ?_
  intro v' w' hown' hg hnil hloc
  have hgw : w.grownBy w' (some g) := hg
  obtain ⟨hl', ⟨rfl, h0⟩ | ⟨g', cap', cur, rfl, hb', hgg, h1, h2, h3, h4⟩⟩ := hown'
  · have := hnil.1 rfl
    simp at this
  · refine h g' cap' w' ⟨hl', .inr ⟨g', cap', cur, rfl, Nat.le_refl _, hgg, h1, h2, h3, h4⟩⟩ hgw ?_ hgw.size
    simpa [Value.ownBlock] using hloc

/-- the slices vs hold the lists L, each in a block of its own at or beyond lo that is not g -/
def Rows (lo g : Nat) (w : World) (vs : List Value) (L : List (List Int)) : Prop :=
  vs.length = L.length ∧ ∀ (i : Nat) (T : List Int), L[i]? = some T → ∃ b c : Nat, vs[i]? = some (.slice (some ⟨b, 0, none⟩) T.length c) ∧ lo ≤ b ∧ b < w.heap.size ∧ b ≠ g ∧ Ints w (some ⟨b, 0, none⟩) T
section
variable {lo g : Nat} {w w' : World} {vs : List Value} {L : List (List Int)}
theorem Rows.nil (lo g : Nat) (w : World) : Rows lo g w [] [] := ⟨rfl, fun i T h => by simp at h⟩
theorem Rows.below (h : Rows lo g w vs L) (hb : Below w.heap.size w w') : Rows lo g w' vs L := ⟨h.1, fun i T hT => by
  obtain ⟨b, c, h1, h2, h3, h4, h5⟩ := h.2 i T hT
  exact ⟨b, c, h1, h2, by have := hb.size; omega, h4, h5.below hb⟩⟩
theorem Rows.alloc (h : Rows lo g w vs L) (o : Obj) : Rows lo g (w.alloc o) vs L := h.below ((Below.refl _ _).alloc (Nat.le_refl _) _)
theorem Rows.grown (h : Rows lo g w vs L) (hg : w.grownBy w' (some g)) : Rows lo g w' vs L := ⟨h.1, fun i T hT => by
  obtain ⟨b, c, h1, h2, h3, h4, h5⟩ := h.2 i T hT
  exact ⟨b, c, h1, h2, by have := hg.size; omega, h4, h5.grown hg (fun o e => by cases e; exact h4 rfl)⟩⟩
theorem Rows.far {g' : Nat} (h : Rows lo g w vs L) (hg : w.grownBy w' (some g')) (hlo : ∀ b, lo ≤ b → b < w.heap.size → b ≠ g') : Rows lo g w' vs L := ⟨h.1, fun i T hT => by
  obtain ⟨b, c, h1, h2, h3, h4, h5⟩ := h.2 i T hT
  exact ⟨b, c, h1, h2, by have := hg.size; omega, h4, h5.grown hg (fun o e => by cases e; exact hlo _ h2 h3 rfl)⟩⟩
theorem Rows.append {lo2 g2 : Nat} {vs2 : List Value} {L2 : List (List Int)} (h : Rows lo g w vs L) (h2 : Rows lo2 g2 w vs2 L2) (hlo : lo ≤ lo2) (hg : g < lo2) : Rows lo g w (vs ++ vs2) (L ++ L2) := ⟨by simp [h.1, h2.1], fun i T hT => by
  by_cases hi : i < L.length
  · rw [List.getElem?_append_left hi] at hT
    obtain ⟨b, c, h1, h3⟩ := h.2 i T hT
    exact ⟨b, c, by rw [List.getElem?_append_left (by rw [h.1]; exact hi)]; exact h1, h3⟩
  · rw [List.getElem?_append_right (by omega)] at hT
    obtain ⟨b, c, h1, h3, h4, h5, h6⟩ := h2.2 _ T hT
    exact ⟨b, c, by rw [List.getElem?_append_right (by rw [h.1]; omega), h.1]; exact h1, by omega, h4, by omega, h6⟩⟩
theorem Rows.to {g' : Nat} (h : Rows lo g w vs L) (hne : ∀ b, lo ≤ b → b < w.heap.size → b ≠ g → b ≠ g') : Rows lo g' w vs L := ⟨h.1, fun i T hT => by
  obtain ⟨b, c, h1, h2, h3, h4, h5⟩ := h.2 i T hT
  exact ⟨b, c, h1, h2, h3, hne b h2 h3 h4, h5⟩⟩
theorem Rows.lower {lo' : Nat} (h : Rows lo g w vs L) (hl : lo' ≤ lo) : Rows lo' g w vs L := ⟨h.1, fun i T hT => by
  obtain ⟨b, c, h1, h2, h3⟩ := h.2 i T hT
  exact ⟨b, c, h1, by omega, h3⟩⟩
theorem Rows.one (h : Rows lo g w vs L) : ∀ u ∈ vs, u.oneCell' = true := fun u hu => by
  obtain ⟨i, hi⟩ := List.getElem?_of_mem hu
  have hl := (List.getElem?_eq_some_iff.1 hi).1
  have hT := List.getElem?_eq_getElem (by rw [← h.1]; exact hl : i < L.length)
  obtain ⟨b, c, h1, -⟩ := h.2 i _ hT
  rw [hi] at h1
  cases h1
  rfl
end
end Go.Proofs.Ytgncjpakclbegaa
namespace Go.Proofs.Ytgncjpakclbegaa
set_option linter.unusedVariables false
open Go.RowKit

/-- at a step of a region that draws its order -/
theorem step_app {P : Program} (w : World) {ops : Array Oper} {o : Oper} {a : Act} {K : Act → World → Prop} {Q : Exit → Act → World → Prop} {E : Prop} (hgd : o.guard = none) (s x : Operand) (t : TypeId)
    (ho : o.op = .call { callee := .builtin .append, args := #[s, x], argTypes := #[t, t] })
    (e : TypeId) (z : Value) (sz bytes : Nat) (ht : P.underlying t = some (.slice e)) (hinfo : (P.info? e).map (fun i => (i.zero, i.size, i.bytes)) = some (some z, sz, bytes)) (hzs : z.cells.size = sz) (hsz : 0 < sz) (hby : bytes ≤ 32)
    (g n cap : Nat) (xs : List Int) (hs : a.eval s = .slice (some ⟨g, 0, none⟩) n cap) (hown : Own w g e sz n cap xs)
    (ad : Addr) (m c : Nat) (news : List Int) (hx : a.eval x = .slice (some ad) m c) (hl : news.length = m * sz) (hnews : ∀ (j : Nat) (z : Int), news[j]? = some z → w.cell? (ad.add j) = some (.int .i64 z)) (hm : 0 < m) (h63 : n + m ≤ 4194304)
    (h : ∀ g' cap' w', Own w' g' e sz (n + m) cap' (xs ++ news) → w.grownBy w' (some g) → (g' = g ∨ g' = w.heap.size) → g' < w'.heap.size → K (a.put o.dst (.slice (some ⟨g', 0, none⟩) (n + m) cap')) w') :
    if Region.wanted o (yielded ops a.tmps) = true then Oper.wp P o a w K Q else E := by
  obtain ⟨i, hi, hzz⟩ := Option.map_eq_some_iff.1 hinfo
  simp only [Prod.mk.injEq] at hzz
  obtain ⟨hz, hs', hb⟩ := hzz
  have h32 : (n + m) * bytes ≤ 4194304 * 32 := Nat.mul_le_mul h63 hby
  refine step_append_lies w hgd s x t ho 0 e i z sz bytes ht hi hz hs' hb hzs hsz _ n (ivs xs) hs (hown.row (Nat.zero_le _)) ad m c (ivs news) hx (by simpa [ivs] using hl) (fun j u hu => ?_) (fun u hu => ?_) hm (by unfold maxLen; omega) (by omega) (Nat.zero_le _) w.heap.size rfl (fun g' cap' w' hrow hg hat hlt => ?_)
  · rw [ivs, List.getElem?_map] at hu
    obtain ⟨z', hz', rfl⟩ := Option.map_eq_some_iff.1 hu
    exact hnews j z' hz'
  · rw [ivs, List.mem_map] at hu
    obtain ⟨z', _, rfl⟩ := hu
    rfl
  · obtain ⟨hl', ⟨hc, _⟩ | ⟨g2, cap2, cur, e2, hb', hgg, h1, h2, h3, h4⟩⟩ := hrow
    · simp at hc
    · simp at e2
      obtain ⟨rfl, rfl⟩ := e2
      refine h _ _ w' ⟨by simpa [ivs] using hl', .inr ⟨_, _, cur, rfl, Nat.le_refl _, hgg, h1, h2, h3, by rw [h4]; simp [ivs]⟩⟩ hg ?_ hlt
      rcases hat with e | e
      · left; simpa [Value.ownBlock, eq_comm] using e
      · exact .inr e
end Go.Proofs.Ytgncjpakclbegaa
namespace Go.Proofs.Ytgncjpakclbegaa
set_option linter.unusedVariables false
open Go.RowKit

theorem step_app0 {P : Program} (w : World) {ops : Array Oper} {o : Oper} {a : Act} {K : Act → World → Prop} {Q : Exit → Act → World → Prop} {E : Prop} (hgd : o.guard = none) (s x : Operand) (t : TypeId)
    (ho : o.op = .call { callee := .builtin .append, args := #[s, x], argTypes := #[t, t] })
    (e : TypeId) (z : Value) (sz bytes : Nat) (ht : P.underlying t = some (.slice e)) (hinfo : (P.info? e).map (fun i => (i.zero, i.size, i.bytes)) = some (some z, sz, bytes)) (hzs : z.cells.size = sz) (hsz : 0 < sz) (hby : bytes ≤ 32)
    (g n cap : Nat) (xs : List Int) (hs : a.eval s = .slice (some ⟨g, 0, none⟩) n cap) (hown : Own w g e sz n cap xs)
    (ad : Addr) (m c : Nat) (news : List Int) (hx : a.eval x = .slice (some ad) m c) (hl : news.length = m * sz) (hnews : ∀ (j : Nat) (z : Int), news[j]? = some z → w.cell? (ad.add j) = some (.int .i64 z)) (h63 : n + m ≤ 4194304)
    (h : ∀ g' cap' w', Own w' g' e sz (n + m) cap' (xs ++ news) → w.grownBy w' (some g) → (g' = g ∨ g' = w.heap.size) → g' < w'.heap.size → K (a.put o.dst (.slice (some ⟨g', 0, none⟩) (n + m) cap')) w') :
    if Region.wanted o (yielded ops a.tmps) = true then Oper.wp P o a w K Q else E := by
  by_cases hm : 0 < m
  · exact step_app w hgd s x t ho e z sz bytes ht hinfo hzs hsz hby g n cap xs hs hown ad m c news hx hl hnews hm h63 h
  · obtain rfl : m = 0 := by omega
    have hn : news = [] := List.eq_nil_of_length_eq_zero (by omega)
    subst hn
    obtain ⟨i, hi, hzz⟩ := Option.map_eq_some_iff.1 hinfo
    simp only [Prod.mk.injEq] at hzz
    obtain ⟨hz, hs', hb⟩ := hzz
    have hlt := hown.lt
    obtain ⟨cur, hg, h1, h2, h3, h4, h5⟩ := hown.body
    refine step_append_room hgd s x t ho e i sz ht hi hs' g 0 n cap hs ad 0 c [] hx (by simp) (fun j u hu => by simp at hu) (fun u hu => by simp at hu) (by omega) (fun j hj => by simp at hj) ?_
    have hsame : w.setCells g (0 + n * sz) [] = w := rfl
    rw [hsame]
    exact h g cap w (by rw [List.append_nil]; exact hown) ⟨rfl, rfl, rfl, Nat.le_refl _, fun _ _ _ => rfl⟩ (.inl rfl) hlt
theorem Own.dr {w : World} {g : Nat} {T : TypeId} {sz n cap : Nat} {xs : List Int} (h : Own w g T sz n cap xs) : Own w.drew g T sz n cap xs := h
theorem Runs.dr {w : World} {p : Option Addr} {rs : List Rn} (h : Runs w p rs) : Runs w.drew p rs := h
end Go.Proofs.Ytgncjpakclbegaa
