/-
  A region that draws its order, whose first operations read, compute or call functions that only make new memory, and whose last ones come in one order: one walk in the order of the text serves every order. No function of the program is named.
-/
import Derived.Test.YthpfhbogpnhgmaaReg
import Derived.StillTail
import Derived.Deep.QuietTactic
import Derived.BigQuiet
import Derived.Below
import Derived.Deep.Draws
namespace Go.Proofs.Ythpfhbogpnhgmaa
open Go Go.RowKit

/-- a world that differs from w by new memory and draws alone -/
structure Ext (w : World) where
  now : World
  grown : Below w.heap.size w now
theorem Ext.refl (w : World) : Below w.heap.size w w := Below.refl _ _
instance (w : World) : Nonempty (Ext w) := ⟨⟨w, Below.refl _ _⟩⟩
theorem Ext.cell {w : World} : ∀ (d : Ext w) (b o : Nat), b < w.heap.size → d.now.cell? ⟨b, o, none⟩ = w.cell? ⟨b, o, none⟩ := fun d b o h => d.grown.cell (p := ⟨b, o, none⟩) h
def Grows (w : World) (w' : World) : Prop := ∃ d : Ext w, w' = d.now
theorem Grows.of {w w' : World} (h : Below w.heap.size w w') : ∃ d : Ext w, w' = d.now := ⟨⟨w', h⟩, rfl⟩
theorem Ext.call {P : Program} {f : FuncId} {args : Array Value} {w : World} {d : Ext w} {v : Value}
    (h : Calls P f args d.now fun e w' => e = .returned v ∧ Below d.now.heap.size d.now w') : Calls P f args d.now fun e w' => e = .returned v ∧ ∃ d' : Ext w, w' = d'.now :=
  h.mono fun _ _ ⟨he, hb⟩ => ⟨he, Grows.of (d.grown.trans (hb.mono d.grown.size))⟩
theorem Ext.call0 {P : Program} {f : FuncId} {args : Array Value} {w : World} {d : Ext w} {v : Value}
    (h : Calls P f args d.now fun e w' => e = .returned v ∧ d.now = w') : Calls P f args d.now fun e w' => e = .returned v ∧ ∃ d' : Ext w, w' = d'.now :=
  Ext.call (h.mono fun _ _ ⟨he, hb⟩ => ⟨he, by subst hb; exact Below.refl _ _⟩)
theorem Ext.calln {P : Program} {f : FuncId} {args : Array Value} {w : World} {d : Ext w} {v : Value}
    (h : Calls P f args d.now fun e w' => e = .returned v ∧ ∃ k, w' = d.now.drewN k) : Calls P f args d.now fun e w' => e = .returned v ∧ ∃ d' : Ext w, w' = d'.now :=
  Ext.call (h.mono fun _ _ ⟨he, k, hb⟩ => ⟨he, by subst hb; exact ⟨rfl, rfl, rfl, Nat.le_refl _, fun _ _ => rfl⟩⟩)

theorem wpQuiet_mono' {P : Program} {ops : Array Oper} {C : World → Prop} {Q Q' : Act → Prop} (h : ∀ a, Q a → Q' a) : ∀ (l : List Oper) (a : Act), wpQuiet P ops C Q l a → wpQuiet P ops C Q' l a
  | [], a, hq => h a hq
  | o :: l, a, hq => by
    unfold wpQuiet at hq ⊢
    split
    · rename_i hw; rw [if_pos hw] at hq; exact Oper.quiet_mono (fun a' h' => wpQuiet_mono' h l a' h') hq
    · rename_i hw; rw [if_neg hw] at hq; exact wpQuiet_mono' h l _ hq
/-! a head whose operations are quiet, a tail in one order -/
section
variable {P : Program} {C : World → Prop} {ops : Array Oper}
theorem getD_of {l : Array Bool} {i : Nat} (h : i < l.size) (a b : Bool) : l.getD i a = l.getD i b := by simp [h]
/-- the guards of the head look into the head -/
def guardsB (ops : Array Oper) (n : Nat) : Bool := (List.range n).all fun i => match ops[i]? with | none => true | some o => match o.guard with | none => true | some g => decide (g.1 < n)
theorem guards_spec {n i : Nat} {o : Oper} (h : guardsB ops n = true) (hi : i < n) (ho : ops[i]? = some o) : ∀ g, o.guard = some g → g.1 < n := by
  unfold guardsB at h
  rw [List.all_eq_true] at h
  have h1 := h i (List.mem_range.2 hi)
  rw [ho] at h1
  intro g hg
  simp only [hg] at h1
  simpa using h1
theorem wanted_head {n : Nat} {o : Oper} {t : Array Value} (hg : ∀ g, o.guard = some g → g.1 < n) : Region.wanted o (yielded (ops.extract 0 n) t) = Region.wanted o (yielded ops t) := by
  unfold Region.wanted
  cases h : o.guard with
  | none => rfl
  | some g =>
    have h1 := hg g h
    have e : (ops.extract 0 n)[g.1]? = ops[g.1]? := by
      rw [Array.getElem?_extract]; simp; omega
    have h2 : yielded (ops.extract 0 n) t g.1 = yielded ops t g.1 := by unfold yielded; rw [e]
    simp only [h2]
theorem head_get {n i : Nat} (h : i < n) : (ops.extract 0 n)[i]? = ops[i]? := by rw [Array.getElem?_extract]; simp; omega

theorem wpAny_head {n g : Nat} {Qh : Act → Prop} {Q' : Exit → Act → World → Prop} (hb : backward ops = true) (hs : Region.sinkB .any ops n = true) (hc : Region.chainB .any ops n = true) (hgd : guardsB ops n = true) (hn : n < ops.size)
    (hL : ∀ a w listed, listed.size = ops.size → (∀ j, j < n → listed.getD j true = true) → (∀ j, n ≤ j → j < ops.size → listed.getD j true = false) → C w → Qh a → wpAny P .any ops Q' g listed a w) :
    ∀ (f : Nat) (listed l2 : Array Bool) (a : Act) (w : World), l2.size = n → (∀ j, j < n → l2.getD j true = listed.getD j true) → HeadInv .any ops n listed → un listed n = f → C w →
      wpAnyQ P .any (ops.extract 0 n) C Qh f l2 a → wpAny P .any ops Q' (f + g) listed a w := by
  intro f
  induction f with
  | zero =>
    intro listed l2 a w h2 he inv hu hC h
    rw [Nat.zero_add]
    exact hL a w listed inv.size (un_zero n hu) inv.tail hC h.2
  | succ f ih =>
    intro listed l2 a w h2 he inv hu hC h
    rw [show f + 1 + g = (f + g) + 1 by omega]
    have hex : ∃ i, i < n ∧ listed.getD i true = false := by
      apply Classical.byContradiction
      intro hno
      have : ∀ m, m ≤ n → un listed m = 0 := by
        intro m
        induction m with
        | zero => intro _; rfl
        | succ m ihm =>
          intro hm
          simp only [un]
          rw [ihm (by omega)]
          cases hl : listed.getD m true
          · exact absurd ⟨m, by omega, hl⟩ hno
          · rfl
      have := this n (Nat.le_refl _)
      omega
    obtain ⟨i0, hi0, hf0⟩ := hex
    refine ⟨fun h0 => ?_, fun i hi => ?_⟩
    · have := ready_nil hb inv.size h0 i0 (by omega)
      rw [hf0] at this; cases this
    · have hin : i < n := by
        rcases Nat.lt_or_ge i n with h' | h'
        · exact h'
        · exact absurd hi (tail_waits hs hc hn inv _ i0 rfl hi0 hf0 i h')
      obtain ⟨hun, o, ho, hall⟩ := mem_ready.1 hi
      have hr : i ∈ Region.ready .any (ops.extract 0 n) l2 := by
        refine mem_ready.2 ⟨by rw [he i hin]; exact hun, o, by rw [head_get hin]; exact ho, fun e hee hbe => ?_⟩
        have hlt := backward_spec hb ho e hee
        have h3 := hall e hee hbe
        have hs1 : e.on < listed.size := by rw [inv.size]; omega
        have hs2 : e.on < l2.size := by omega
        rw [getD_of hs2 false true, he e.on (by omega), getD_of hs1 true false]
        exact h3
      have hq := h.2 i hr
      have hq' : qOp P ops C i (wpAnyQ P .any (ops.extract 0 n) C Qh f (l2.setIfInBounds i true)) a := by
        unfold qOp at hq ⊢
        rw [head_get hin] at hq
        simp only [ho] at hq ⊢
        rw [wanted_head (guards_spec hgd hin ho)] at hq
        exact hq
      refine wpOp_of_qOp hC (fun a' w' hC' hK => ?_) hq'
      refine ih _ _ a' w' (by simpa using h2) (fun j hj => ?_) (inv.set hi hin) ?_ hC' hK
      · by_cases e : i = j
        · subst e; rw [getD_set_self, getD_set_self]
        · rw [getD_set_ne true e, getD_set_ne true e]; exact he j hj
      · have := un_set hun n hin; omega
/-- the region, its head walked in the order of the text -/
theorem wp_region_head {id : Nat} {Q : Exit → Act → World → Prop} {a : Act} {w : World} {l : List Oper} (n : Nat) (hm : P.follows .mixedOrders = true) (hB : (backward l.toArray && guardsB l.toArray n && Region.lexB .any (l.take n).toArray && Region.lexTailB .any l.toArray n) = true)
    (hC : C w.drew)
    (h : wpQuiet P (l.take n).toArray C (fun a' => ∀ w', C w' → wpList P l.toArray Q (l.drop n) a' w') (l.take n) a) : (Code.region id l.toArray true).wp P Q a w := by
  rw [Bool.and_eq_true, Bool.and_eq_true, Bool.and_eq_true] at hB
  obtain ⟨⟨⟨hb, hgd⟩, hlex⟩, hT⟩ := hB
  simp only [Region.lexTailB, Bool.and_eq_true, decide_eq_true_eq] at hT
  obtain ⟨⟨⟨⟨hsel, hn⟩, hs⟩, hc⟩, hseq⟩ := hT
  simp only [Region.lexB, Bool.and_eq_true] at hlex
  have hex : (l.take n).toArray = l.toArray.extract 0 n := by simp
  have hlt : n < l.length := by simpa using hn
  have htl : (l.take n).length = n := by simp; omega
  have h0 := wpAnyQ_lex (C := C) (md := .any) hlex.1 (l.take n) 0 (Array.replicate (l.take n).toArray.size false) a (by simp) (by simpa using hlex.2) h
  rw [hex] at h0
  have hseqT : ∀ (f k : Nat) (listed : Array Bool), k + f = n → listed.size = l.toArray.size → (∀ j, j < k → listed.getD j true = true) → (∀ j, k ≤ j → j < l.toArray.size → listed.getD j true = false) →
      Region.lexHead .any l.toArray (l.toArray.size - n) f k listed = true →
      ∀ listed2 : Array Bool, listed2.size = l.toArray.size → (∀ j, j < n → listed2.getD j true = true) → (∀ j, n ≤ j → j < l.toArray.size → listed2.getD j true = false) → Region.seqB .any l.toArray (l.toArray.size - n) n listed2 = true := by
    intro f
    induction f with
    | zero =>
      intro k listed hk hsz h1 h2 hh listed2 hs2 h3 h4
      have e : k = n := by omega
      subst e
      have el : listed2 = listed := by
        apply Array.ext (by omega)
        intro i h5 h6
        have := fun (x : Array Bool) (hx : i < x.size) => (show x.getD i true = x[i] by simp [hx])
        rw [← this _ h5, ← this _ h6]
        rcases Nat.lt_or_ge i k with h7 | h7
        · rw [h3 i h7, h1 i h7]
        · rw [h4 i h7 (by omega), h2 i h7 (by omega)]
      rw [el]
      simpa [Region.lexHead] using hh
    | succ f ih =>
      intro k listed hk hsz h1 h2 hh
      simp only [Region.lexHead, Bool.and_eq_true] at hh
      refine ih (k + 1) _ (by omega) (by simpa using hsz) (fun j hj => ?_) (fun j hj hj2 => ?_) hh.2
      · by_cases e : k = j
        · subst e; exact getD_set_self _ _
        · rw [getD_set_ne true e]; exact h1 j (by omega)
      · rw [getD_set_ne true (by omega)]; exact h2 j (by omega) hj2
  have hrep : ∀ (m j : Nat), j < m → (Array.replicate m false).getD j true = false := fun m j hj => by simp [hj]
  have hun : ∀ m, m ≤ n → un (Array.replicate l.toArray.size false) m = m := by
    intro m
    induction m with
    | zero => intro _; rfl
    | succ m ih => intro hm; simp only [un]; rw [ih (by omega), hrep _ _ (by omega)]; rfl
  refine wp_region_any hm ?_
  have H := wpAny_head (C := C) (Qh := fun a' => ∀ w', C w' → wpList P l.toArray Q (l.drop n) a' w') (Q' := Q) (g := l.toArray.size - n) hb hs hc hgd hn (fun a' w' listed hsz h1 h2 hC' hQ => by
    have := wpAny_of_seq (md := .any) (Q' := Q) (l.drop n) n listed a' w' (fun j => by simp [List.getElem?_drop]) (by
      have := hseqT n 0 _ (by omega) (by simp) (fun j hj => by omega) (fun j _ hj => hrep _ j hj) hseq listed hsz h1 h2
      simpa using this) (hQ w' hC')
    simpa using this) n (Array.replicate l.toArray.size false) (Array.replicate n false) a w.drew (by simp) (fun j hj => by rw [hrep _ _ hj, hrep _ _ (by omega)])
    ⟨by simp, fun j oj _ hl => (by rw [getD_replicate_false] at hl; cases hl), fun t _ ht => hrep _ t ht⟩ (hun n (Nat.le_refl _)) hC (by simpa [htl, Nat.min_eq_left (Nat.le_of_lt hlt)] using h0)
  rw [show n + (l.toArray.size - n) = l.toArray.size by omega] at H
  exact H
end
/-- at the class of the worlds that grow (the world at hand behind a letter of its own) -/
theorem wp_region_grows {P : Program} {id : Nat} {Q : Exit → Act → World → Prop} {a : Act} {w : World} {l : List Oper} (hm : P.follows .mixedOrders = true) (hB : Region.lexB .any l.toArray = true)
    (h : ∀ W : World, (∀ b o, W.cell? ⟨b, o, none⟩ = w.cell? ⟨b, o, none⟩) → W.heap.size = w.heap.size → (∀ (d : Ext W) (b o : Nat), b < W.heap.size → d.now.cell? ⟨b, o, none⟩ = W.cell? ⟨b, o, none⟩) →
      wpQuiet P l.toArray (fun w' => ∃ d : Ext W, w' = d.now) (fun a' => ∀ w', Below w.heap.size w w' → Q .normal a' w') l a) : (Code.region id l.toArray true).wp P Q a w :=
  wp_region_quiet (C := fun w' => ∃ d : Ext w, w' = d.now) hm hB (Grows.of ⟨rfl, rfl, rfl, Nat.le_refl _, fun _ _ => rfl⟩) (by
    have := h w (fun _ _ => rfl) rfl Ext.cell
    refine wpQuiet_mono' (fun a' ha w' => ?_) _ _ this
    rintro ⟨d, rfl⟩
    exact ha _ d.grown)
theorem wp_region_grows_tail {P : Program} {id : Nat} {Q : Exit → Act → World → Prop} {a : Act} {w : World} {l : List Oper} (n : Nat) (hm : P.follows .mixedOrders = true) (hB : (backward l.toArray && guardsB l.toArray n && Region.lexB .any (l.take n).toArray && Region.lexTailB .any l.toArray n) = true)
    (h : ∀ W : World, (∀ b o, W.cell? ⟨b, o, none⟩ = w.cell? ⟨b, o, none⟩) → W.heap.size = w.heap.size → (∀ (d : Ext W) (b o : Nat), b < W.heap.size → d.now.cell? ⟨b, o, none⟩ = W.cell? ⟨b, o, none⟩) →
      wpQuiet P (l.take n).toArray (fun w' => ∃ d : Ext W, w' = d.now) (fun a' => ∀ w', Below w.heap.size w w' → wpList P l.toArray Q (l.drop n) a' w') (l.take n) a) : (Code.region id l.toArray true).wp P Q a w :=
  wp_region_head (C := fun w' => ∃ d : Ext w, w' = d.now) n hm hB (Grows.of (w := w) (w' := w.drew) ⟨rfl, rfl, rfl, Nat.le_refl _, fun _ _ => rfl⟩) (by
    have := h w (fun _ _ => rfl) rfl Ext.cell
    refine wpQuiet_mono' (fun a' ha w' => ?_) _ _ this
    rintro ⟨d, rfl⟩
    exact ha _ d.grown)
end Go.Proofs.Ythpfhbogpnhgmaa
