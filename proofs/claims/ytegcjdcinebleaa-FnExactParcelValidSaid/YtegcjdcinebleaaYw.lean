/-
  A region of a loop's body, within a range over a function, that draws its order: walked by the plain laws. No function of the program is named.
-/
import Derived.Test.YtegcjdcinebleaaZa
import Derived.RangeFuncFrom
import Derived.RangeFuncCalls
import Derived.OrdersIn
import Derived.TacticsIn
namespace Go.Proofs.Ytegcjdcinebleaa
open Go.RowKit
set_option linter.unusedVariables false

section
variable {P : Program} {l n : Nat}
theorem rows_in {row : String} {args : Array Value} {w : World} {R : Value → World → Prop} (h : Go.Rows P row args w R) : RowsIn (Fence.wide.inRound l) n P row args w R :=
  fun c cs _ => let ⟨v, w', r, s⟩ := h c cs; ⟨v, w', r, stepsIn_wide.2 s⟩
theorem oper_in {o : Oper} {a : Act} {w : World} {K : Act → World → Prop} {Q : Exit → Act → World → Prop} (hd : ∀ c, o.op ≠ .defer c) (hQ : ¬ LetsOut Q) (h : o.wp P a w K Q ∨ (o.asks P a w ∧ LetsOut Q)) : o.wpIn (Fence.wide.inRound l) n P a w K Q := by
  rcases h with h | h
  · refine ⟨fun _ _ => trivial, ?_⟩
    rw [show (Fence.wide.inRound l).round = some l from rfl, Oper.semAt_some l a.eval o hd]
    unfold Oper.wp at h
    generalize (execOp a.eval o).run P w = r at h ⊢
    cases r with
    | ok x w' =>
      cases x <;> simp only [Oper.upon, Oper.uponIn] at h ⊢ <;>
        first
          | exact h
          | exact ⟨fun h => by simp [Fence.wide] at h, CallsIn.inRound l (callsIn_wide.2 h)⟩
          | exact ⟨fun h => by simp [Fence.wide] at h, rows_in h⟩
          | exact h.elim
    | halt x w' => cases x <;> simp only [Oper.upon, Oper.uponIn] at h ⊢ <;> exact h
  · exact absurd h.2 hQ
/-- no operation defers a call -/
def plainB (ops : Array Oper) : Bool := ops.all fun o => match o.op with | .defer _ => false | _ => true
theorem plain_at {ops : Array Oper} (h : plainB ops = true) {i : Nat} {o : Oper} (ho : ops[i]? = some o) : ∀ c, o.op ≠ .defer c := by
  intro c e
  obtain ⟨hi, rfl⟩ := Array.getElem?_eq_some_iff.1 ho
  have := Array.all_eq_true.1 h i hi
  rw [e] at this
  cases this
theorem any_in {ops : Array Oper} {Q : Exit → Act → World → Prop} {md : Region.Mode} (hp : plainB ops = true) (hQ : ¬ LetsOut Q) : ∀ (fuel : Nat) (listed : Array Bool) (a : Act) (w : World), wpAny P md ops Q fuel listed a w → wpAnyIn (Fence.wide.inRound l) n P md ops Q fuel listed a w
  | 0, _, _, _, h => h
  | fuel + 1, listed, a, w, h => ⟨h.1, fun i hi => by
    have h2 := h.2 i hi
    unfold wpOp at h2
    unfold wpOpIn
    cases ho : ops[i]? with
    | none => rw [ho] at h2; exact any_in hp hQ fuel _ _ _ h2
    | some o =>
      rw [ho] at h2
      dsimp only at h2 ⊢
      split
      · rename_i hw
        rw [if_pos hw] at h2
        exact Oper.wpIn_mono (fun a' w' h' => any_in hp hQ fuel _ _ _ h') (oper_in (plain_at hp ho) hQ h2)
      · rename_i hw
        rw [if_neg hw] at h2
        exact ⟨fun _ _ => trivial, any_in hp hQ fuel _ _ _ h2⟩⟩
end
section
variable {P : Program} {C : World → Prop} {ops : Array Oper}
theorem any_head {Q : Exit → Act → World → Prop} {a : Act} {w : World} {l : List Oper} (n : Nat) (hB : (backward l.toArray && guardsB l.toArray n && Region.lexB .any (l.take n).toArray && Region.lexTailB .any l.toArray n) = true)
    (hC : C w.drew)
    (h : wpQuiet P (l.take n).toArray C (fun a' => ∀ w', C w' → wpList P l.toArray Q (l.drop n) a' w') (l.take n) a) : wpAny P .any l.toArray Q l.toArray.size (Array.replicate l.toArray.size false) a w.drew := by
  rw [Bool.and_eq_true, Bool.and_eq_true, Bool.and_eq_true] at hB
  obtain ⟨⟨⟨hb, hgd⟩, hlex⟩, hT⟩ := hB
  simp only [Region.lexTailB, Bool.and_eq_true, decide_eq_true_eq] at hT
  obtain ⟨⟨⟨⟨hsel, hn⟩, hs⟩, hc⟩, hseq⟩ := hT
  simp only [Region.lexB, Bool.and_eq_true] at hlex
  have hex : (l.take n).toArray = l.toArray.extract 0 n := by simp
  have hlt : n < l.length := by simpa using hn
  have htl : (l.take n).length = n := by simp; omega
  have h0 := wpAnyQ_lex (C := C) (md := .any) hlex.1 (l.take n) 0 (Array.replicate (l.take n).toArray.size false) a (by simp) (by simpa using hlex.2) h
  rw [hex] at h0
  have hseqT : ∀ (f k : Nat) (listed : Array Bool), k + f = n → listed.size = l.toArray.size → (∀ j, j < k → listed.getD j true = true) → (∀ j, k ≤ j → j < l.toArray.size → listed.getD j true = false) →
      Region.lexHead .any l.toArray (l.toArray.size - n) f k listed = true →
      ∀ listed2 : Array Bool, listed2.size = l.toArray.size → (∀ j, j < n → listed2.getD j true = true) → (∀ j, n ≤ j → j < l.toArray.size → listed2.getD j true = false) → Region.seqB .any l.toArray (l.toArray.size - n) n listed2 = true := by
    intro f
    induction f with
    | zero =>
      intro k listed hk hsz h1 h2 hh listed2 hs2 h3 h4
      have e : k = n := by omega
      subst e
      have el : listed2 = listed := by
        apply Array.ext (by omega)
        intro i h5 h6
        have := fun (x : Array Bool) (hx : i < x.size) => (show x.getD i true = x[i] by simp [hx])
        rw [← this _ h5, ← this _ h6]
        rcases Nat.lt_or_ge i k with h7 | h7
        · rw [h3 i h7, h1 i h7]
        · rw [h4 i h7 (by omega), h2 i h7 (by omega)]
      rw [el]
      simpa [Region.lexHead] using hh
    | succ f ih =>
      intro k listed hk hsz h1 h2 hh
      simp only [Region.lexHead, Bool.and_eq_true] at hh
      refine ih (k + 1) _ (by omega) (by simpa using hsz) (fun j hj => ?_) (fun j hj hj2 => ?_) hh.2
      · by_cases e : k = j
        · subst e; exact getD_set_self _ _
        · rw [getD_set_ne true e]; exact h1 j (by omega)
      · rw [getD_set_ne true (by omega)]; exact h2 j (by omega) hj2
  have hrep : ∀ (m j : Nat), j < m → (Array.replicate m false).getD j true = false := fun m j hj => by simp [hj]
  have hun : ∀ m, m ≤ n → un (Array.replicate l.toArray.size false) m = m := by
    intro m
    induction m with
    | zero => intro _; rfl
    | succ m ih => intro hm; simp only [un]; rw [ih (by omega), hrep _ _ (by omega)]; rfl
  have H := wpAny_head (C := C) (Qh := fun a' => ∀ w', C w' → wpList P l.toArray Q (l.drop n) a' w') (Q' := Q) (g := l.toArray.size - n) hb hs hc hgd hn (fun a' w' listed hsz h1 h2 hC' hQ => by
    have := wpAny_of_seq (md := .any) (Q' := Q) (l.drop n) n listed a' w' (fun j => by simp [List.getElem?_drop]) (by
      have := hseqT n 0 _ (by omega) (by simp) (fun j hj => by omega) (fun j _ hj => hrep _ j hj) hseq listed hsz h1 h2
      simpa using this) (hQ w' hC')
    simpa using this) n (Array.replicate l.toArray.size false) (Array.replicate n false) a w.drew (by simp) (fun j hj => by rw [hrep _ _ hj, hrep _ _ (by omega)])
    ⟨by simp, fun j oj _ hl => (by rw [getD_replicate_false] at hl; cases hl), fun t _ ht => hrep _ t ht⟩ (hun n (Nat.le_refl _)) hC (by simpa [htl, Nat.min_eq_left (Nat.le_of_lt hlt)] using h0)
  rw [show n + (l.toArray.size - n) = l.toArray.size by omega] at H
  exact H
end
section
variable {P : Program} {l n : Nat}
/-- in a round: the first k operations read, compute or call functions that only make new memory, the others come in one order -/
theorem round_grows_tail {id : Nat} {Q : Exit → Act → World → Prop} {a : Act} {w : World} {ol : List Oper} (k : Nat) (hm : P.follows .mixedOrders = true) (hB : (backward ol.toArray && guardsB ol.toArray k && Region.lexB .any (ol.take k).toArray && Region.lexTailB .any ol.toArray k) = true) (hp : plainB ol.toArray = true) (hQ : ¬ LetsOut Q)
    (h : ∀ W : World, (∀ b o, W.cell? ⟨b, o, none⟩ = w.cell? ⟨b, o, none⟩) → W.heap.size = w.heap.size → (∀ (d : Ext W) (b o : Nat), b < W.heap.size → d.now.cell? ⟨b, o, none⟩ = W.cell? ⟨b, o, none⟩) →
      wpQuiet P (ol.take k).toArray (fun w' => ∃ d : Ext W, w' = d.now) (fun a' => ∀ w', Below w.heap.size w w' → wpList P ol.toArray Q (ol.drop k) a' w') (ol.take k) a) : (Code.region id ol.toArray true).wpIn (Fence.wide.inRound l) n P Q a w := by
  refine wpIn_region_any hm (any_in hp hQ _ _ _ _ ?_)
  refine any_head (C := fun w' => ∃ d : Ext w, w' = d.now) k hB (Grows.of (w := w) (w' := w.drew) ⟨rfl, rfl, rfl, Nat.le_refl _, fun _ _ => rfl⟩) ?_
  have := h w (fun _ _ => rfl) rfl Ext.cell
  refine wpQuiet_mono' (fun a' ha w' => ?_) _ _ this
  rintro ⟨d, rfl⟩
  exact ha _ d.grown
/-- in a round: all operations read, compute or call functions that only make new memory -/
theorem round_grows {id : Nat} {Q : Exit → Act → World → Prop} {a : Act} {w : World} {ol : List Oper} (hm : P.follows .mixedOrders = true) (hB : Region.lexB .any ol.toArray = true) (hp : plainB ol.toArray = true) (hQ : ¬ LetsOut Q)
    (h : ∀ W : World, (∀ b o, W.cell? ⟨b, o, none⟩ = w.cell? ⟨b, o, none⟩) → W.heap.size = w.heap.size → (∀ (d : Ext W) (b o : Nat), b < W.heap.size → d.now.cell? ⟨b, o, none⟩ = W.cell? ⟨b, o, none⟩) →
      wpQuiet P ol.toArray (fun w' => ∃ d : Ext W, w' = d.now) (fun a' => ∀ w', Below w.heap.size w w' → Q .normal a' w') ol a) : (Code.region id ol.toArray true).wpIn (Fence.wide.inRound l) n P Q a w := by
  simp only [Region.lexB, Bool.and_eq_true] at hB
  refine wpIn_region_any hm (any_in hp hQ _ _ _ _ ?_)
  have h1 := h w (fun _ _ => rfl) rfl Ext.cell
  have h2 : wpQuiet P ol.toArray (fun w' => ∃ d : Ext w, w' = d.now) (fun a' => ∀ w', (∃ d : Ext w, w' = d.now) → Q .normal a' w') ol a := wpQuiet_mono' (fun a' ha w' => by rintro ⟨d, rfl⟩; exact ha _ d.grown) _ _ h1
  have h3 := wpAnyQ_lex (C := fun w' => ∃ d : Ext w, w' = d.now) (md := .any) hB.1 ol 0 (Array.replicate ol.toArray.size false) a (by simp) (by simpa using hB.2) h2
  have := wpAny_of_quiet (C := fun w' => ∃ d : Ext w, w' = d.now) (Q := fun a' => ∀ w', (∃ d : Ext w, w' = d.now) → Q .normal a' w') (Q' := Q) (fun _ w' hw' h => h w' hw') _ _ _ _ (Grows.of (w := w) (w' := w.drew) ⟨rfl, rfl, rfl, Nat.le_refl _, fun _ _ => rfl⟩) h3
  simpa using this
theorem not_out_then {K : Act → World → Prop} {Q : Exit → Act → World → Prop} (h : ¬ LetsOut Q) : ¬ LetsOut (Exit.then K Q) := fun ⟨a, w, hq⟩ => h ⟨a, w, hq⟩
theorem not_out_post {α : Type} {Kp : World → World → Prop} {I : List α → World → Prop} {Ix : Code → List α → World → Prop} {xs : List α} {W : World} : ¬ LetsOut (ownPostK Kp I Ix xs W) := fun ⟨_, _, h⟩ => h
end
end Go.Proofs.Ytegcjdcinebleaa
