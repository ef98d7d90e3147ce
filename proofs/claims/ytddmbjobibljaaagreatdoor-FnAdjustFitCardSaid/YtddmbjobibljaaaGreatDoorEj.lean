/-
  The reference model's AdjustSum.
-/
import Derived.Test.YtddmbjobibljaaaGreatDoorEh
namespace Go.Proofs.YtddmbjobibljaaaGreatDoor
open Go.RowKit
set_option linter.unusedVariables false

/-- a weighted square of a quotient -/
def sqA (t l : Int) : Int := Quo.gT (Quo.both t l t l) (t * t) (l * l)
def sqB (t l : Int) : Int := Quo.gL (Quo.both t l t l) (t * t) (l * l)
def sqO (t l : Int) : Bool := Quo.gOk (Quo.both t l t l) (t * t) (l * l)
def sqT (t l g : Int) : Int := if sqO t l = true then Quo.gT (Quo.both (sqA t l) (sqB t l) g 1) (sqA t l * g) (sqB t l * 1) else 0
def sqL (t l g : Int) : Int := if sqO t l = true then Quo.gL (Quo.both (sqA t l) (sqB t l) g 1) (sqA t l * g) (sqB t l * 1) else 0
def sqK (t l g : Int) : Bool := if sqO t l = true then Quo.gOk (Quo.both (sqA t l) (sqB t l) g 1) (sqA t l * g) (sqB t l * 1) else false
/-- two numbers in a block of their own -/
def Cell2 (W : World) (R : Nat) (x y : Int) : Prop := W.cell? ⟨R, 0, none⟩ = some (.int .i64 x) ∧ W.cell? ⟨R, 1, none⟩ = some (.int .i64 y) ∧ W.frozen? ⟨R, 0, none⟩ = false ∧ W.frozen? ⟨R, 1, none⟩ = false
theorem Cell2.below {W W' : World} {R : Nat} {x y : Int} (h : Cell2 W R x y) (hb : Below W.heap.size W W') : Cell2 W' R x y :=
  ⟨cell_below_keep hb h.1, cell_below_keep hb h.2.1, frozen_below_kE hb h.1 h.2.2.1, frozen_below_kE hb h.2.1 h.2.2.2⟩
theorem Cell2.new (W : World) (x y : Int) (T : TypeId) : Cell2 (W.alloc (.cells #[.int .i64 x, .int .i64 y] T)) W.heap.size x y := by
  refine ⟨?_, ?_, ?_, ?_⟩ <;> simp [go_sem]
theorem Cell2.lt {W : World} {R : Nat} {x y : Int} (h : Cell2 W R x y) : R < W.heap.size := World.block_lt_of_cell? W _ h.1
theorem Cell2.drew {W : World} {R : Nat} {x y : Int} (h : Cell2 W R x y) : Cell2 W.drew R x y := h
theorem Cell2.set {W : World} {R : Nat} {x y : Int} (h : Cell2 W R x y) (x' y' : Int) : Cell2 ((W.setCell ⟨R, 0, none⟩ (.int .i64 x')).setCell ⟨R, 1, none⟩ (.int .i64 y')) R x' y' := by
  obtain ⟨h1, h2, h3, h4⟩ := h
  refine ⟨?_, ?_, ?_, ?_⟩ <;> simp [go_sem, h1, h2, h3, h4]
theorem Cell2.other {W : World} {R S : Nat} {x y : Int} (h : Cell2 W R x y) (hne : R ≠ S) (i : Nat) (v : Value) : Cell2 (W.setCell ⟨S, i, none⟩ v) R x y := by
  have hb : (W.setCell ⟨S, i, none⟩ v).heap[R]? = W.heap[R]? := Deep.blk_setCell_other _ _ _ _ hne
  obtain ⟨h1, h2, h3, h4⟩ := h
  exact ⟨(World.cell?_of_block (a := ⟨R, 0, none⟩) hb).trans h1, (World.cell?_of_block (a := ⟨R, 1, none⟩) hb).trans h2, (World.frozen?_of_block (a := ⟨R, 0, none⟩) hb).trans h3, (World.frozen?_of_block (a := ⟨R, 1, none⟩) hb).trans h4⟩
theorem gen_exitE {Q : Exit → Act → World → Prop} {x : Exit} {a : Act} {W : World} (p : World → Prop) (h : p W) (k : ∀ W', p W' → Q x a W') : Q x a W := k W h
/-- one run more in the sum -/
def stO (fA fB : Rn → Int) (fP : Rn → Bool) (s : Int × Int) (r : Rn) : Bool := fP r && sqK (fA r) (fB r) r.g && Quo.gOk (Quo.both s.1 s.2 (sqT (fA r) (fB r) r.g) (sqL (fA r) (fB r) r.g)) (s.1 * sqL (fA r) (fB r) r.g + sqT (fA r) (fB r) r.g * s.2) (s.2 * sqL (fA r) (fB r) r.g)
def stV (fA fB : Rn → Int) (s : Int × Int) (r : Rn) : Int × Int := (Quo.gT (Quo.both s.1 s.2 (sqT (fA r) (fB r) r.g) (sqL (fA r) (fB r) r.g)) (s.1 * sqL (fA r) (fB r) r.g + sqT (fA r) (fB r) r.g * s.2) (s.2 * sqL (fA r) (fB r) r.g), Quo.gL (Quo.both s.1 s.2 (sqT (fA r) (fB r) r.g) (sqL (fA r) (fB r) r.g)) (s.1 * sqL (fA r) (fB r) r.g + sqT (fA r) (fB r) r.g * s.2) (s.2 * sqL (fA r) (fB r) r.g))
def sumS (fA fB : Rn → Int) (fP : Rn → Bool) : List Rn → Int × Int → Option (Int × Int)
  | [], s => some s
  | r :: l, s => if stO fA fB fP s r = true then sumS fA fB fP l (stV fA fB s r) else none
/-- what AdjustSum answers -/
def smV (n : Nat) (rs : List Rn) : Option (Int × Int) := sumS (rsT n rs) (rsL n rs) (rsB n rs) rs (0, 1)
def sumA (o : Option (Int × Int)) : Value := match o with
  | some s => .tuple #[.agg #[.int .i64 s.1, .int .i64 s.2], .bool true]
  | none => .tuple #[.agg #[.int .i64 0, .int .i64 0], .bool false]
theorem sum_step {fA fB : Rn → Int} {fP : Rn → Bool} {rs : List Rn} {k : Nat} {r : Rn} {s : Int × Int} (hr : rs[k]? = some r) : sumS fA fB fP (rs.drop k) s = if stO fA fB fP s r = true then sumS fA fB fP (rs.drop (k + 1)) (stV fA fB s r) else none := by
  have h : rs.drop k = r :: rs.drop (k + 1) := by
    rw [← (List.getElem?_eq_some_iff.1 hr).2, List.getElem_cons_drop]
  rw [h]; rfl
theorem whole_runs {N : Nat} {rs : List Rn} (hw : nWhole (N : Int) rs = true) : rs ≠ [] := by
  intro e
  subst e
  have hn := (whole_iff.1 hw).1
  have h2 := (nOk_true hn).1
  have h1 := (whole_spn hn).1 hw
  exact h1 (fun x => x = 1) (fun r hr => by simp at hr) (fun s _ hs => by
    have : s = 0 := by simpa [S0] using hs
    omega) 1 (by omega) rfl
end Go.Proofs.YtddmbjobibljaaaGreatDoor
