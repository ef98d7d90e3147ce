/-
  A region that draws its order as in RegB, where the worlds' growth is told besides (for what else holds of memory, a table's content).
-/
import Derived.Test.YtigmhhdbldlgaaaDoorRegB
namespace Go.Proofs.YtigmhhdbldlgaaaDoor
open Go Go.RowKit

theorem wp_region_told {P : Program} {id : Nat} {Q : Exit → Act → World → Prop} {a : Act} {w : World} {l : List Oper} (hm : P.follows .mixedOrders = true) (hB : Region.lexB .any l.toArray = true)
    (h : ∀ W : World, Below w.heap.size w W → (∀ b o, W.cell? ⟨b, o, none⟩ = w.cell? ⟨b, o, none⟩) → W.heap.size = w.heap.size → (∀ (d : Ext W) (b o : Nat), b < W.heap.size → d.now.cell? ⟨b, o, none⟩ = W.cell? ⟨b, o, none⟩) →
      wpQuiet P l.toArray (fun w' => ∃ d : Ext W, w' = d.now) (fun a' => ∀ w', Below w.heap.size w w' → Q .normal a' w') l a) : (Code.region id l.toArray true).wp P Q a w :=
  wp_region_quiet (C := fun w' => ∃ d : Ext w, w' = d.now) hm hB (Grows.of ⟨rfl, rfl, rfl, Nat.le_refl _, fun _ _ => rfl⟩) (by
    have := h w (Below.refl _ _) (fun _ _ => rfl) rfl Ext.cell
    refine wpQuiet_mono' (fun a' ha w' => ?_) _ _ this
    rintro ⟨d, rfl⟩
    exact ha _ d.grown)
end Go.Proofs.YtigmhhdbldlgaaaDoor
