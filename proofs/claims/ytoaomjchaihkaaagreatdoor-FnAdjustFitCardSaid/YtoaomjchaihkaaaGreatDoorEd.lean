/-
  What the rows' list gives: the package's error variable holds an error of errors.New's make, and reads the same wherever only new memory has come.
-/
import Derived.Test.YtoaomjchaihkaaaGreatDoorTie
import Derived.Test.YtoaomjchaihkaaaGreatDoorEi
import Derived.Stop.LaidErr
import Derived.LaidMore
import Derived.Deep.DeepHandedRow
namespace Go.Proofs.YtoaomjchaihkaaaGreatDoor
open Go.ChangeShapes Go.WideShapes Go.ChangeAt Go.RowKit
set_option linter.unusedVariables false

theorem gE : Tryz.prog.globalNamed "loop.example/levellingnet/impl.errNoQuotients" = some 0 := by kernel_rfl
theorem gEType : (Tryz.prog.globals[0]?).map (·.type) = some 60 := by kernel_rfl
theorem cellsES : Tryz.prog.cellsOf 187 = 1 := by kernel_rfl
theorem cellsStr : Tryz.prog.cellsOf 9 = 1 := by kernel_rfl
theorem starE : "*" ++ "errors.errorString" = "*errors.errorString" := by decide
theorem rowE (u : TypeId) (h : Tryz.prog.typeName? 3 u = some "*errors.errorString") : u = 162 :=
  typeName_ptr_named (nm := "errors.errorString") (by rw [starE]; kernel_rfl) (by kernel_rfl) (by decide) u (by rw [starE]; exact h)
/-- the variable holds the error at a -/
def VarE (W : World) (a : Addr) : Prop := W.var? Tryz.prog "loop.example/levellingnet/impl.errNoQuotients" = some #[.iface 162 (.pointer (some a))]
theorem err_laid {W : World} (h : laidMet Tryz.prog [("loop.example/levellingnet/impl.errNoQuotients", Rows.laid_loop_example_levellingnet_impl_errNoQuotients)] W) : ∃ a : Addr, VarE W a := by
  obtain ⟨a, s, hv, -, -, -⟩ := laid_sentinel h gE gEType Tryz.underlying60 rowE Tryz.underlying162 Tryz.underlying187 rfl rfl Tryz.underlying9 cellsES cellsStr
  exact ⟨a, hv⟩
theorem VarE.err {W : World} {a : Addr} (h : VarE W a) : ErrV W := ⟨a, by simpa using World.var?_cell gE h 0⟩
theorem VarE.below {W W' : World} {a : Addr} (h : VarE W a) (hb : Below W.heap.size W W') : VarE W' a := by
  have hc : W.cell? ⟨0, 0, none⟩ = some (.iface 162 (.pointer (some a))) := by simpa using World.var?_cell gE h 0
  have hl : 0 < W.heap.size := World.block_lt_of_cell? W _ hc
  have e := hb.block 0 hl
  unfold VarE World.var? at h ⊢
  rw [gE] at h ⊢
  simp only [Option.bind_some] at h ⊢
  rw [e]; exact h
theorem VarE.reads {H : Type} (enc : TypeId × Value → H) {W : World} {a : Addr} (h : VarE W a) (sp : Nat → Bool) :
    DataW.TrodVars enc Tryz.prog W sp ["loop.example/levellingnet/impl.errNoQuotients"] [tok enc (.iface 162 (.pointer (some a)))] [.cell 0 0] := vars_read1 enc gE gEType Tryz.underlying60 h trivial sp
end Go.Proofs.YtoaomjchaihkaaaGreatDoor
