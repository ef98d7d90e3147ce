/-
  errors.Is where the error is nil or the variable's own; what it means that the package's error variable holds an error of errors.New's; lists of runs beside it.
-/
import Derived.Test.YtoaomjchaihkaaaGreatDoorZm
import Derived.LaidEql
import Derived.Stop.Asserts
import Derived.RowKitTokens
namespace Go.Proofs.YtoaomjchaihkaaaGreatDoor
open Go.RowKit Go.Extern.Stop Go.Stop Go.Extern
set_option linter.unusedVariables false

theorem isTypeOf (v : Value) (w : World) : (Extern.ReflectliteType.typeOf #[.iface 162 v]).run Tryz.prog w = .ok (.iface 136 (.agg #[.pointer (some ⟨1, 162, none⟩)])) w := by kernel_rfl
theorem isComparable (w : World) : ((Extern.ReflectliteType.method fun t => do Rtype.noPackHeld "Comparable" t; (fun a => Value.bool a.comparable) <$> typeInfo t) #[.agg #[.pointer (some ⟨1, 162, none⟩)]]).run Tryz.prog w = .ok (.bool true) w := by kernel_rfl
theorem isMethodComparable (v : Value) (w : World) : (Go.method 299 136 v "Comparable").run Tryz.prog w = .ok (152, v) w := by kernel_rfl
theorem isComp : (Tryz.prog.info? 162).map (·.comparable) = some true := by kernel_rfl
theorem isSize : (Tryz.prog.info? 187).map (·.size) = some 1 := by kernel_rfl
theorem is_same0 (a : Addr) (w : World) :
    Calls Tryz.prog 74 #[.iface 162 (.pointer (some a)), .iface 162 (.pointer (some a)), .bool true] w fun e w' => e = .returned (.bool true) ∧ w' = w := by
  obtain ⟨i, hi, hcmp⟩ := Option.map_eq_some_iff.1 isComp
  obtain ⟨j, hj, hjs⟩ := Option.map_eq_some_iff.1 isSize
  have heq := run_eql_iface_ptr_same (P := Tryz.prog) w a Tryz.underlying60 Tryz.underlying162 hi hcmp hj
  go_enter Tryz.func74, Tryz.ntmps74
  go_wp2
  refine wp_loop_rounds 1 ?_
  rw [rounds_succ]
  go_wp2
  go_ret
  exact ⟨rfl, rfl⟩
set_option maxRecDepth 100000 in
theorem is_same (a : Addr) (w : World) :
    Calls Tryz.prog 35 #[.iface 162 (.pointer (some a)), .iface 162 (.pointer (some a))] w fun e w' => e = .returned (.bool true) ∧ w' = w := by
  have h8 := @run_callFunc_extern Tryz.prog 73 _ Extern.ReflectliteType.typeOf Tryz.func73 (by kernel_rfl) (by kernel_rfl) (by kernel_rfl) (by kernel_rfl)
  have h32 := @run_callFunc_extern Tryz.prog 152 _ (Extern.ReflectliteType.method fun t => do Rtype.noPackHeld "Comparable" t; pure (.bool (← typeInfo t).comparable)) Tryz.func152 (by kernel_rfl) (by kernel_rfl) (by kernel_rfl) (by kernel_rfl)
  have tT := isTypeOf
  have cT := isComparable
  have mR := isMethodComparable
  go_enter Tryz.func35, Tryz.ntmps35
  go_wp2_with (go_at_call 74; (with_reducible refine (is_same0 a _).mono ?_); rintro e w' ⟨rfl, rfl⟩)
  go_ret
  exact ⟨rfl, rfl⟩
/-- errors.Is(nil, x). -/
theorem is_nil (b : Addr) (w : World) :
    Calls Tryz.prog 35 #[.nilIface, .iface 162 (.pointer (some b))] w fun e w' => e = .returned (.bool false) ∧ w' = w := by
  have hn := run_eql_iface_nil_left (P := Tryz.prog) w 162 (.pointer (some b)) Tryz.underlying60
  go_enter Tryz.func35, Tryz.ntmps35
  go_wp2
  go_ret
  exact ⟨rfl, rfl⟩
/-- the package's error variable holds an error of errors.New's make -/
def ErrV (w : World) : Prop := ∃ a : Addr, w.cell? ⟨0, 0, none⟩ = some (.iface 162 (.pointer (some a)))
theorem ErrV.below {w w' : World} (h : ErrV w) (hb : Below w.heap.size w w') : ErrV w' := by
  obtain ⟨a, h⟩ := h
  exact ⟨a, cell_below_keep hb h⟩
/-- a list of runs, and the error variable -/
def RunsE (w : World) (p : Option Addr) (rs : List Rn) : Prop := Runs w p rs ∧ ErrV w
theorem RunsE.runs {w : World} {p : Option Addr} {rs : List Rn} (h : RunsE w p rs) : Runs w p rs := h.1
theorem RunsE.err {w : World} {p : Option Addr} {rs : List Rn} (h : RunsE w p rs) : ErrV w := h.2
theorem RunsE.below {w w' : World} {p : Option Addr} {rs : List Rn} (h : RunsE w p rs) (hb : Below w.heap.size w w') : RunsE w' p rs := ⟨h.1.below hb, h.2.below hb⟩
instance {w : World} {p : Option Addr} {rs : List Rn} : Coe (RunsE w p rs) (Runs w p rs) := ⟨fun h => h.1⟩
end Go.Proofs.YtoaomjchaihkaaaGreatDoor
