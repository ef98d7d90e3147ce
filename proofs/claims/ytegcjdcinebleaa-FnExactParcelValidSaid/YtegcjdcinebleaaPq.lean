/-
  Two arrays of two integers compared.
-/
import Derived.Test.YtegcjdcinebleaaZa
namespace Go.Proofs.Ytegcjdcinebleaa
open Go.RowKit
theorem arr_in (d : Nat) (x y z t : Int) (w : World) : (Op.equalIn (d + 2) 84 (.agg #[.int .i64 x, .int .i64 y]) (.agg #[.int .i64 z, .int .i64 t])).run Try.prog w = .ok (x == z && y == t) w := by
  have hu : Try.prog.underlying 84 = some (.array 2 3) := by kernel_rfl
  have hi := Try.underlying3
  have hs : ∀ w, (sizeOf 3).run Try.prog w = .ok 1 w := fun w => by kernel_rfl
  have p0 : ∀ (w : World) (x y : Int), (part 3 #[.int .i64 x, .int .i64 y] (0 * 1)).run Try.prog w = .ok (.int .i64 x) w := fun w x y => by kernel_rfl
  have p1 : ∀ (w : World) (x y : Int), (part 3 #[.int .i64 x, .int .i64 y] (1 * 1)).run Try.prog w = .ok (.int .i64 y) w := fun w x y => by kernel_rfl
  have e := fun (a b : Int) (w : World) => run_equalIn_int (P := Try.prog) w d 3 .i64 .i64 a b hi
  rw [Op.equalIn]
  simp only [Sem.run_bind, run_underlying hu, Result.andThen_ok, hs]
  simp only [Std.Legacy.Range.forIn_eq_forIn_range', Std.Legacy.Range.size, List.range'_succ, List.range'_zero, List.forIn_cons, List.forIn_nil, Nat.sub_zero, Nat.reduceAdd, Nat.reduceSub, Nat.reduceDiv, Nat.div_one, Sem.run_bind, p0, p1, e, Result.andThen_ok, Nat.zero_add]
  by_cases h1 : x = z <;> by_cases h2 : y = t <;> simp [h1, h2, p1, e]
theorem arr_eql (x y z t : Int) (w : World) : (binOp .eql 84 (.agg #[.int .i64 x, .int .i64 y]) (.agg #[.int .i64 z, .int .i64 t])).run Try.prog w = .ok (.bool (x == z && y == t)) w := by
  rw [run_eql_struct, show (10000 : Nat) = 9998 + 2 from rfl, arr_in]
  rfl
end Go.Proofs.Ytegcjdcinebleaa
