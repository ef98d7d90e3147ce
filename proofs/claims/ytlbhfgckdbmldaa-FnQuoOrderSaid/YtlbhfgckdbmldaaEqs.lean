import Derived.Test.YtlbhfgckdbmldaaQh
namespace Go.Proofs.Ytlbhfgckdbmldaa
open Go.RowKit

theorem iAdd_eq (t l s m x y : Int) (c : Bool) (w : World) (h : Quo.gT (Quo.both t l s m) (t * m + s * l) (l * m) = x ∧ Quo.gL (Quo.both t l s m) (t * m + s * l) (l * m) = y ∧ Quo.gOk (Quo.both t l s m) (t * m + s * l) (l * m) = c) :
    Calls Try.prog 18 #[.agg #[.int .i64 t, .int .i64 l], .agg #[.int .i64 s, .int .i64 m]] w fun e w' => e = .returned (.tuple #[.agg #[.int .i64 x, .int .i64 y], .bool c]) ∧ Below w.heap.size w w' := by
  rw [← h.1, ← h.2.1, ← h.2.2]; exact iAdd_any t l s m w
theorem sAdd_eq (t l s m x y : Int) (c : Bool) (w : World) (h : Quo.gT (Quo.both t l s m) (t * m + s * l) (l * m) = x ∧ Quo.gL (Quo.both t l s m) (t * m + s * l) (l * m) = y ∧ Quo.gOk (Quo.both t l s m) (t * m + s * l) (l * m) = c) :
    Calls Try.prog 19 #[.agg #[.int .i64 t, .int .i64 l], .agg #[.int .i64 s, .int .i64 m]] w fun e w' => e = .returned (.tuple #[.agg #[.int .i64 x, .int .i64 y], .bool c]) ∧ Below w.heap.size w w' := by
  rw [← h.1, ← h.2.1, ← h.2.2]; exact sAdd_any t l s m w
theorem iTimes_eq (t l s m x y : Int) (c : Bool) (w : World) (h : Quo.gT (Quo.both t l s m) (t * s) (l * m) = x ∧ Quo.gL (Quo.both t l s m) (t * s) (l * m) = y ∧ Quo.gOk (Quo.both t l s m) (t * s) (l * m) = c) :
    Calls Try.prog 22 #[.agg #[.int .i64 t, .int .i64 l], .agg #[.int .i64 s, .int .i64 m]] w fun e w' => e = .returned (.tuple #[.agg #[.int .i64 x, .int .i64 y], .bool c]) ∧ Below w.heap.size w w' := by
  rw [← h.1, ← h.2.1, ← h.2.2]; exact iTimes_any t l s m w
theorem sTimes_eq (t l s m x y : Int) (c : Bool) (w : World) (h : Quo.gT (Quo.both t l s m) (t * s) (l * m) = x ∧ Quo.gL (Quo.both t l s m) (t * s) (l * m) = y ∧ Quo.gOk (Quo.both t l s m) (t * s) (l * m) = c) :
    Calls Try.prog 23 #[.agg #[.int .i64 t, .int .i64 l], .agg #[.int .i64 s, .int .i64 m]] w fun e w' => e = .returned (.tuple #[.agg #[.int .i64 x, .int .i64 y], .bool c]) ∧ Below w.heap.size w w' := by
  rw [← h.1, ← h.2.1, ← h.2.2]; exact sTimes_any t l s m w
theorem iTake_eq (t l s m x y : Int) (c : Bool) (w : World) (h1 : -9223372036854775808 ≤ s) (h2 : s ≤ 9223372036854775807) (h : Quo.gT (Quo.both t l s m) (t * m - s * l) (l * m) = x ∧ Quo.gL (Quo.both t l s m) (t * m - s * l) (l * m) = y ∧ Quo.gOk (Quo.both t l s m) (t * m - s * l) (l * m) = c) :
    Calls Try.prog 20 #[.agg #[.int .i64 t, .int .i64 l], .agg #[.int .i64 s, .int .i64 m]] w fun e w' => e = .returned (.tuple #[.agg #[.int .i64 x, .int .i64 y], .bool c]) ∧ Below w.heap.size w w' := by
  rw [← h.1, ← h.2.1, ← h.2.2]; exact iTake_any t l s m w h1 h2
end Go.Proofs.Ytlbhfgckdbmldaa
