/-
  What the reference model's NetFits answers.
-/
import Derived.Test.YtjfbkafekkbcdaaNe
namespace Go.Proofs.Ytjfbkafekkbcdaa
open Go.RowKit
set_option linter.unusedVariables false

end Go.Proofs.Ytjfbkafekkbcdaa
