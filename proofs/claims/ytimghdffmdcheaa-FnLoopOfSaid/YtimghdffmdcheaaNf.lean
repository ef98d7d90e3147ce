/-
  What the reference model's NetFits answers.
-/
import Derived.Test.YtimghdffmdcheaaNe
namespace Go.Proofs.Ytimghdffmdcheaa
open Go.RowKit
set_option linter.unusedVariables false

end Go.Proofs.Ytimghdffmdcheaa
