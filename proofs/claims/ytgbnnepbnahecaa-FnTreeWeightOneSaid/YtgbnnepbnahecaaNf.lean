/-
  What the reference model's NetFits answers.
-/
import Derived.Test.YtgbnnepbnahecaaNe
namespace Go.Proofs.Ytgbnnepbnahecaa
open Go.RowKit
set_option linter.unusedVariables false

end Go.Proofs.Ytgbnnepbnahecaa
