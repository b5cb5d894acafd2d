/- A divided wave, on the side of the model, where the divider lies within a row. -/
import Derived.Test.YtkipgeecibimoaaDvSpec
namespace Go.Proofs.Ytkipgeecibimoaa
open Go.RowKit
set_option linter.unusedVariables false

end Go.Proofs.Ytkipgeecibimoaa
