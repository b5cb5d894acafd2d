/- Contracts: is an int64 within bounds; on both sides. -/
import Derived.Test.YtipidbceempeiaaDoorWords
import Derived.Test.YtipidbceempeiaaDoorRows
import Derived.LoopTactic
namespace Go.Proofs.YtipidbceempeiaaDoor
open Go.RowKit

end Go.Proofs.YtipidbceempeiaaDoor
