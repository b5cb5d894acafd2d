/- Numbers make a fraction, on the side of the model. -/
import Derived.Test.YtfekdmnhlbjmaaaFrac
namespace Go.Proofs.Ytfekdmnhlbjmaaa
open Go.RowKit

end Go.Proofs.Ytfekdmnhlbjmaaa
