/- The same as the steps. -/
import Derived.Test.YthkooboiacajeaaStep
namespace Go.Proofs.Ythkooboiacajeaa
end Go.Proofs.Ythkooboiacajeaa
