/- The nearest ratio, on both sides. -/
import Derived.Test.YthkooboiacajeaaBestMath
import Derived.Test.YthkooboiacajeaaGoal
import Derived.Test.YthkooboiacajeaaPair
import Derived.Test.YthkooboiacajeaaKept
import Derived.Deep.RegionWith
namespace Go.Proofs.Ythkooboiacajeaa
open Go.RowKit
set_option linter.unusedVariables false

theorem near_abs (N D a b : Nat) : ((N : Int) * (b : Int) - (a : Int) * (D : Int)).natAbs = dsB N D a b := by
  unfold dsB; omega
end Go.Proofs.Ythkooboiacajeaa
