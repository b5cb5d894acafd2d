/- Steps and moduli, on both sides: are they valid. -/
import Derived.Test.YtkipgeecibimoaaIn64
import Derived.IntWalk
namespace Go.Proofs.Ytkipgeecibimoaa
open Go.RowKit

def stepOk (s m : Int) : Prop := 1 ≤ m ∧ m ≤ 1000 ∧ 1 ≤ s ∧ s ≤ m
end Go.Proofs.Ytkipgeecibimoaa
