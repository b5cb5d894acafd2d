/- Numbers of two words and a sign, on the side of the program: the product of two numbers, the sum of two wide numbers, the sign. -/
import Derived.Test.YtkipgeecibimoaaWide
import Derived.Test.YtkipgeecibimoaaGcd
import Derived.Test.YtkipgeecibimoaaShelf
import Derived.Shelf.Spec.BitsCarry
namespace Go.Proofs.Ytkipgeecibimoaa
open Go.RowKit

/-- the sign in words -/
def sgv (n : Bool) (A : Nat) : Int := if A = 0 then 0 else if n then -1 else 1

end Go.Proofs.Ytkipgeecibimoaa
