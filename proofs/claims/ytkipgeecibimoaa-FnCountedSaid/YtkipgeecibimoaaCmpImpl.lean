/- The comparison of two fractions, on the side of the program. -/
import Derived.Test.YtkipgeecibimoaaPlus
import Derived.Test.YtkipgeecibimoaaFrac
import Derived.Test.YtkipgeecibimoaaKept
namespace Go.Proofs.Ytkipgeecibimoaa
open Go.RowKit

theorem sgv_eq (n m : Bool) (A B : Nat) :
    (if A < B then (if n = m then sgv n (B + A) else sgv m (B - A)) else (if n = m then sgv n (A + B) else sgv n (A - B))) = (if n = m then sgv n (A + B) else if A < B then sgv m (B - A) else sgv n (A - B)) := by
  by_cases h : A < B <;> by_cases h2 : n = m <;> simp [h, h2, Nat.add_comm]

/-- the sum of two wide numbers, and its sign -/
def addN (n m : Bool) (A B : Nat) : Bool := if n = m then n else if A < B then m else n
def addV (n m : Bool) (A B : Nat) : Nat := if n = m then A + B else if A < B then B - A else A - B
theorem addV_lt (n m : Bool) (A B : Nat) (hA : A < 170141183460469231731687303715884105728) (hB : B < 170141183460469231731687303715884105728) : addV n m A B < 340282366920938463463374607431768211456 := by
  unfold addV; split; omega; split <;> omega

theorem prod_lt (a b : Nat) (ha : a ≤ 1000000000000000000) (hb : b ≤ 1000000000000000000) : a * b < 170141183460469231731687303715884105728 :=
  Nat.lt_of_le_of_lt (Nat.mul_le_mul ha hb) (by decide)

/-- is a number below 0 -/
def ngB (x : Int) : Bool := decide (x < 0)
def cmpI (n d p q : Int) : Int := sgv (addN (ngB n) (ngB (-p)) (n.natAbs * q.natAbs) (p.natAbs * d.natAbs)) (addV (ngB n) (ngB (-p)) (n.natAbs * q.natAbs) (p.natAbs * d.natAbs))

end Go.Proofs.Ytkipgeecibimoaa
