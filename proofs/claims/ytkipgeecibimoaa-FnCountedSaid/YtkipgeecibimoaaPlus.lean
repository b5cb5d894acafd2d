/- The sum of two numbers of two words and a sign, on the side of the program. -/
import Derived.Test.YtkipgeecibimoaaWideImpl
namespace Go.Proofs.Ytkipgeecibimoaa
open Go.RowKit

def cA (A B : Nat) : Nat := (loW A + loW B) / 18446744073709551616
def sL (A B : Nat) : Nat := (loW A + 18446744073709551616 - loW B) % 18446744073709551616
def bA (A B : Nat) : Nat := if loW A < loW B then 1 else 0
def sH (A B : Nat) : Nat := (hiW A + 18446744073709551616 - hiW B - bA A B) % 18446744073709551616
theorem sL_eq (A B : Nat) (h : B ≤ A) : sL A B = loW (A - B) := by unfold sL loW; omega
end Go.Proofs.Ytkipgeecibimoaa
