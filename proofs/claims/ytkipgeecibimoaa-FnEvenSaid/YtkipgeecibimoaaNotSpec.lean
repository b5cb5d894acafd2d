/- The other levels, on the side of the model. -/
import Derived.Test.YtkipgeecibimoaaBytes
namespace Go.Proofs.Ytkipgeecibimoaa
open Go.RowKit

def notL (l : List UInt8) : List UInt8 := l.map (fun b => 97 - b)
theorem notL_snoc (s : ByteArray) (k : Nat) (h : k < s.size) : notL (s.data.toList.take (k + 1)) = notL (s.data.toList.take k) ++ [97 - s[k]] := by
  rw [take_snoc s k h]; simp [notL]
theorem notL_len (s : ByteArray) (k : Nat) (h : k ≤ s.size) : (notL (s.data.toList.take k)).length = k := by simp [notL]; omega
theorem byte_sub97 (b : UInt8) : (97 - (b.toNat : Int)) % 256 = ((97 - b : UInt8).toNat : Int) := by
  rw [UInt8.toNat_sub]
  have := b.toNat_lt
  simp
  omega

end Go.Proofs.Ytkipgeecibimoaa
