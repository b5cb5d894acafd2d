/- Levels that two waves make, on the side of the model. -/
import Derived.Test.YthkooboiacajeacNotSpec
namespace Go.Proofs.Ythkooboiacajeac
open Go.RowKit

/-- do two levels, on or off, make the level 1? -/
def joinZ (op : Int) (x y : Bool) : Bool := if op = 0 then x && y else if op = 1 then x || y else if op = 2 then x != y else x && !y
def onB (b : UInt8) : Bool := (b.toNat : Int) == 49
def joinB (op : Int) (a b : UInt8) : UInt8 := if joinZ op (onB a) (onB b) then 49 else 48
def joinL (op : Int) (a b : List UInt8) : List UInt8 := List.zipWith (joinB op) a b
theorem joinL_snoc (op : Int) (a b : ByteArray) (k : Nat) (h : k < a.size) (h2 : k < b.size) : joinL op (a.data.toList.take (k + 1)) (b.data.toList.take (k + 1)) = joinL op (a.data.toList.take k) (b.data.toList.take k) ++ [joinB op a[k] b[k]] := by
  rw [take_snoc a k h, take_snoc b k h2]
  unfold joinL
  rw [List.zipWith_append (by simp; omega)]
  rfl
theorem joinL_len (op : Int) (a b : ByteArray) (k : Nat) (h : k ≤ a.size) (h2 : k ≤ b.size) : (joinL op (a.data.toList.take k) (b.data.toList.take k)).length = k := by simp [joinL]; omega

end Go.Proofs.Ythkooboiacajeac
