/- A wave that comes later, on the side of the model. -/
import Derived.Test.YtmhbgpappjfolaaNotSpec
namespace Go.Proofs.Ytmhbgpappjfolaa
open Go.RowKit

def delL (t : Nat) (l : List UInt8) (k : Nat) : List UInt8 := (List.range k).map (fun i => if i < t then 48 else l.getD (i - t) 0)
theorem delL_snoc (t : Nat) (l : List UInt8) (k : Nat) : delL t l (k + 1) = delL t l k ++ [if k < t then 48 else l.getD (k - t) 0] := by
  simp [delL, List.range_succ]
theorem delL_len (t : Nat) (l : List UInt8) (k : Nat) : (delL t l k).length = k := by simp [delL]

end Go.Proofs.Ytmhbgpappjfolaa
