/- The ticks at which a wave changes to a level, on the side of the model. -/
import Derived.Test.YtafecdmcbpnniabDoorEdgeWords
import Derived.Test.YtafecdmcbpnniabDoorInts
namespace Go.Proofs.YtafecdmcbpnniabDoor
open Go.RowKit

theorem Ints.snoc {w1 : World} {B : Nat} {v : Value} {l : List Int} {x : Int} (h : w1.ownsRow B 2 1 v (l.length + 1) (l.map (Value.int .i64) ++ [.int .i64 x])) : Ints w1 B v (l ++ [x]) := by
  unfold Ints; rw [List.map_append, List.length_append]; exact h
theorem Ints.below {w wr w1 : World} {v : Value} {l : List Int} (hB : Below w.heap.size w wr) (hbuf : Ints wr w.heap.size v l) (o : Obj) (hg : (wr.alloc o).grownBy w1 v.ownBlock) : Below w.heap.size w w1 :=
  (hB.alloc hB.size o).grown hg (by have := hB.size; simp; omega) (fun k e => ((World.ownsRow.alloc hbuf o).lt k e).1)

end Go.Proofs.YtafecdmcbpnniabDoor
