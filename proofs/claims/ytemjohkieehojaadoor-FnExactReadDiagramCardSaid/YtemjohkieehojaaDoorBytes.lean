/- Bytes that a call collects in a slice of its own, one after another, and makes a text of: what holds from round to round. -/
import Derived.Test.YtemjohkieehojaaDoorWords
import Derived.Test.YtemjohkieehojaaDoorRows
import Derived.LoopTactic
import Derived.Maps.AppendAt
namespace Go.Proofs.YtemjohkieehojaaDoor
open Go.RowKit

theorem info_u8 : (Tryd.prog.info? 5).map (fun i => (i.zero, i.size, i.bytes)) = some (some (.int .u8 0), 1, 1) := by kernel_rfl

/-- the cells of bytes -/
def byCells (l : List UInt8) : List Value := l.map (fun b => .int .u8 (b.toNat : Int))
/-- the slice value v of the call's own, in blocks from B on, holds the bytes l -/
def Buf (w : World) (B : Nat) (v : Value) (l : List UInt8) : Prop := w.ownsRow B 5 1 v l.length (byCells l)

theorem Buf.lit (w : World) : Buf (w.alloc (.cells #[] 5)) w.heap.size (.slice (some ⟨w.heap.size, 0, none⟩) 0 0) [] :=
  World.ownsRow_lit w #[] 0 (Nat.le_refl _) (Nat.zero_le _) rfl

theorem byCells_snoc (l : List UInt8) (b : UInt8) : byCells (l ++ [b]) = byCells l ++ [.int .u8 (b.toNat : Int)] := by simp [byCells]

theorem run_buf_string (w : World) (B : Nat) (v : Value) (l : List UInt8) (h : Buf w B v l) :
    (convert 43 9 v).run Tryd.prog w = .ok (.string ⟨l.toArray⟩) w := by
  rcases h with ⟨_, ⟨rfl, hn⟩ | ⟨g, cap, cur, rfl, hg, hh, hc, hm, hs, ht⟩⟩
  · obtain rfl : l = [] := List.length_eq_zero_iff.1 hn
    rw [run_convert_bytes_string w _ _ _ none 0 0 Tryd.underlying43 Tryd.underlying5 Tryd.underlying9]
    simp [Conv.bytesToString, Sem.run_pure]
    rfl
  · refine run_convert_bytes_back w _ _ _ ⟨g, 0, none⟩ cap l Tryd.underlying43 Tryd.underlying5 Tryd.underlying9 (fun j hj => ?_)
    have h' : w.ownsRow B 5 1 (.slice (some ⟨g, 0, none⟩) l.length cap) l.length (byCells l) := ⟨by simp [byCells], .inr ⟨g, cap, cur, rfl, hg, hh, hc, hm, hs, ht⟩⟩
    exact h'.cells rfl j _ (by simp [byCells, List.getElem?_eq_getElem hj])

theorem Buf.snoc {w1 : World} {B : Nat} {v : Value} {l : List UInt8} {b : UInt8} (h : w1.ownsRow B 5 1 v (l.length + 1) (byCells l ++ [.int .u8 (b.toNat : Int)])) : Buf w1 B v (l ++ [b]) := by
  unfold Buf; rw [byCells_snoc, List.length_append]; exact h
theorem Buf.below {w wr w1 : World} {v : Value} {l : List UInt8} (hB : Below w.heap.size w wr) (hbuf : Buf wr w.heap.size v l) (o : Obj) (hg : (wr.alloc o).grownBy w1 v.ownBlock) : Below w.heap.size w w1 :=
  (hB.alloc hB.size o).grown hg (by have := hB.size; simp; omega) (fun k e => ((World.ownsRow.alloc hbuf o).lt k e).1)
end Go.Proofs.YtemjohkieehojaaDoor
