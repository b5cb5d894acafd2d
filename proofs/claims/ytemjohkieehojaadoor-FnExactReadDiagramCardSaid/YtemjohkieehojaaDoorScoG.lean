/- Rows of strings, by getD. -/
import Derived.Test.YtemjohkieehojaaDoorStrs
namespace Go.Proofs.YtemjohkieehojaaDoor
open Go.RowKit
set_option linter.unusedVariables false
theorem rngS_step (f : Nat → Bool) (k : Nat) (h0 : (List.range k).all f = true) (h : f k = true) : (List.range (k + 1)).all f = true := by
  rw [List.range_succ, List.all_append, h0]; simp [h]
theorem rngS_bad (f : Nat → Bool) (k n : Nat) (hk : k < n) (h : f k = false) : (List.range n).all f = false := by
  rw [List.all_eq_false]; exact ⟨k, List.mem_range.2 hk, by simp [h]⟩
theorem rngS_at {f : Nat → Bool} {n : Nat} (h : (List.range n).all f = true) (k : Nat) (hk : k < n) : f k = true := List.all_eq_true.1 h k (List.mem_range.2 hk)
theorem getD_s {l : List ByteArray} {k : Nat} (hk : k < l.length) : l[k] = l.getD k ByteArray.empty := by rw [List.getD_eq_getElem?_getD, List.getElem?_eq_getElem hk]; rfl
theorem SRow.get {w : World} {a : Option Addr} {l : List ByteArray} (h : SRow w a l) (k : Nat) (hk : k < l.length) : ∃ b off, a = some ⟨b, off, none⟩ ∧ b < w.heap.size ∧ w.cell? ⟨b, off + k, none⟩ = some (.string (l.getD k ByteArray.empty)) := by
  obtain ⟨b, off, h1, h2, h3⟩ := h.at k hk
  exact ⟨b, off, h1, h2, by rw [h3, getD_s hk]⟩
theorem below_dr {B : Nat} {a w : World} (h : Below B a w) (n : Nat) : Below B a (w.drewN n) := ⟨h.os, h.tape, h.output, h.size, h.block⟩
theorem Strs.snoc {w1 : World} {B : Nat} {v : Value} {l : List ByteArray} {x : ByteArray} (h : w1.ownsRow B 9 1 v (l.length + 1) (l.map Value.string ++ [.string x])) : Strs w1 B v (l ++ [x]) := by
  unfold Strs
  rw [List.map_append, List.length_append]; exact h
theorem Strs.below {w wr w1 : World} {v : Value} {l : List ByteArray} {B : Nat} (hB : Below B w wr) (hbuf : Strs wr B v l) (o : Obj) (hg : (wr.alloc o).grownBy w1 v.ownBlock) (hs : w.heap.size ≤ B := by exact Nat.le_refl _) (hBr : B ≤ wr.heap.size := by first | assumption | omega) : Below B w w1 :=
  (hB.alloc hBr o).grown hg (by simp; omega) (fun k e => ((World.ownsRow.alloc hbuf o).lt k e).1)
end Go.Proofs.YtemjohkieehojaaDoor
