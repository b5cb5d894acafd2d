/- What the rules' functions decide: debounced, stretched, most levels. -/
import Derived.Test.YtkipgeecibimoaaRule
import Derived.Shelf.Abstract
namespace Go.Proofs.Ytkipgeecibimoaa
open Go.RowKit Go.Shelf
set_option linter.unusedVariables false

theorem win_cells {cs : Array Value} {T mk old : Nat} {arr : Nat → Bool} (h : WinV cs T mk old arr) (w : World) : (w.alloc (.cells cs TWin)).cell? ⟨w.heap.size, 0, none⟩ = some (.int .i64 (T : Int)) ∧ (w.alloc (.cells cs TWin)).cell? ⟨w.heap.size, 1, none⟩ = some (.int .i64 (mk : Int)) := by
  have hB : WinBlk (w.alloc (.cells cs TWin)) w.heap.size cs := by unfold WinBlk World.alloc; simp
  exact ⟨by rw [hB.cell]; exact h.c0, by rw [hB.cell]; exact h.c1⟩
end Go.Proofs.Ytkipgeecibimoaa
