/- A divided wave, on the side of the model. -/
import Derived.Test.YtkipgeecibimoaaTogSpec
import Derived.Test.YtkipgeecibimoaaDivd
namespace Go.Proofs.Ytkipgeecibimoaa
open Go.RowKit
set_option linter.unusedVariables false

/-- does the wave go up at a tick -/
def upAt (l : List UInt8) (i : Nat) : Prop := l.getD i 0 = 49 ∧ (i = 0 ∨ l.getD (i - 1) 0 = 48)
instance (l : List UInt8) (i : Nat) : Decidable (upAt l i) := by unfold upAt; exact inferInstance
/-- the level and the number of ups, behind so many ticks -/
def dvF (m gh : Nat) (l : List UInt8) : Nat → UInt8 × Nat
  | 0 => (48, 0)
  | i + 1 => if upAt l i then (if (dvF m gh l i).2 % m < gh then 49 else 48, (dvF m gh l i).2 + 1) else dvF m gh l i
def dvL (m gh : Nat) (l : List UInt8) (i : Nat) : List UInt8 := (List.range i).map (fun j => (dvF m gh l (j + 1)).1)
theorem dvL_snoc (m gh : Nat) (l : List UInt8) (i : Nat) : dvL m gh l (i + 1) = dvL m gh l i ++ [(dvF m gh l (i + 1)).1] := by simp [dvL, List.range_succ]
theorem dvL_len (m gh : Nat) (l : List UInt8) (i : Nat) : (dvL m gh l i).length = i := by simp [dvL]
theorem dv_stay {m gh : Nat} {l : List UInt8} {i : Nat} {x : UInt8} {k : Nat} (h : dvF m gh l i = (x, k)) (u : ¬ upAt l i) : dvF m gh l (i + 1) = (x, k) := by
  unfold dvF; rw [if_neg u]; exact h
theorem dv_up {m gh : Nat} {l : List UInt8} {i : Nat} {x : UInt8} {k : Nat} (h : dvF m gh l i = (x, k)) (u : upAt l i) (hk : k % m < gh) : dvF m gh l (i + 1) = (49, k + 1) := by
  unfold dvF; rw [if_pos u, h]; simp only; rw [if_pos hk]
theorem dv_down {m gh : Nat} {l : List UInt8} {i : Nat} {x : UInt8} {k : Nat} (h : dvF m gh l i = (x, k)) (u : upAt l i) (hk : ¬ k % m < gh) : dvF m gh l (i + 1) = (48, k + 1) := by
  unfold dvF; rw [if_pos u, h]; simp only; rw [if_neg hk]

end Go.Proofs.Ytkipgeecibimoaa
