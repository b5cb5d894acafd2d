/- A toggled wave, on the side of the model. -/
import Derived.Test.YtkipgeecibimoaaBytes
import Derived.Test.YtkipgeecibimoaaWaveStr
import Derived.Test.YtkipgeecibimoaaIn64
namespace Go.Proofs.Ytkipgeecibimoaa
open Go.RowKit
set_option linter.unusedVariables false

/-- the level, the level before, the number of edges, behind so many ticks -/
def togF (m : Nat) (l : List UInt8) : Nat → UInt8 × UInt8 × Nat
  | 0 => (48, 48, 0)
  | i + 1 => if l.getD i 0 = (togF m l i).2.1 then ((togF m l i).1, l.getD i 0, (togF m l i).2.2) else (if (togF m l i).2.2 % m = 0 then 97 - (togF m l i).1 else (togF m l i).1, l.getD i 0, (togF m l i).2.2 + 1)
def togL (m : Nat) (l : List UInt8) (i : Nat) : List UInt8 := (List.range i).map (fun j => (togF m l (j + 1)).1)
theorem togL_snoc (m : Nat) (l : List UInt8) (i : Nat) : togL m l (i + 1) = togL m l i ++ [(togF m l (i + 1)).1] := by simp [togL, List.range_succ]
theorem togL_len (m : Nat) (l : List UInt8) (i : Nat) : (togL m l i).length = i := by simp [togL]
theorem tgl_other {c : UInt8} (h : c = 48 ∨ c = 49) : ∃ d : UInt8, (d = 48 ∨ d = 49) ∧ 97 - c = d ∧ 97 - (c.toNat : Int) = (d.toNat : Int) ∧ IntKind.u8.wrap (97 - (c.toNat : Int)) = (d.toNat : Int) := by
  rcases h with rfl | rfl
  · exact ⟨49, .inr rfl, by decide, by decide, by decide⟩
  · exact ⟨48, .inl rfl, by decide, by decide, by decide⟩
theorem tgl_small {c : UInt8} (h : c = 48 ∨ c = 49) : 48 ≤ (c.toNat : Int) ∧ (c.toNat : Int) ≤ 49 := by
  rcases h with rfl | rfl <;> decide
theorem tog_same {m : Nat} {l : List UInt8} {i : Nat} {x y : UInt8} {k : Nat} (h : togF m l i = (x, y, k)) (e : l.getD i 0 = y) : togF m l (i + 1) = (x, y, k) := by
  unfold togF; rw [h]; simp only; rw [if_pos e, e]
theorem tog_turn {m : Nat} {l : List UInt8} {i : Nat} {x y z : UInt8} {k : Nat} (h : togF m l i = (x, y, k)) (hz : l.getD i 0 = z) (e : z ≠ y) (hk : k % m = 0) : togF m l (i + 1) = (97 - x, z, k + 1) := by
  unfold togF; rw [h]; simp only; rw [hz, if_neg e, if_pos hk]
theorem tog_keep {m : Nat} {l : List UInt8} {i : Nat} {x y z : UInt8} {k : Nat} (h : togF m l i = (x, y, k)) (hz : l.getD i 0 = z) (e : z ≠ y) (hk : ¬ k % m = 0) : togF m l (i + 1) = (x, z, k + 1) := by
  unfold togF; rw [h]; simp only; rw [hz, if_neg e, if_neg hk]
theorem getD_at (s : ByteArray) (k : Nat) (h : k < s.size) : s.data.toList.getD k 0 = s[k] := by
  have h2 : k < s.data.toList.length := by simpa using h
  rw [List.getD_eq_getElem?_getD, List.getElem?_eq_getElem h2]; rfl

end Go.Proofs.Ytkipgeecibimoaa
