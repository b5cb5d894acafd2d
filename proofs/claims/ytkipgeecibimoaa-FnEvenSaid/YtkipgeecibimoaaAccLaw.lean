/- The pulses of an accumulator, and an even pattern, on the side of the model, and the walks of two laws. -/
import Derived.Test.YtkipgeecibimoaaAcc
import Derived.Test.YtkipgeecibimoaaStepOk
import Derived.Test.YtkipgeecibimoaaBytes
import Derived.BigQuiet
import Derived.Deep.QuietTactic
namespace Go.Proofs.Ytkipgeecibimoaa
open Go.RowKit
set_option linter.unusedVariables false

theorem cell_keptA {W w1 : World} (hb : Below W.heap.size W w1) {a : Addr} {v : Value} (h : W.cell? a = some v) : w1.cell? a = some v :=
  (hb.cell (World.block_lt_of_cell? W a h)).trans h
theorem accT_hit (s m p t : Nat) (L R : List UInt8) (ht : 0 < t) (h : L ++ accL s m p t = R) (hm : m ≤ p + s) : (L ++ [49]) ++ accL s m (p + s - m) (t - 1) = R := by
  obtain ⟨u, rfl⟩ : ∃ u, t = u + 1 := ⟨t - 1, by omega⟩
  rw [← h, accL, if_pos hm]; simp
theorem accT_miss (s m p t : Nat) (L R : List UInt8) (ht : 0 < t) (h : L ++ accL s m p t = R) (hm : ¬ m ≤ p + s) : (L ++ [48]) ++ accL s m (p + s) (t - 1) = R := by
  obtain ⟨u, rfl⟩ : ∃ u, t = u + 1 := ⟨t - 1, by omega⟩
  rw [← h, accL, if_neg hm]; simp
theorem accT_over (s m p t : Nat) (L R : List UInt8) (ht : ¬ 0 < t) (h : L ++ accL s m p t = R) : L = R := by
  obtain rfl : t = 0 := by omega
  rw [← h, accL]; simp

end Go.Proofs.Ytkipgeecibimoaa
