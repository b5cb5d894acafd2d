/- May a text be filtered? on both sides. -/
import Derived.Test.YtemjohkieehojaaDoorWaveStr
import Derived.Test.YtemjohkieehojaaDoorIn64
import Derived.Test.YtemjohkieehojaaDoorLvMath
namespace Go.Proofs.YtemjohkieehojaaDoor
open Go.RowKit
set_option linter.unusedVariables false

def canB (s : ByteArray) (T : Int) : Bool := waveB s.data.toList && decide (1 ≤ T ∧ T ≤ 50)
theorem canB_t {s : ByteArray} {T : Int} (h : canB s T = true) : waveB s.data.toList = true ∧ 1 ≤ T ∧ T ≤ 50 := by
  unfold canB at h
  simp only [Bool.and_eq_true, decide_eq_true_eq] at h
  exact ⟨h.1, h.2.1, h.2.2⟩
end Go.Proofs.YtemjohkieehojaaDoor
