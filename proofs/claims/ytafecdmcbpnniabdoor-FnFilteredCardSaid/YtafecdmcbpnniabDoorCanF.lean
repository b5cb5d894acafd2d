/- May a text be filtered? on both sides. -/
import Derived.Test.YtafecdmcbpnniabDoorWaveStr
import Derived.Test.YtafecdmcbpnniabDoorIn64
import Derived.Test.YtafecdmcbpnniabDoorLvMath
namespace Go.Proofs.YtafecdmcbpnniabDoor
open Go.RowKit
set_option linter.unusedVariables false

def canB (s : ByteArray) (T : Int) : Bool := waveB s.data.toList && decide (1 ≤ T ∧ T ≤ 50)
theorem canF_any (s : ByteArray) (T : Int) (w : World) (hs : s.size ≤ maxLen) :
    Calls Tryd.prog 20 #[.string s, .int .i64 T] w fun e w' => e = .returned (.bool (canB s T)) ∧ Below w.heap.size w w' := by
  have HI := Lib.hid (fun w => implIsWave s w hs)
  unfold canB
  cases hw : waveB s.data.toList with
  | false =>
    rw [hw] at HI
    clear hw
    go_enter Tryd.func20, Tryd.ntmps20
    go_wp2_with fail
    refine (HI.out _).mono ?_; rintro e w1 ⟨rfl, b1⟩
    go_wp2
    go_ret
    exact ⟨by simp, b1⟩
  | true =>
    rw [hw] at HI
    clear hw
    by_cases h : 1 ≤ T ∧ T ≤ 50
    · go_enter Tryd.func20, Tryd.ntmps20
      go_wp2_with fail
      refine (HI.out _).mono ?_; rintro e w1 ⟨rfl, b1⟩
      go_wp2_with fail
      refine (within_i64_t _ _ _ _ h.1 h.2).mono ?_; rintro e w' ⟨rfl, rfl⟩
      go_wp2
      go_ret
      exact ⟨by simp [h], b1⟩
    · go_enter Tryd.func20, Tryd.ntmps20
      go_wp2_with fail
      refine (HI.out _).mono ?_; rintro e w1 ⟨rfl, b1⟩
      go_wp2_with fail
      refine (within_i64_f _ _ _ _ (by omega)).mono ?_; rintro e w' ⟨rfl, rfl⟩
      go_wp2
      go_ret
      exact ⟨by simp; omega, b1⟩
theorem canB_t {s : ByteArray} {T : Int} (h : canB s T = true) : waveB s.data.toList = true ∧ 1 ≤ T ∧ T ≤ 50 := by
  unfold canB at h
  simp only [Bool.and_eq_true, decide_eq_true_eq] at h
  exact ⟨h.1, h.2.1, h.2.2⟩
end Go.Proofs.YtafecdmcbpnniabDoor
