/- May a text be filtered? on both sides. -/
import Derived.Test.YtkipgeecibimoaaWaveStr
import Derived.Test.YtkipgeecibimoaaIn64
import Derived.Test.YtkipgeecibimoaaLvMath
namespace Go.Proofs.Ytkipgeecibimoaa
open Go.RowKit
set_option linter.unusedVariables false

def canB (s : ByteArray) (T : Int) : Bool := waveB s.data.toList && decide (1 ≤ T ∧ T ≤ 50)
theorem canF_any (s : ByteArray) (T : Int) (w : World) (hs : s.size ≤ maxLen) :
    Calls Try.prog 64 #[.string s, .int .i64 T] w fun e w' => e = .returned (.bool (canB s T)) ∧ Below w.heap.size w w' := by
  have HI := Lib.hid (fun w => implIsWave s w hs)
  unfold canB
  cases hw : waveB s.data.toList with
  | false =>
    rw [hw] at HI
    clear hw
    go_enter Try.func64, Try.ntmps64
    go_wp2_with fail
    refine (HI.out _).mono ?_; rintro e w1 ⟨rfl, b1⟩
    go_wp2
    go_ret
    exact ⟨by simp, b1⟩
  | true =>
    rw [hw] at HI
    clear hw
    by_cases h : 1 ≤ T ∧ T ≤ 50
    · go_enter Try.func64, Try.ntmps64
      go_wp2_with fail
      refine (HI.out _).mono ?_; rintro e w1 ⟨rfl, b1⟩
      go_wp2_with fail
      refine (within_i64_t _ _ _ _ h.1 h.2).mono ?_; rintro e w' ⟨rfl, rfl⟩
      go_wp2
      go_ret
      exact ⟨by simp [h], b1⟩
    · go_enter Try.func64, Try.ntmps64
      go_wp2_with fail
      refine (HI.out _).mono ?_; rintro e w1 ⟨rfl, b1⟩
      go_wp2_with fail
      refine (within_i64_f _ _ _ _ (by omega)).mono ?_; rintro e w' ⟨rfl, rfl⟩
      go_wp2
      go_ret
      exact ⟨by simp; omega, b1⟩
theorem l09F_any (s : ByteArray) (T : Int) (w : World) (hs : s.size ≤ maxLen) :
    Calls Try.prog 62 #[.string s, .int .i64 T] w fun e w' => e = .returned (.bool (canB s T)) ∧ w = w' := by
  have HI := Lib.hid (fun w => l01Wave_any s w hs)
  unfold canB
  cases hw : waveB s.data.toList with
  | false =>
    rw [hw] at HI
    clear hw
    go_enter Try.func62, Try.ntmps62
    go_wp2_with fail
    refine (HI.out _).mono ?_; rintro e w1 ⟨rfl, rfl⟩
    go_wp2
    go_ret
    exact ⟨by simp, rfl⟩
  | true =>
    rw [hw] at HI
    clear hw
    by_cases h : 1 ≤ T ∧ T ≤ 50
    · go_enter Try.func62, Try.ntmps62
      go_wp2_with fail
      refine (HI.out _).mono ?_; rintro e w1 ⟨rfl, rfl⟩
      go_wp2_with fail
      refine (l00In_t _ _ _ _ h.1 h.2).mono ?_; rintro e w' ⟨rfl, rfl⟩
      go_wp2
      go_ret
      exact ⟨by simp [h], rfl⟩
    · go_enter Try.func62, Try.ntmps62
      go_wp2_with fail
      refine (HI.out _).mono ?_; rintro e w1 ⟨rfl, rfl⟩
      go_wp2_with fail
      refine (l00In_f _ _ _ _ (by omega)).mono ?_; rintro e w' ⟨rfl, rfl⟩
      go_wp2
      go_ret
      exact ⟨by simp; omega, rfl⟩
theorem canB_t {s : ByteArray} {T : Int} (h : canB s T = true) : waveB s.data.toList = true ∧ 1 ≤ T ∧ T ≤ 50 := by
  unfold canB at h
  simp only [Bool.and_eq_true, decide_eq_true_eq] at h
  exact ⟨h.1, h.2.1, h.2.2⟩
end Go.Proofs.Ytkipgeecibimoaa
