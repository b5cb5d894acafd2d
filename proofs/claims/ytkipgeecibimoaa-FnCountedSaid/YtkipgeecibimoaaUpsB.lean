/- How often a wave goes up before a tick, counted by the law. -/
import Derived.Test.YtkipgeecibimoaaWinM
import Derived.Test.YtkipgeecibimoaaLvMath
import Derived.Test.YtkipgeecibimoaaWaveStr
import Derived.Test.YtkipgeecibimoaaRows
import Derived.LoopTactic
import Derived.WalkKit
namespace Go.Proofs.Ytkipgeecibimoaa
open Go.RowKit
set_option linter.unusedVariables false
set_option linter.unusedSimpArgs false

theorem cntN_step (m : Nat → Bool) (k : Nat) : cntN m 0 (k + 1) = cntN m 0 k + (if m k then 1 else 0) := by
  rw [cntN, Nat.zero_add]
set_option maxHeartbeats 1000000 in
set_option maxRecDepth 100000 in
theorem upsB_any (s : ByteArray) (p : Nat) (w : World) (hwv : waveB s.data.toList = true) (hp : p ≤ s.size) :
    Calls Try.prog 21 #[.string s, .int .i64 (p : Int)] w fun e w' => e = .returned (.int .i64 ((cntN (upB s) 0 p : Nat) : Int)) ∧ w = w' := by
  have hz := wave_le hwv
  have HW := Lib.hid hwv
  clear hwv
  go_enter Try.func21, Try.ntmps21
  go_wp2
  go_loop [5, 6] (fun nv iv => ∃ k c : Nat, k ≤ p ∧ iv = .int .i64 (k : Int) ∧ nv = .int .i64 (c : Int) ∧ Hid (c = cntN (upB s) 0 k)) (fun _ iv => p - (intOf iv).toNat)
  case atStart => exact ⟨0, 0, Nat.zero_le _, rfl, rfl, rfl⟩
  case round =>
    obtain ⟨k, c, hk, rfl, rfl, HC⟩ := hrel
    have hck : c ≤ k := by rw [HC.out]; exact cntN_le _ _ _
    by_cases hlt : k < p
    · have hks : k < s.size := by omega
      have hltI : (k : Int) < (p : Int) := by omega
      have e0 := bit_at s k hks
      have HS := Lib.hid (cntN_step (upB s) k)
      have hU : upB s k = (bit s k && !(decide (0 < k) && bit s (k - 1))) := rfl
      obtain ⟨x, hx⟩ : ∃ x, bit s k = x := ⟨_, rfl⟩
      rw [hx] at e0 hU
      by_cases hk0 : k = 0
      · have t1 : ((k : Int) == 0) = true := by simp; omega
        have t2 : (k == 0) = true := by simp; omega
        have T3 : Hid ((k : Int) = 0) := by show _ = _; omega
        have HU2 : Hid (upB s k = x) := by show _ = _; rw [hU, hk0]; simp
        clear hk0 hx hU
        cases x
        · go_wp2
          go_round
          case rel => exact ⟨k + 1, c, by omega, by go_num, by go_num, by show _ = _; rw [HS.out, HU2.out, HC.out]; simp⟩
          case measure => simp [intOf]; omega
        · go_wp2
          go_round
          case rel => exact ⟨k + 1, c + 1, by omega, by go_num, by go_num, by show _ = _; rw [HS.out, HU2.out, HC.out]; simp⟩
          case measure => simp [intOf]; omega
      · obtain ⟨j, hj⟩ : ∃ j, k = j + 1 := ⟨k - 1, by omega⟩
        have t1 : ((k : Int) == 0) = false := by simp; omega
        have t2 : (k == 0) = false := by simp; omega
        have t3 : ¬ (k : Int) = 0 := by omega
        have hjl : j < s.size := by omega
        have e2 : ((s[j].toNat : Int) == 48) = !bit s j := by rw [wave_at HW.out j hjl]; cases bit s j <;> rfl
        have wj : IntKind.i64.wrap ((k : Int) - 1) = (j : Int) := by rw [show (k : Int) - 1 = (j : Int) by omega]; exact IntWalk.i64_in _ (by omega)
        obtain ⟨z, hz2⟩ : ∃ z, bit s j = z := ⟨_, rfl⟩
        have HU2 : Hid (upB s k = (x && !z)) := by show _ = _; rw [hU, hj, ← hz2]; simp
        rw [hz2] at e2
        clear hk0 hx hj hz2 hU
        cases x <;> cases z
        case true.false =>
          go_wp2
          go_round
          case rel => exact ⟨k + 1, c + 1, by omega, by go_num, by go_num, by show _ = _; rw [HS.out, HU2.out, HC.out]; simp⟩
          case measure => simp [intOf]; omega
        all_goals
          go_wp2
          go_round
          case rel => exact ⟨k + 1, c, by omega, by go_num, by go_num, by show _ = _; rw [HS.out, HU2.out, HC.out]; simp⟩
          case measure => simp [intOf]; omega
    · obtain rfl : k = p := by omega
      have HCC := HC.out
      go_wp2
      go_ret
      exact ⟨rfl, rfl⟩
end Go.Proofs.Ytkipgeecibimoaa
