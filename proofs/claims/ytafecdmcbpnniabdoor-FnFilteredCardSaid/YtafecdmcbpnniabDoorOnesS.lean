/- The number of ones of a wave, on the side of the model. -/
import Derived.Test.YtafecdmcbpnniabDoorWaveStr
import Derived.BigQuiet
import Derived.Deep.QuietTactic
import Derived.IntWalk
import Derived.StillTailTactics
import Derived.WalkSpells
namespace Go.Proofs.YtafecdmcbpnniabDoor
open Go.RowKit

def onesL (s : ByteArray) (k : Nat) : Nat := (s.data.toList.take k).count 49
theorem ones_hit (s : ByteArray) (k : Nat) (h : k < s.size) (h1 : (s[k].toNat : Int) = 49) : onesL s (k + 1) = onesL s k + 1 := by
  have e : s[k] = 49 := by apply UInt8.toNat_inj.1; show s[k].toNat = 49; omega
  unfold onesL; rw [take_snoc s k h, List.count_append, e]; rfl
theorem ones_miss (s : ByteArray) (k : Nat) (h : k < s.size) (h1 : (s[k].toNat : Int) = 48) : onesL s (k + 1) = onesL s k := by
  have e : s[k] = 48 := by apply UInt8.toNat_inj.1; show s[k].toNat = 48; omega
  unfold onesL; rw [take_snoc s k h, List.count_append, e]; rfl
theorem ones_le (s : ByteArray) (k : Nat) : onesL s k ≤ k := by
  unfold onesL; exact Nat.le_trans (List.count_le_length) (by rw [List.length_take]; omega)
theorem ones_all (s : ByteArray) (k : Nat) (h : s.size ≤ k) : onesL s k = s.data.toList.count 49 := by
  unfold onesL; rw [take_all s k h]
theorem lvl_at (s : ByteArray) (k : Nat) (h : k < s.size) (ha : waveB s.data.toList = true) : (s[k].toNat : Int) = 48 ∨ (s[k].toNat : Int) = 49 := by
  by_cases hb : (s[k].toNat : Int) = 48 ∨ (s[k].toNat : Int) = 49
  · exact hb
  · rw [wave_bad s k h hb] at ha; cases ha
theorem wave_size (s : ByteArray) (ha : waveB s.data.toList = true) : (s.size : Int) ≤ 400 := by
  by_cases h : (s.size : Int) ≤ 400
  · exact h
  · rw [wave_long s h] at ha; cases ha

def onesC (s : ByteArray) : Nat := s.data.toList.count 49
theorem cnt_le (s : ByteArray) : onesC s ≤ s.size := by
  have := ones_le s s.size
  rwa [ones_all s s.size (Nat.le_refl _)] at this
end Go.Proofs.YtafecdmcbpnniabDoor
