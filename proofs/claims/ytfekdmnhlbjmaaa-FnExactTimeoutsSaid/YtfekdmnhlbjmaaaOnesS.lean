/- The number of ones of a wave, on the side of the model. -/
import Derived.Test.YtfekdmnhlbjmaaaWaveStr
import Derived.BigQuiet
import Derived.Deep.QuietTactic
import Derived.IntWalk
import Derived.StillTailTactics
import Derived.WalkSpells
namespace Go.Proofs.Ytfekdmnhlbjmaaa
open Go.RowKit

def onesL (s : ByteArray) (k : Nat) : Nat := (s.data.toList.take k).count 49
theorem ones_hit (s : ByteArray) (k : Nat) (h : k < s.size) (h1 : (s[k].toNat : Int) = 49) : onesL s (k + 1) = onesL s k + 1 := by
  have e : s[k] = 49 := by apply UInt8.toNat_inj.1; show s[k].toNat = 49; omega
  unfold onesL; rw [take_snoc s k h, List.count_append, e]; rfl
theorem ones_miss (s : ByteArray) (k : Nat) (h : k < s.size) (h1 : (s[k].toNat : Int) = 48) : onesL s (k + 1) = onesL s k := by
  have e : s[k] = 48 := by apply UInt8.toNat_inj.1; show s[k].toNat = 48; omega
  unfold onesL; rw [take_snoc s k h, List.count_append, e]; rfl
theorem ones_le (s : ByteArray) (k : Nat) : onesL s k ≤ k := by
  unfold onesL; exact Nat.le_trans (List.count_le_length) (by rw [List.length_take]; omega)
theorem ones_all (s : ByteArray) (k : Nat) (h : s.size ≤ k) : onesL s k = s.data.toList.count 49 := by
  unfold onesL; rw [take_all s k h]
theorem lvl_at (s : ByteArray) (k : Nat) (h : k < s.size) (ha : waveB s.data.toList = true) : (s[k].toNat : Int) = 48 ∨ (s[k].toNat : Int) = 49 := by
  by_cases hb : (s[k].toNat : Int) = 48 ∨ (s[k].toNat : Int) = 49
  · exact hb
  · rw [wave_bad s k h hb] at ha; cases ha
theorem wave_size (s : ByteArray) (ha : waveB s.data.toList = true) : (s.size : Int) ≤ 400 := by
  by_cases h : (s.size : Int) ≤ 400
  · exact h
  · rw [wave_long s h] at ha; cases ha

def onesC (s : ByteArray) : Nat := s.data.toList.count 49
theorem ones_any (s : ByteArray) (w : World) (hs : s.size ≤ 400) (hwv : waveB s.data.toList = true) :
    Calls Try.prog 72 #[.string s] w fun e w' => e = .returned (.int .i64 (onesC s)) ∧ ∃ q, w' = w.drewN q := by
  have HW := Lib.hid hwv
  clear hwv
  go_enter Try.func72, Try.ntmps72
  go_wp2
  go_loopw [3, 4] (fun n i wr => ∃ k c : Nat, k ≤ s.size ∧ i = .int .i64 k ∧ n = .int .i64 c ∧ c ≤ k ∧ c = onesL s k ∧ ∃ q, wr = w.drewN q) (fun _ i _ => s.size - (intOf i).toNat)
  case atStart => exact ⟨0, 0, Nat.zero_le _, rfl, rfl, Nat.le_refl _, rfl, 0, rfl⟩
  case round =>
    obtain ⟨k, c, hk, rfl, rfl, hc, ho, q, rfl⟩ := hrel
    have HO := Lib.hid ho
    clear ho
    by_cases hlt : k < s.size
    · have HL := Lib.hid (lvl_at s k hlt HW.out)
      by_cases h1 : (s[k].toNat : Int) = 49
      · have HH := Lib.hid (ones_hit s k hlt h1)
        have hv : IntKind.u8.wrap ((s[k].toNat : Int) - 48) = 1 := by rw [h1]; decide
        clear h1
        have hw2 : IntKind.i64.wrap ((c : Int) + 1) = ((c + 1 : Nat) : Int) := by rw [IntWalk.i64_in _ (by omega)]; omega
        go_wp2
        go_roundw
        case rel => exact ⟨k + 1, c + 1, by omega, by go_num, by go_num, by omega, by rw [HH.out, HO.out], q, rfl⟩
        case measure => simp [intOf]; omega
      · have HH := Lib.hid (ones_miss s k hlt (by have := HL.out; omega))
        have hv : IntKind.u8.wrap ((s[k].toNat : Int) - 48) = 0 := by
          rw [show (s[k].toNat : Int) = 48 from by have := HL.out; omega]; decide
        clear h1
        have hw2 : IntKind.i64.wrap (c : Int) = (c : Int) := IntWalk.i64_in _ (by omega)
        go_wp2
        go_roundw
        case rel => exact ⟨k + 1, c, by omega, by go_num, by first | rfl | go_num, by omega, by rw [HH.out, HO.out], q, rfl⟩
        case measure => simp [intOf]; omega
    · have HE := Lib.hid (ones_all s k (by omega))
      go_wp2
      go_ret
      exact ⟨ret_int (by rw [HO.out, HE.out, onesC]), q, rfl⟩

theorem cnt_le (s : ByteArray) : onesC s ≤ s.size := by
  have := ones_le s s.size
  rwa [ones_all s s.size (Nat.le_refl _)] at this
end Go.Proofs.Ytfekdmnhlbjmaaa
