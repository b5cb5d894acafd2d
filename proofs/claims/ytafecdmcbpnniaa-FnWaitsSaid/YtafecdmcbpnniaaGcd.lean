/- Contracts: the greatest common divisor, on both sides; a number's size; the greater of two numbers. -/
import Derived.Test.YtafecdmcbpnniaaIn64
import Derived.BigQuiet
import Derived.Deep.QuietTactic
namespace Go.Proofs.Ytafecdmcbpnniaa
open Go.RowKit

theorem gcd_step (a b : Int) (ha : 0 ≤ a) (hb : 0 < b) : Int.gcd b (a % b) = Int.gcd a b := by
  obtain ⟨x, rfl⟩ := Int.eq_ofNat_of_zero_le ha
  obtain ⟨y, rfl⟩ := Int.eq_ofNat_of_zero_le (Int.le_of_lt hb)
  show Nat.gcd y (x % y) = Nat.gcd x y
  rw [Nat.gcd_comm x y, Nat.gcd_rec y x, Nat.gcd_comm]
theorem gcd_end (a : Int) (ha : 0 ≤ a) : ((Int.gcd a 0 : Nat) : Int) = a := by
  rw [Int.gcd_zero_right]; omega

theorem specGcd (a0 b0 : Int) (w : World) (ha : 0 ≤ a0) (hb : 0 ≤ b0) (ha2 : a0 ≤ 9223372036854775807) (hb2 : b0 ≤ 9223372036854775807) :
    Calls Try.prog 58 #[.int .i64 a0, .int .i64 b0] w fun e w' => e = .returned (.int .i64 (Int.gcd a0 b0)) ∧ w = w' := by
  go_enter Try.func58, Try.ntmps58
  go_wp2
  go_loop [0, 1, 5] (fun a b _ => ∃ x y : Int, a = .int .i64 x ∧ b = .int .i64 y ∧ 0 ≤ x ∧ 0 ≤ y ∧ x ≤ 9223372036854775807 ∧ y ≤ 9223372036854775807 ∧ Int.gcd x y = Int.gcd a0 b0) (fun _ b _ => (intOf b).toNat)
  case atStart => exact ⟨a0, b0, rfl, rfl, ha, hb, ha2, hb2, rfl⟩
  case round =>
    obtain ⟨x, y, rfl, rfl, hx, hy, hx2, hy2, hg⟩ := hrel
    have HG := Lib.hid hg
    clear hg
    by_cases hlt : 0 < y
    · have hm0 : 0 ≤ x % y := Int.emod_nonneg _ (by omega)
      have hm1 : x % y < y := Int.emod_lt_of_pos _ hlt
      have HS := Lib.hid (gcd_step x y hx hlt)
      go_wp2
      go_round
      case rel => exact ⟨y, x % y, rfl, rfl, by omega, by omega, by omega, by omega, by rw [HS.out, HG.out]⟩
      case measure => simp [intOf]; omega
    · obtain rfl : y = 0 := by omega
      have HE := Lib.hid (gcd_end x hx)
      go_wp2
      go_ret
      exact ⟨ret_int (by rw [← HG.out, HE.out]), rfl⟩

theorem implGcd (a0 b0 : Int) (w : World) (ha : 0 ≤ a0) (hb : 0 ≤ b0) (ha2 : a0 ≤ 9223372036854775807) (hb2 : b0 ≤ 9223372036854775807) :
    Calls Try.prog 62 #[.int .i64 a0, .int .i64 b0] w fun e w' => e = .returned (.int .i64 (Int.gcd a0 b0)) ∧ ∃ q, w' = w.drewN q := by
  go_enter Try.func62, Try.ntmps62
  go_wp2
  go_loopw [0, 1] (fun a b wr => ∃ x y : Int, a = .int .i64 x ∧ b = .int .i64 y ∧ 0 ≤ x ∧ 0 ≤ y ∧ x ≤ 9223372036854775807 ∧ y ≤ 9223372036854775807 ∧ Int.gcd x y = Int.gcd a0 b0 ∧ ∃ q, wr = w.drewN q) (fun _ b _ => (intOf b).toNat)
  case atStart => exact ⟨a0, b0, rfl, rfl, ha, hb, ha2, hb2, rfl, 0, rfl⟩
  case round =>
    obtain ⟨x, y, rfl, rfl, hx, hy, hx2, hy2, hg, q, rfl⟩ := hrel
    have HG := Lib.hid hg
    clear hg
    by_cases hlt : 0 < y
    · have hm0 : 0 ≤ x % y := Int.emod_nonneg _ (by omega)
      have hm1 : x % y < y := Int.emod_lt_of_pos _ hlt
      have HS := Lib.hid (gcd_step x y hx hlt)
      have hne : (y != 0) = true := by simp; omega
      go_wp2
      go_quiet (fail)
      go_wp2
      go_roundw
      case rel => exact ⟨y, x % y, rfl, rfl, by omega, by omega, by omega, by omega, by rw [HS.out, HG.out], _, World.drewN_drewN _ _ _⟩
      case measure => simp [intOf]; omega
    · obtain rfl : y = 0 := by omega
      have HE := Lib.hid (gcd_end x hx)
      go_wp2
      go_ret
      exact ⟨ret_int (by rw [← HG.out, HE.out]), q, rfl⟩

/-- the greater of a number and its opposite -/
theorem l00Max_size (a b : Int) (w : World) (hab : b = -a) :
    Calls Try.prog 63 #[.int .i64 a, .int .i64 b] w fun e w' => e = .returned (.int .i64 (a.natAbs : Int)) ∧ w = w' := by
  have HH := Lib.hid hab
  by_cases h : a > b
  all_goals
    clear hab
    go_enter Try.func63, Try.ntmps63
    go_wp2
    go_ret
    exact ⟨ret_int (by have := HH.out; omega), rfl⟩
end Go.Proofs.Ytafecdmcbpnniaa
