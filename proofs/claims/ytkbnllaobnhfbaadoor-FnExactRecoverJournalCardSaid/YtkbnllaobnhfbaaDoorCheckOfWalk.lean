/- The walk of a law: the check number of a text is the same on both sides. -/
import Derived.Test.YtkbnllaobnhfbaaDoorIn64
namespace Go.Proofs.YtkbnllaobnhfbaaDoor
open Go.RowKit

def checkL (n : Int) (l : List UInt8) : Int := l.foldl (fun c b => (c * 307 + (b.toNat : Int) + 13) % 64901) n
theorem checkL_snoc (n : Int) (s : ByteArray) (k : Nat) (h : k < s.size) : checkL n (s.data.toList.take (k + 1)) = (checkL n (s.data.toList.take k) * 307 + (s[k].toNat : Int) + 13) % 64901 := by
  rw [take_snoc s k h]; simp [checkL, List.foldl_append]
theorem checkL_bd (n : Int) (l : List UInt8) (h0 : 0 ≤ n) (h1 : n ≤ 64900) : 0 ≤ checkL n l ∧ checkL n l ≤ 64900 := by
  unfold checkL
  induction l generalizing n with
  | nil => exact ⟨h0, h1⟩
  | cons b r ih => exact ih _ (Int.emod_nonneg _ (by omega)) (by have := Int.emod_lt_of_pos (n * 307 + (b.toNat : Int) + 13) (show (0 : Int) < 64901 by omega); simp only; omega)

theorem specCheck (n : Int) (s : ByteArray) (w : World) (hs : s.size ≤ maxLen) (h0 : 0 ≤ n) (h1 : n ≤ 64900) :
    Calls Tryd.prog 42 #[.int .i64 n, .string s] w fun e w' => e = .returned (.int .i64 (checkL n s.data.toList)) ∧ w = w' := by
  unfold maxLen at hs
  go_enter Tryd.func42, Tryd.ntmps42
  go_wp2
  go_loop [0, 5] (fun c i => ∃ k : Nat, k ≤ s.size ∧ i = .int .i64 k ∧ c = .int .i64 (checkL n (s.data.toList.take k))) (fun _ i => s.size - (intOf i).toNat)
  case atStart => exact ⟨0, Nat.zero_le _, rfl, rfl⟩
  case round =>
    obtain ⟨k, hk, rfl, rfl⟩ := hrel
    obtain ⟨hb0, hb1⟩ := checkL_bd n (s.data.toList.take k) h0 h1
    by_cases hlt : k < s.size
    · have hby : (s[k].toNat : Int) ≤ 255 := by have := s[k].toNat_lt; omega
      have HS := Lib.hid (checkL_snoc n s k hlt)
      go_wp2
      go_round
      case rel => exact ⟨k + 1, by omega, by go_num, by rw [HS.out, Int.mul_comm 307]⟩
      case measure => simp [intOf]; omega
    · go_wp2
      go_ret
      exact ⟨ret_int (by rw [take_all s k (by omega)]), rfl⟩

theorem implCheckOf_t (n : Int) (s : ByteArray) (w : World) (hs : s.size ≤ maxLen) (h0 : 0 ≤ n) (h1 : n ≤ 64900) :
    Calls Tryd.prog 67 #[.int .i64 n, .string s] w fun e w' => e = .returned (.tuple #[.int .i64 (checkL n s.data.toList), .bool true]) ∧ w = w' := by
  unfold maxLen at hs
  go_enter Tryd.func67, Tryd.ntmps67
  go_wp2_with fail
  refine (within_i64_t _ _ _ _ h0 h1).mono ?_; rintro e w' ⟨rfl, rfl⟩
  go_wp2
  go_loop [6, 7, 14] (fun c _ i => ∃ k : Nat, k ≤ s.size ∧ i = .int .i64 k ∧ c = .int .i64 (checkL n (s.data.toList.take k))) (fun _ _ i => s.size - (intOf i).toNat)
  case atStart => exact ⟨0, Nat.zero_le _, rfl, rfl⟩
  case round =>
    obtain ⟨k, hk, rfl, rfl⟩ := hrel
    obtain ⟨hb0, hb1⟩ := checkL_bd n (s.data.toList.take k) h0 h1
    by_cases hlt : k < s.size
    · have hby : (s[k].toNat : Int) ≤ 255 := by have := s[k].toNat_lt; omega
      have HS := Lib.hid (checkL_snoc n s k hlt)
      go_wp2
      go_round
      case rel => exact ⟨k + 1, by omega, by go_num, by rw [HS.out]⟩
      case measure => simp [intOf]; omega
    · go_wp2
      go_ret2
      exact ⟨by rw [take_all s k (by omega)]; rfl, rfl⟩
theorem implCheckOf_f (n : Int) (s : ByteArray) (w : World) (h : n < 0 ∨ 64900 < n) :
    Calls Tryd.prog 67 #[.int .i64 n, .string s] w fun e w' => e = .returned (.tuple #[.int .i64 0, .bool false]) ∧ w = w' := by
  go_enter Tryd.func67, Tryd.ntmps67
  go_wp2_with fail
  refine (within_i64_f _ _ _ _ h).mono ?_; rintro e w' ⟨rfl, rfl⟩
  go_wp2
  go_ret2
  exact ⟨rfl, rfl⟩

end Go.Proofs.YtkbnllaobnhfbaaDoor
