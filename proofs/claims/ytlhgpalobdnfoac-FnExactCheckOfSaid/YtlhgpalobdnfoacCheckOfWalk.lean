/- The walk of a law: the check number of a text is the same on both sides. -/
import Derived.Test.YtlhgpalobdnfoacIn64
namespace Go.Proofs.Ytlhgpalobdnfoac
open Go.RowKit

def checkL (n : Int) (l : List UInt8) : Int := l.foldl (fun c b => (c * 307 + (b.toNat : Int) + 13) % 64901) n
theorem checkL_snoc (n : Int) (s : ByteArray) (k : Nat) (h : k < s.size) : checkL n (s.data.toList.take (k + 1)) = (checkL n (s.data.toList.take k) * 307 + (s[k].toNat : Int) + 13) % 64901 := by
  rw [take_snoc s k h]; simp [checkL, List.foldl_append]
theorem checkL_bd (n : Int) (l : List UInt8) (h0 : 0 ≤ n) (h1 : n ≤ 64900) : 0 ≤ checkL n l ∧ checkL n l ≤ 64900 := by
  unfold checkL
  induction l generalizing n with
  | nil => exact ⟨h0, h1⟩
  | cons b r ih => exact ih _ (Int.emod_nonneg _ (by omega)) (by have := Int.emod_lt_of_pos (n * 307 + (b.toNat : Int) + 13) (show (0 : Int) < 64901 by omega); simp only; omega)

theorem specCheck (n : Int) (s : ByteArray) (w : World) (hs : s.size ≤ maxLen) (h0 : 0 ≤ n) (h1 : n ≤ 64900) :
    Calls Try.prog 43 #[.int .i64 n, .string s] w fun e w' => e = .returned (.int .i64 (checkL n s.data.toList)) ∧ w = w' := by
  unfold maxLen at hs
  go_enter Try.func43, Try.ntmps43
  go_wp2
  go_loop [0, 5] (fun c i => ∃ k : Nat, k ≤ s.size ∧ i = .int .i64 k ∧ c = .int .i64 (checkL n (s.data.toList.take k))) (fun _ i => s.size - (intOf i).toNat)
  case atStart => exact ⟨0, Nat.zero_le _, rfl, rfl⟩
  case round =>
    obtain ⟨k, hk, rfl, rfl⟩ := hrel
    obtain ⟨hb0, hb1⟩ := checkL_bd n (s.data.toList.take k) h0 h1
    by_cases hlt : k < s.size
    · have hby : (s[k].toNat : Int) ≤ 255 := by have := s[k].toNat_lt; omega
      have HS := Lib.hid (checkL_snoc n s k hlt)
      go_wp2
      go_round
      case rel => exact ⟨k + 1, by omega, by go_num, by rw [HS.out, Int.mul_comm 307]⟩
      case measure => simp [intOf]; omega
    · go_wp2
      go_ret
      exact ⟨ret_int (by rw [take_all s k (by omega)]), rfl⟩

theorem specCheckOf_t (n : Int) (s : ByteArray) (w : World) (hs : s.size ≤ maxLen) (h0 : 0 ≤ n) (h1 : n ≤ 64900) :
    Calls Try.prog 24 #[.int .i64 n, .string s] w fun e w' => e = .returned (.tuple #[.int .i64 (checkL n s.data.toList), .bool true]) ∧ w = w' := by
  go_enter Try.func24, Try.ntmps24
  go_wp2_with fail
  refine (l00In_t _ _ _ _ h0 h1).mono ?_; rintro e w' ⟨rfl, rfl⟩
  go_wp2_with fail
  refine (specCheck n s _ hs h0 h1).mono ?_; rintro e w' ⟨rfl, rfl⟩
  go_wp2
  go_ret2
  exact ⟨rfl, rfl⟩
theorem specCheckOf_f (n : Int) (s : ByteArray) (w : World) (h : n < 0 ∨ 64900 < n) :
    Calls Try.prog 24 #[.int .i64 n, .string s] w fun e w' => e = .returned (.tuple #[.int .i64 0, .bool false]) ∧ w = w' := by
  go_enter Try.func24, Try.ntmps24
  go_wp2_with fail
  refine (l00In_f _ _ _ _ h).mono ?_; rintro e w' ⟨rfl, rfl⟩
  go_wp2
  go_ret2
  exact ⟨rfl, rfl⟩

theorem implCheckOf_t (n : Int) (s : ByteArray) (w : World) (hs : s.size ≤ maxLen) (h0 : 0 ≤ n) (h1 : n ≤ 64900) :
    Calls Try.prog 25 #[.int .i64 n, .string s] w fun e w' => e = .returned (.tuple #[.int .i64 (checkL n s.data.toList), .bool true]) ∧ w = w' := by
  unfold maxLen at hs
  go_enter Try.func25, Try.ntmps25
  go_wp2_with fail
  refine (within_i64_t _ _ _ _ h0 h1).mono ?_; rintro e w' ⟨rfl, rfl⟩
  go_wp2
  go_loop [6, 7, 14] (fun c _ i => ∃ k : Nat, k ≤ s.size ∧ i = .int .i64 k ∧ c = .int .i64 (checkL n (s.data.toList.take k))) (fun _ _ i => s.size - (intOf i).toNat)
  case atStart => exact ⟨0, Nat.zero_le _, rfl, rfl⟩
  case round =>
    obtain ⟨k, hk, rfl, rfl⟩ := hrel
    obtain ⟨hb0, hb1⟩ := checkL_bd n (s.data.toList.take k) h0 h1
    by_cases hlt : k < s.size
    · have hby : (s[k].toNat : Int) ≤ 255 := by have := s[k].toNat_lt; omega
      have HS := Lib.hid (checkL_snoc n s k hlt)
      go_wp2
      go_round
      case rel => exact ⟨k + 1, by omega, by go_num, by rw [HS.out]⟩
      case measure => simp [intOf]; omega
    · go_wp2
      go_ret2
      exact ⟨by rw [take_all s k (by omega)]; rfl, rfl⟩
theorem implCheckOf_f (n : Int) (s : ByteArray) (w : World) (h : n < 0 ∨ 64900 < n) :
    Calls Try.prog 25 #[.int .i64 n, .string s] w fun e w' => e = .returned (.tuple #[.int .i64 0, .bool false]) ∧ w = w' := by
  go_enter Try.func25, Try.ntmps25
  go_wp2_with fail
  refine (within_i64_f _ _ _ _ h).mono ?_; rintro e w' ⟨rfl, rfl⟩
  go_wp2
  go_ret2
  exact ⟨rfl, rfl⟩

theorem walk_FnExactCheckOf (n : Int) (s : ByteArray) (w : World) (_wn : (Lit.int .i64 n).wf = true) (hs : s.size ≤ maxLen) :
    Calls Try.prog 8 #[.int .i64 n, .string s] w fun e w' => e = .returned (.bool true) ∧ Below w.heap.size w w' := by
  by_cases hl : (s.size : Int) ≤ 1048576
  · by_cases hn : 0 ≤ n ∧ n ≤ 64900
    · obtain ⟨h0, h1⟩ := hn
      go_enter Try.func8, Try.ntmps8
      go_wp2_with fail
      refine (specCheckOf_t n s _ hs h0 h1).mono ?_; rintro e w' ⟨rfl, rfl⟩
      go_wp2_with fail
      refine (implCheckOf_t n s _ hs h0 h1).mono ?_; rintro e w' ⟨rfl, rfl⟩
      go_wp2
      go_ret
      exact ⟨rfl, Below.refl _ _⟩
    · go_enter Try.func8, Try.ntmps8
      go_wp2_with fail
      refine (specCheckOf_f n s _ (by omega)).mono ?_; rintro e w' ⟨rfl, rfl⟩
      go_wp2_with fail
      refine (implCheckOf_f n s _ (by omega)).mono ?_; rintro e w' ⟨rfl, rfl⟩
      go_wp2
      go_ret
      exact ⟨rfl, Below.refl _ _⟩
  · go_enter Try.func8, Try.ntmps8
    go_wp2
    go_ret
    exact ⟨rfl, Below.refl _ _⟩
end Go.Proofs.Ytlhgpalobdnfoac
