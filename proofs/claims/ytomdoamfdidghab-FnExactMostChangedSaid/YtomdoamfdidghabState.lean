/- Contracts: numbers of bits and states, on both sides. -/
import Derived.Test.YtomdoamfdidghabIn64
namespace Go.Proofs.Ytomdoamfdidghab
open Go.RowKit

/-- how many states have b bits -/
def st (b : Int) : Int := ((2 ^ b.toNat : Nat) : Int)
theorem cases8 (b : Int) (h1 : 1 ≤ b) (h2 : b ≤ 8) : b = 1 ∨ b = 2 ∨ b = 3 ∨ b = 4 ∨ b = 5 ∨ b = 6 ∨ b = 7 ∨ b = 8 := by omega
theorem st_bd (b : Int) (h1 : 1 ≤ b) (h2 : b ≤ 8) : 2 ≤ st b ∧ st b ≤ 256 := by
  rcases cases8 b h1 h2 with rfl | rfl | rfl | rfl | rfl | rfl | rfl | rfl <;> decide
def StateOk (b x : Int) : Prop := 1 ≤ b ∧ b ≤ 8 ∧ 0 ≤ x ∧ x < st b

theorem l02Bits_t (b : Int) (w : World) (h1 : 1 ≤ b) (h2 : b ≤ 8) :
    Calls Try.prog 39 #[.int .i64 b] w fun e w' => e = .returned (.bool true) ∧ w = w' := by
  go_enter Try.func39, Try.ntmps39
  go_wp2_with fail
  refine (l00In_t _ _ _ _ h1 h2).mono ?_; rintro e w' ⟨rfl, rfl⟩
  go_wp2
  go_ret
  exact ⟨rfl, rfl⟩
theorem l02Bits_f (b : Int) (w : World) (h : b < 1 ∨ 8 < b) :
    Calls Try.prog 39 #[.int .i64 b] w fun e w' => e = .returned (.bool false) ∧ w = w' := by
  go_enter Try.func39, Try.ntmps39
  go_wp2_with fail
  refine (l00In_f _ _ _ _ h).mono ?_; rintro e w' ⟨rfl, rfl⟩
  go_wp2
  go_ret
  exact ⟨rfl, rfl⟩
theorem l02Size_any (b : Int) (w : World) (h1 : 1 ≤ b) (h2 : b ≤ 8) :
    Calls Try.prog 40 #[.int .i64 b] w fun e w' => e = .returned (.int .i64 (st b)) ∧ w = w' := by
  rcases cases8 b h1 h2 with rfl | rfl | rfl | rfl | rfl | rfl | rfl | rfl
  all_goals
    go_enter Try.func40, Try.ntmps40
    go_wp2
    go_ret
    exact ⟨rfl, rfl⟩
theorem l02State_t (b x : Int) (w : World) (h : StateOk b x) :
    Calls Try.prog 31 #[.int .i64 b, .int .i64 x] w fun e w' => e = .returned (.bool true) ∧ w = w' := by
  obtain ⟨h1, h2, h3, h4⟩ := h
  have hb := st_bd b h1 h2
  go_enter Try.func31, Try.ntmps31
  go_wp2_with fail
  refine (l02Bits_t _ _ h1 h2).mono ?_; rintro e w' ⟨rfl, rfl⟩
  go_wp2_with fail
  refine (l02Size_any _ _ h1 h2).mono ?_; rintro e w' ⟨rfl, rfl⟩
  go_wp2_with fail
  refine (l00In_t _ _ _ _ h3 (by omega)).mono ?_; rintro e w' ⟨rfl, rfl⟩
  go_wp2
  go_ret
  exact ⟨rfl, rfl⟩
theorem l02State_f (b x : Int) (w : World) (h : ¬ StateOk b x) :
    Calls Try.prog 31 #[.int .i64 b, .int .i64 x] w fun e w' => e = .returned (.bool false) ∧ w = w' := by
  have H := Lib.hid h
  clear h
  by_cases h12 : b < 1 ∨ 8 < b
  · go_enter Try.func31, Try.ntmps31
    go_wp2_with fail
    refine (l02Bits_f _ _ h12).mono ?_; rintro e w' ⟨rfl, rfl⟩
    go_wp2
    go_ret
    exact ⟨rfl, rfl⟩
  · have h1 : 1 ≤ b := by omega
    have h2 : b ≤ 8 := by omega
    have hb := st_bd b h1 h2
    have h3 : x < 0 ∨ st b - 1 < x := by have := H.out; unfold StateOk at this; omega
    clear h12
    go_enter Try.func31, Try.ntmps31
    go_wp2_with fail
    refine (l02Bits_t _ _ h1 h2).mono ?_; rintro e w' ⟨rfl, rfl⟩
    go_wp2_with fail
    refine (l02Size_any _ _ h1 h2).mono ?_; rintro e w' ⟨rfl, rfl⟩
    go_wp2_with fail
    refine (l00In_f _ _ _ _ h3).mono ?_; rintro e w' ⟨rfl, rfl⟩
    go_wp2
    go_ret
    exact ⟨rfl, rfl⟩

theorem isValid_t (b : Int) (w : World) (h1 : 1 ≤ b) (h2 : b ≤ 8) :
    Calls Try.prog 41 #[.int .i64 b] w fun e w' => e = .returned (.bool true) ∧ w = w' := by
  go_enter Try.func41, Try.ntmps41
  go_wp2
  go_ret
  exact ⟨by simp, rfl⟩
theorem isValid_f (b : Int) (w : World) (h : b < 1 ∨ 8 < b) :
    Calls Try.prog 41 #[.int .i64 b] w fun e w' => e = .returned (.bool false) ∧ w = w' := by
  by_cases h1 : 1 ≤ b
  all_goals
    go_enter Try.func41, Try.ntmps41
    go_wp2
    go_ret
    exact ⟨by simp; try omega, rfl⟩
theorem states_any (b : Int) (w : World) (h1 : 1 ≤ b) (h2 : b ≤ 8) :
    Calls Try.prog 42 #[.int .i64 b] w fun e w' => e = .returned (.int .i64 (st b)) ∧ w = w' := by
  rcases cases8 b h1 h2 with rfl | rfl | rfl | rfl | rfl | rfl | rfl | rfl
  all_goals
    go_enter Try.func42, Try.ntmps42
    go_wp2
    go_ret
    exact ⟨rfl, rfl⟩
theorem has_t (b x : Int) (w : World) (h : StateOk b x) :
    Calls Try.prog 34 #[.int .i64 b, .int .i64 x] w fun e w' => e = .returned (.bool true) ∧ w = w' := by
  obtain ⟨h1, h2, h3, h4⟩ := h
  have hb := st_bd b h1 h2
  go_enter Try.func34, Try.ntmps34
  go_wp2_with fail
  refine (isValid_t _ _ h1 h2).mono ?_; rintro e w' ⟨rfl, rfl⟩
  go_wp2_with fail
  refine (states_any _ _ h1 h2).mono ?_; rintro e w' ⟨rfl, rfl⟩
  go_wp2_with fail
  refine (within_i64_t _ _ _ _ h3 (by omega)).mono ?_; rintro e w' ⟨rfl, rfl⟩
  go_wp2
  go_ret
  exact ⟨rfl, rfl⟩
theorem has_f (b x : Int) (w : World) (h : ¬ StateOk b x) :
    Calls Try.prog 34 #[.int .i64 b, .int .i64 x] w fun e w' => e = .returned (.bool false) ∧ w = w' := by
  have H := Lib.hid h
  clear h
  by_cases h12 : b < 1 ∨ 8 < b
  · go_enter Try.func34, Try.ntmps34
    go_wp2_with fail
    refine (isValid_f _ _ h12).mono ?_; rintro e w' ⟨rfl, rfl⟩
    go_wp2
    go_ret
    exact ⟨rfl, rfl⟩
  · have h1 : 1 ≤ b := by omega
    have h2 : b ≤ 8 := by omega
    have hb := st_bd b h1 h2
    have h3 : x < 0 ∨ st b - 1 < x := by have := H.out; unfold StateOk at this; omega
    clear h12
    go_enter Try.func34, Try.ntmps34
    go_wp2_with fail
    refine (isValid_t _ _ h1 h2).mono ?_; rintro e w' ⟨rfl, rfl⟩
    go_wp2_with fail
    refine (states_any _ _ h1 h2).mono ?_; rintro e w' ⟨rfl, rfl⟩
    go_wp2_with fail
    refine (within_i64_f _ _ _ _ h3).mono ?_; rintro e w' ⟨rfl, rfl⟩
    go_wp2
    go_ret
    exact ⟨rfl, rfl⟩
end Go.Proofs.Ytomdoamfdidghab
