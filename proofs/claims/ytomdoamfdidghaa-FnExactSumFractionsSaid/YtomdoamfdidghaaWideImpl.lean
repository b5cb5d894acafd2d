/- Numbers of two words and a sign, on the side of the program: the product of two numbers, the sum of two wide numbers, the sign. -/
import Derived.Test.YtomdoamfdidghaaWide
import Derived.Test.YtomdoamfdidghaaGcd
import Derived.Test.YtomdoamfdidghaaShelf
import Derived.Shelf.Spec.BitsCarry
namespace Go.Proofs.Ytomdoamfdidghaa
open Go.RowKit

theorem add64_run (x y c : Nat) (hc : c ≤ 1) (w : World) :
    (callFunc 57 #[.int .u64 x, .int .u64 y, .int .u64 c]).run Try.prog w = .ok (.value (.tuple #[.int .u64 (((x + y + c) % 18446744073709551616 : Nat) : Int), .int .u64 (((x + y + c) / 18446744073709551616 : Nat) : Int)])) w := by
  rw [run_callFunc_extern Try.func57 (by kernel_rfl) (by kernel_rfl) (by kernel_rfl) (e := add64Entry) (by kernel_rfl), run_add64 x y c (by omega) (by omega) (by omega) (by omega)]
  simp only [Result.andThen]
  congr 5 <;> omega
theorem sub64_run (x y b : Nat) (hb : b ≤ 1) (w : World) :
    (callFunc 58 #[.int .u64 x, .int .u64 y, .int .u64 b]).run Try.prog w = .ok (.value (.tuple #[.int .u64 (((x + 18446744073709551616 - y - b) % 18446744073709551616 : Nat) : Int), .int .u64 ((if x < y + b then 1 else 0 : Nat) : Int)])) w := by
  rw [run_callFunc_extern Try.func58 (by kernel_rfl) (by kernel_rfl) (by kernel_rfl) (e := sub64Entry) (by kernel_rfl), run_sub64 x y b hb]
  rfl

theorem product_any (a b : Int) (w : World) (a0 : -9223372036854775807 ≤ a) (a1 : a ≤ 9223372036854775807) (b0 : -9223372036854775807 ≤ b) (b1 : b ≤ 9223372036854775807) :
    Calls Try.prog 36 #[.int .i64 a, .int .i64 b] w fun e w' => e = .returned (.agg #[.bool (decide (a < 0) != decide (b < 0)), .int .u64 (hiW (a.natAbs * b.natAbs)), .int .u64 (loW (a.natAbs * b.natAbs))]) ∧ Below w.heap.size w w' := by
  go_enter Try.func36, Try.ntmps36
  go_wp2_with fail
  refine (sizeOf_any a _ a0 a1).mono ?_; rintro e w' ⟨rfl, rfl⟩
  go_wp2_with fail
  refine (sizeOf_any b _ b0 b1).mono ?_; rintro e w' ⟨rfl, rfl⟩
  go_wp2_with fail
  refine (Try.bits_Mul64 a.natAbs b.natAbs (by omega) (by omega) _).mono ?_; rintro e w' ⟨rfl, rfl⟩
  rw [← hiW, ← loW]
  go_wp2
  refine bodyPost_ret (v := .agg #[.bool (decide (a < 0) != decide (b < 0)), .int .u64 (hiW (a.natAbs * b.natAbs)), .int .u64 (loW (a.natAbs * b.natAbs))]) (by simp [results, Try.results36, go_sem]; cases decide (a < 0) <;> cases decide (b < 0) <;> rfl) rfl ⟨rfl, ?_⟩
  exact (Below.refl _ _).alloc (Nat.le_refl _) _

/-- the sign in words -/
def sgv (n : Bool) (A : Nat) : Int := if A = 0 then 0 else if n then -1 else 1

theorem isSmaller_raw (n m : Bool) (a b c d : Nat) (w : World) :
    Calls Try.prog 56 #[.agg #[.bool n, .int .u64 a, .int .u64 b], .agg #[.bool m, .int .u64 c, .int .u64 d]] w fun e w' => e = .returned (.bool (decide (a < c ∨ (a = c ∧ b < d)))) ∧ Below w.heap.size w w' := by
  by_cases h : a < c
  · have h1 : decide ((a : Int) < c) = true := by simp; omega
    go_enter Try.func56, Try.ntmps56
    go_wp2
    go_ret
    exact ⟨by simp [h], ((Below.refl _ _).alloc (Nat.le_refl _) _).alloc (by simp) _⟩
  · have h1 : decide ((a : Int) < c) = false := by simp; omega
    by_cases h' : a = c
    · have h2 : ((a : Int) == c) = true := by simp; omega
      go_enter Try.func56, Try.ntmps56
      go_wp2
      go_ret
      exact ⟨by simp [h'], ((Below.refl _ _).alloc (Nat.le_refl _) _).alloc (by simp) _⟩
    · have h2 : ((a : Int) == c) = false := by simp; omega
      go_enter Try.func56, Try.ntmps56
      go_wp2
      go_ret
      exact ⟨by simp [h, h'], ((Below.refl _ _).alloc (Nat.le_refl _) _).alloc (by simp) _⟩
end Go.Proofs.Ytomdoamfdidghaa
