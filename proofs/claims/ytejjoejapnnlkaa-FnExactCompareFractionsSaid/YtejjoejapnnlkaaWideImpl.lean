/- Numbers of two words and a sign, on the side of the program: the product of two numbers, the sum of two wide numbers, the sign. -/
import Derived.Test.YtejjoejapnnlkaaWide
import Derived.Test.YtejjoejapnnlkaaGcd
import Derived.Test.YtejjoejapnnlkaaShelf
import Derived.Shelf.Spec.BitsCarry
namespace Go.Proofs.Ytejjoejapnnlkaa
open Go.RowKit

theorem add64_run (x y c : Nat) (hc : c ≤ 1) (w : World) :
    (callFunc 81 #[.int .u64 x, .int .u64 y, .int .u64 c]).run Try.prog w = .ok (.value (.tuple #[.int .u64 (((x + y + c) % 18446744073709551616 : Nat) : Int), .int .u64 (((x + y + c) / 18446744073709551616 : Nat) : Int)])) w := by
  rw [run_callFunc_extern Try.func81 (by kernel_rfl) (by kernel_rfl) (by kernel_rfl) (e := add64Entry) (by kernel_rfl), run_add64 x y c (by omega) (by omega) (by omega) (by omega)]
  simp only [Result.andThen]
  congr 5 <;> omega
theorem sub64_run (x y b : Nat) (hb : b ≤ 1) (w : World) :
    (callFunc 82 #[.int .u64 x, .int .u64 y, .int .u64 b]).run Try.prog w = .ok (.value (.tuple #[.int .u64 (((x + 18446744073709551616 - y - b) % 18446744073709551616 : Nat) : Int), .int .u64 ((if x < y + b then 1 else 0 : Nat) : Int)])) w := by
  rw [run_callFunc_extern Try.func82 (by kernel_rfl) (by kernel_rfl) (by kernel_rfl) (e := sub64Entry) (by kernel_rfl), run_sub64 x y b hb]
  rfl

theorem product_any (a b : Int) (w : World) (a0 : -9223372036854775807 ≤ a) (a1 : a ≤ 9223372036854775807) (b0 : -9223372036854775807 ≤ b) (b1 : b ≤ 9223372036854775807) :
    Calls Try.prog 57 #[.int .i64 a, .int .i64 b] w fun e w' => e = .returned (.agg #[.bool (decide (a < 0) != decide (b < 0)), .int .u64 (hiW (a.natAbs * b.natAbs)), .int .u64 (loW (a.natAbs * b.natAbs))]) ∧ Below w.heap.size w w' := by
  go_enter Try.func57, Try.ntmps57
  go_wp2_with fail
  refine (sizeOf_any a _ a0 a1).mono ?_; rintro e w' ⟨rfl, rfl⟩
  go_wp2_with fail
  refine (sizeOf_any b _ b0 b1).mono ?_; rintro e w' ⟨rfl, rfl⟩
  go_wp2_with fail
  refine (Try.bits_Mul64 a.natAbs b.natAbs (by omega) (by omega) _).mono ?_; rintro e w' ⟨rfl, rfl⟩
  rw [← hiW, ← loW]
  go_wp2
  refine bodyPost_ret (v := .agg #[.bool (decide (a < 0) != decide (b < 0)), .int .u64 (hiW (a.natAbs * b.natAbs)), .int .u64 (loW (a.natAbs * b.natAbs))]) (by simp [results, Try.results57, go_sem]; cases decide (a < 0) <;> cases decide (b < 0) <;> rfl) rfl ⟨rfl, ?_⟩
  exact (Below.refl _ _).alloc (Nat.le_refl _) _

/-- the sign in words -/
def sgv (n : Bool) (A : Nat) : Int := if A = 0 then 0 else if n then -1 else 1

theorem sign_z (n : Bool) (w : World) :
    Calls Try.prog 61 #[.agg #[.bool n, .int .u64 0, .int .u64 0]] w fun e w' => e = .returned (.int .i64 0) ∧ Below w.heap.size w w' := by
  go_enter Try.func61, Try.ntmps61
  go_wp2
  go_ret
  exact ⟨rfl, (Below.refl _ _).alloc (Nat.le_refl _) _⟩
theorem sign_h (n : Bool) (h l : Nat) (w : World) (hh : ((h : Int) == 0) = false) :
    Calls Try.prog 61 #[.agg #[.bool n, .int .u64 h, .int .u64 l]] w fun e w' => e = .returned (.int .i64 (if n then -1 else 1)) ∧ Below w.heap.size w w' := by
  cases n <;>
  · go_enter Try.func61, Try.ntmps61
    go_wp2
    go_ret
    exact ⟨rfl, (Below.refl _ _).alloc (Nat.le_refl _) _⟩
theorem sign_l (n : Bool) (l : Nat) (w : World) (hh : ((l : Int) == 0) = false) :
    Calls Try.prog 61 #[.agg #[.bool n, .int .u64 0, .int .u64 l]] w fun e w' => e = .returned (.int .i64 (if n then -1 else 1)) ∧ Below w.heap.size w w' := by
  cases n <;>
  · go_enter Try.func61, Try.ntmps61
    go_wp2
    go_ret
    exact ⟨rfl, (Below.refl _ _).alloc (Nat.le_refl _) _⟩
theorem sign_any (n : Bool) (A : Nat) (w : World) (hA : A < 340282366920938463463374607431768211456) :
    Calls Try.prog 61 #[.agg #[.bool n, .int .u64 (hiW A), .int .u64 (loW A)]] w fun e w' => e = .returned (.int .i64 (sgv n A)) ∧ Below w.heap.size w w' := by
  by_cases h0 : A = 0
  · subst h0; exact sign_z n w
  by_cases hh : hiW A = 0
  · rw [hh]
    have : sgv n A = if n then -1 else 1 := by simp [sgv, h0]
    rw [this]
    exact sign_l n _ w (by unfold hiW at hh; unfold loW; simp; omega)
  · have : sgv n A = if n then -1 else 1 := by simp [sgv, h0]
    rw [this]
    exact sign_h n _ _ w (by simp; omega)

theorem isSmaller_raw (n m : Bool) (a b c d : Nat) (w : World) :
    Calls Try.prog 80 #[.agg #[.bool n, .int .u64 a, .int .u64 b], .agg #[.bool m, .int .u64 c, .int .u64 d]] w fun e w' => e = .returned (.bool (decide (a < c ∨ (a = c ∧ b < d)))) ∧ Below w.heap.size w w' := by
  by_cases h : a < c
  · have h1 : decide ((a : Int) < c) = true := by simp; omega
    go_enter Try.func80, Try.ntmps80
    go_wp2
    go_ret
    exact ⟨by simp [h], ((Below.refl _ _).alloc (Nat.le_refl _) _).alloc (by simp) _⟩
  · have h1 : decide ((a : Int) < c) = false := by simp; omega
    by_cases h' : a = c
    · have h2 : ((a : Int) == c) = true := by simp; omega
      go_enter Try.func80, Try.ntmps80
      go_wp2
      go_ret
      exact ⟨by simp [h'], ((Below.refl _ _).alloc (Nat.le_refl _) _).alloc (by simp) _⟩
    · have h2 : ((a : Int) == c) = false := by simp; omega
      go_enter Try.func80, Try.ntmps80
      go_wp2
      go_ret
      exact ⟨by simp [h, h'], ((Below.refl _ _).alloc (Nat.le_refl _) _).alloc (by simp) _⟩
end Go.Proofs.Ytejjoejapnnlkaa
