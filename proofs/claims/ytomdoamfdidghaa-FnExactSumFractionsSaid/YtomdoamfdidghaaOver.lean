/- Contracts: a number of two words and a sign, divided by a number. -/
import Derived.Test.YtomdoamfdidghaaWideImpl
import Derived.Test.YtomdoamfdidghaaDivAny
import Derived.Test.YtomdoamfdidghaaTimes
namespace Go.Proofs.Ytomdoamfdidghaa
open Go.RowKit

/-- a size with a sign -/
def sgI (n : Bool) (q : Nat) : Int := if n then -(q : Int) else (q : Int)
theorem over_hi (A by' : Nat) (h : by' ≤ hiW A) (hb : 0 < by') : 1000000000000000000 < A / by' := by
  have h1 : by' * 18446744073709551616 ≤ A := by
    have := Nat.mul_le_mul_right 18446744073709551616 h
    have := w_id A
    omega
  have : 18446744073709551616 ≤ A / by' := by rw [Nat.le_div_iff_mul_le hb, Nat.mul_comm]; exact h1
  omega

theorem over_t (n : Bool) (A by' : Nat) (w : World) (hb : 0 < by') (hb2 : by' ≤ 9223372036854775807) (hq : A / by' ≤ 1000000000000000000) :
    Calls Try.prog 39 #[.agg #[.bool n, .int .u64 (hiW A), .int .u64 (loW A)], .int .i64 (by' : Int)] w fun e w' => e = .returned (.tuple #[.int .i64 (sgI n (A / by')), .bool true]) ∧ Below w.heap.size w w' := by
  have hlt : hiW A < by' := by
    refine Nat.lt_of_not_le fun h => ?_
    have := over_hi A by' h hb
    omega
  have hw := w_id A
  have HW := Lib.hid hw
  have hlo := loW_lt A
  obtain ⟨Q, hQ⟩ : ∃ Q, A / by' = Q := ⟨_, rfl⟩
  have HQ := Lib.hid hQ
  rw [hQ] at hq ⊢
  clear hQ hw
  have hc1 : decide ((by' : Int) ≤ (hiW A : Int)) = false := by simp; omega
  have hc2 : decide ((1000000000000000000 : Int) < (Q : Int)) = false := by simp; omega
  cases n
  all_goals
    go_enter Try.func39, Try.ntmps39
    go_wp2_with fail
    refine (div64_any (hiW A) (loW A) by' _ hlt (by omega) hlo).mono ?_
    rw [← HW.out, HQ.out]
    rintro e w' ⟨rfl, q, rfl⟩
    go_wp2
    go_ret2
    exact ⟨rfl, bdw ((Below.refl _ _).alloc (Nat.le_refl _) _) _⟩
theorem over_f (n : Bool) (A by' : Nat) (w : World) (hb : 0 < by') (hb2 : by' ≤ 9223372036854775807) (hq : 1000000000000000000 < A / by') :
    Calls Try.prog 39 #[.agg #[.bool n, .int .u64 (hiW A), .int .u64 (loW A)], .int .i64 (by' : Int)] w fun e w' => e = .returned (.tuple #[.int .i64 0, .bool false]) ∧ Below w.heap.size w w' := by
  by_cases hlt : hiW A < by'
  · have hw := w_id A
    have HW := Lib.hid hw
    have hlo := loW_lt A
    obtain ⟨Q, hQ⟩ : ∃ Q, A / by' = Q := ⟨_, rfl⟩
    have HQ := Lib.hid hQ
    rw [hQ] at hq
    clear hQ hw
    have hc1 : decide ((by' : Int) ≤ (hiW A : Int)) = false := by simp; omega
    have hc2 : decide ((1000000000000000000 : Int) < (Q : Int)) = true := by simp; omega
    go_enter Try.func39, Try.ntmps39
    go_wp2_with fail
    refine (div64_any (hiW A) (loW A) by' _ hlt (by omega) hlo).mono ?_
    rw [← HW.out, HQ.out]
    rintro e w' ⟨rfl, q, rfl⟩
    go_wp2
    go_ret2
    exact ⟨rfl, bdw ((Below.refl _ _).alloc (Nat.le_refl _) _) _⟩
  · have hc1 : decide ((by' : Int) ≤ (hiW A : Int)) = true := by simp; omega
    go_enter Try.func39, Try.ntmps39
    go_wp2
    go_ret2
    exact ⟨rfl, (Below.refl _ _).alloc (Nat.le_refl _) _⟩
end Go.Proofs.Ytomdoamfdidghaa
