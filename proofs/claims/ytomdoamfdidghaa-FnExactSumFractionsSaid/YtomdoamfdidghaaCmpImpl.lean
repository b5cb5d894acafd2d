/- The comparison of two fractions, on the side of the program. -/
import Derived.Test.YtomdoamfdidghaaPlus
import Derived.Test.YtomdoamfdidghaaFrac
import Derived.Test.YtomdoamfdidghaaKept
namespace Go.Proofs.Ytomdoamfdidghaa
open Go.RowKit

theorem sgv_eq (n m : Bool) (A B : Nat) :
    (if A < B then (if n = m then sgv n (B + A) else sgv m (B - A)) else (if n = m then sgv n (A + B) else sgv n (A - B))) = (if n = m then sgv n (A + B) else if A < B then sgv m (B - A) else sgv n (A - B)) := by
  by_cases h : A < B <;> by_cases h2 : n = m <;> simp [h, h2, Nat.add_comm]

/-- the sum of two wide numbers, and its sign -/
def addN (n m : Bool) (A B : Nat) : Bool := if n = m then n else if A < B then m else n
def addV (n m : Bool) (A B : Nat) : Nat := if n = m then A + B else if A < B then B - A else A - B
theorem plus_any (n m : Bool) (A B : Nat) (w : World) (hA : A < 170141183460469231731687303715884105728) (hB : B < 170141183460469231731687303715884105728) :
    Calls Try.prog 37 #[.agg #[.bool n, .int .u64 (hiW A), .int .u64 (loW A)], .agg #[.bool m, .int .u64 (hiW B), .int .u64 (loW B)]] w fun e w' => e = .returned (.agg #[.bool (addN n m A B), .int .u64 (hiW (addV n m A B)), .int .u64 (loW (addV n m A B))]) ∧ Below w.heap.size w w' := by
  have e1 : hiW (A + B) % 18446744073709551616 = hiW (A + B) := Nat.mod_eq_of_lt (hiW_lt _ (by omega))
  by_cases hnm : n = m
  · subst hnm
    have e2 : addN n n A B = n := by simp [addN]
    have e3 : addV n n A B = A + B := by simp [addV]
    rw [e2, e3]
    by_cases h : A < B
    · have := plus_lt_same n A B w h
      rw [Nat.add_comm B A, e1] at this
      exact this
    · have := plus_ge_same n A B w h
      rw [e1] at this
      exact this
  · by_cases h : A < B
    · have e2 : addN n m A B = m := by simp [addN, hnm, h]
      have e3 : addV n m A B = B - A := by simp [addV, hnm, h]
      rw [e2, e3, ← sH_eq B A (by omega) (by omega), ← sL_eq B A (by omega)]
      cases n <;> cases m
      · exact absurd rfl hnm
      · exact plus_lt_false A B w h
      · exact plus_lt_true A B w h
      · exact absurd rfl hnm
    · have e2 : addN n m A B = n := by simp [addN, hnm, h]
      have e3 : addV n m A B = A - B := by simp [addV, hnm, h]
      rw [e2, e3, ← sH_eq A B (by omega) (by omega), ← sL_eq A B (by omega)]
      cases n <;> cases m
      · exact absurd rfl hnm
      · exact plus_ge_false A B w h
      · exact plus_ge_true A B w h
      · exact absurd rfl hnm
theorem addV_lt (n m : Bool) (A B : Nat) (hA : A < 170141183460469231731687303715884105728) (hB : B < 170141183460469231731687303715884105728) : addV n m A B < 340282366920938463463374607431768211456 := by
  unfold addV; split; omega; split <;> omega

theorem prod_lt (a b : Nat) (ha : a ≤ 1000000000000000000) (hb : b ≤ 1000000000000000000) : a * b < 170141183460469231731687303715884105728 :=
  Nat.lt_of_le_of_lt (Nat.mul_le_mul ha hb) (by decide)

/-- is a number below 0 -/
def ngB (x : Int) : Bool := decide (x < 0)
theorem product_pos (a b : Int) (w : World) (a0 : -9223372036854775807 ≤ a) (a1 : a ≤ 9223372036854775807) (b0 : 1 ≤ b) (b1 : b ≤ 9223372036854775807) :
    Calls Try.prog 36 #[.int .i64 a, .int .i64 b] w fun e w' => e = .returned (.agg #[.bool (ngB a), .int .u64 (hiW (a.natAbs * b.natAbs)), .int .u64 (loW (a.natAbs * b.natAbs))]) ∧ Below w.heap.size w w' := by
  have h := product_any a b w a0 a1 (by omega) b1
  have e : (decide (a < 0) != decide (b < 0)) = ngB a := by
    rw [show decide (b < 0) = false from by simp; omega]; simp [ngB]
  rw [e] at h
  exact h

def cmpI (n d p q : Int) : Int := sgv (addN (ngB n) (ngB (-p)) (n.natAbs * q.natAbs) (p.natAbs * d.natAbs)) (addV (ngB n) (ngB (-p)) (n.natAbs * q.natAbs) (p.natAbs * d.natAbs))

end Go.Proofs.Ytomdoamfdidghaa
