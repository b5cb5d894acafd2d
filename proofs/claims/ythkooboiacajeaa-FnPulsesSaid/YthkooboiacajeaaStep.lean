/- Steps and moduli, on both sides: are they valid, the end of a pulse; the walks of two laws: the range of gaps, the tick of a pulse. -/
import Derived.Test.YthkooboiacajeaaIn64
import Derived.IntWalk
namespace Go.Proofs.Ythkooboiacajeaa
open Go.RowKit

def stepOk (s m : Int) : Prop := 1 ≤ m ∧ m ≤ 1000 ∧ 1 ≤ s ∧ s ≤ m
theorem accValid_t (s m p : Int) (w : World) (h1 : 1 ≤ m) (h2 : m ≤ 1000) (h3 : 1 ≤ s) (h4 : s ≤ m) (h5 : 0 ≤ p) (h6 : p ≤ m - 1) :
    Calls Try.prog 21 #[.agg #[.int .i64 s, .int .i64 m, .int .i64 p]] w fun e w' => e = .returned (.bool true) ∧ Below w.heap.size w w' := by
  go_enter Try.func21, Try.ntmps21
  go_wp2_with fail
  refine (within_i64_t _ _ _ _ h1 h2).mono ?_; rintro e w' ⟨rfl, rfl⟩
  go_wp2_with fail
  refine (within_i64_t _ _ _ _ h3 h4).mono ?_; rintro e w' ⟨rfl, rfl⟩
  go_wp2_with fail
  refine (within_i64_t _ _ _ _ h5 h6).mono ?_; rintro e w' ⟨rfl, rfl⟩
  go_wp2
  go_ret
  exact ⟨rfl, (Below.refl _ _).alloc (Nat.le_refl _) _⟩
theorem accValid_f (s m p : Int) (w : World) (h : m < 1 ∨ 1000 < m ∨ s < 1 ∨ m < s ∨ p < 0 ∨ m - 1 < p) :
    Calls Try.prog 21 #[.agg #[.int .i64 s, .int .i64 m, .int .i64 p]] w fun e w' => e = .returned (.bool false) ∧ Below w.heap.size w w' := by
  by_cases k1 : 1 ≤ m ∧ m ≤ 1000
  · by_cases k2 : 1 ≤ s ∧ s ≤ m
    · go_enter Try.func21, Try.ntmps21
      go_wp2_with fail
      refine (within_i64_t _ _ _ _ k1.1 k1.2).mono ?_; rintro e w' ⟨rfl, rfl⟩
      go_wp2_with fail
      refine (within_i64_t _ _ _ _ k2.1 k2.2).mono ?_; rintro e w' ⟨rfl, rfl⟩
      obtain ⟨k11, k12⟩ := k1
      go_wp2_with fail
      refine (within_i64_f _ _ _ _ (by omega)).mono ?_; rintro e w' ⟨rfl, rfl⟩
      go_wp2
      go_ret
      exact ⟨rfl, (Below.refl _ _).alloc (Nat.le_refl _) _⟩
    · go_enter Try.func21, Try.ntmps21
      go_wp2_with fail
      refine (within_i64_t _ _ _ _ k1.1 k1.2).mono ?_; rintro e w' ⟨rfl, rfl⟩
      go_wp2_with fail
      refine (within_i64_f _ _ _ _ (by omega)).mono ?_; rintro e w' ⟨rfl, rfl⟩
      go_wp2
      go_ret
      exact ⟨rfl, (Below.refl _ _).alloc (Nat.le_refl _) _⟩
  · go_enter Try.func21, Try.ntmps21
    go_wp2_with fail
    refine (within_i64_f _ _ _ _ (by omega)).mono ?_; rintro e w' ⟨rfl, rfl⟩
    go_wp2
    go_ret
    exact ⟨rfl, (Below.refl _ _).alloc (Nat.le_refl _) _⟩

theorem l03Steps_t (s m : Int) (w : World) (h1 : 1 ≤ m) (h2 : m ≤ 1000) (h3 : 1 ≤ s) (h4 : s ≤ m) :
    Calls Try.prog 24 #[.int .i64 s, .int .i64 m] w fun e w' => e = .returned (.bool true) ∧ w = w' := by
  go_enter Try.func24, Try.ntmps24
  go_wp2_with fail
  refine (l00In_t _ _ _ _ h1 h2).mono ?_; rintro e w' ⟨rfl, rfl⟩
  go_wp2_with fail
  refine (l00In_t _ _ _ _ h3 h4).mono ?_; rintro e w' ⟨rfl, rfl⟩
  go_wp2
  go_ret
  exact ⟨rfl, rfl⟩
theorem l03Steps_f (s m : Int) (w : World) (h : m < 1 ∨ 1000 < m ∨ s < 1 ∨ m < s) :
    Calls Try.prog 24 #[.int .i64 s, .int .i64 m] w fun e w' => e = .returned (.bool false) ∧ w = w' := by
  by_cases k1 : 1 ≤ m ∧ m ≤ 1000
  · go_enter Try.func24, Try.ntmps24
    go_wp2_with fail
    refine (l00In_t _ _ _ _ k1.1 k1.2).mono ?_; rintro e w' ⟨rfl, rfl⟩
    go_wp2_with fail
    refine (l00In_f _ _ _ _ (by omega)).mono ?_; rintro e w' ⟨rfl, rfl⟩
    go_wp2
    go_ret
    exact ⟨rfl, rfl⟩
  · go_enter Try.func24, Try.ntmps24
    go_wp2_with fail
    refine (l00In_f _ _ _ _ (by omega)).mono ?_; rintro e w' ⟨rfl, rfl⟩
    go_wp2
    go_ret
    exact ⟨rfl, rfl⟩

/-- n divided by b, rounded up -/
def upQ (n b : Int) : Int := (n + b - 1) / b
theorem upQ_bd (n b : Int) (h0 : 0 ≤ n) (hb : 1 ≤ b) : 0 ≤ upQ n b ∧ upQ n b * b ≤ n + b - 1 ∧ n ≤ upQ n b * b ∧ upQ n b ≤ n := by
  unfold upQ
  have h1 := Int.ediv_mul_le (n + b - 1) (show b ≠ 0 by omega)
  have h2 := Int.lt_ediv_add_one_mul_self (n + b - 1) (show 0 < b by omega)
  have h3 : 0 ≤ (n + b - 1) / b := Int.ediv_nonneg (by omega) (by omega)
  rw [Int.add_mul] at h2
  refine ⟨h3, h1, by omega, ?_⟩
  by_cases hn : n = 0
  · subst hn
    rw [show (0 : Int) + b - 1 = b - 1 from by omega, Int.ediv_eq_zero_of_lt (by omega) (by omega)]
    exact Int.le_refl 0
  · have h4 : (n + b - 1) / b < n + 1 := by
      apply Int.ediv_lt_of_lt_mul (by omega)
      have e : (n + 1) * b = n * b + b := by rw [Int.add_mul, Int.one_mul]
      have h5 : n ≤ n * b := by
        have := Int.mul_le_mul_of_nonneg_left hb h0
        omega
      omega
    omega

theorem l03Up_any (n b : Int) (w : World) (h0 : 0 ≤ n) (h1 : n ≤ 1000000000000) (hb : 1 ≤ b) (hb2 : b ≤ 1000000) :
    Calls Try.prog 32 #[.int .i64 n, .int .i64 b] w fun e w' => e = .returned (.int .i64 (upQ n b)) ∧ w = w' := by
  have hne : (b == 0) = false := by simp; omega
  have hn0 : ¬ b = 0 := by omega
  have w1 : IntKind.i64.wrap (n + b) = n + b := IntWalk.i64_in _ (by omega)
  have w2 : IntKind.i64.wrap (n + b - 1) = n + b - 1 := IntWalk.i64_in _ (by omega)
  go_enter Try.func32, Try.ntmps32
  go_wp2
  go_ret
  exact ⟨rfl, rfl⟩

theorem pulseEnd_any (k s m p : Int) (w : World) (hk : 1 ≤ k) (hk2 : k ≤ 100001) (h1 : 1 ≤ m) (h2 : m ≤ 1000) (h3 : 1 ≤ s) (h4 : s ≤ m) (h5 : 0 ≤ p) (h6 : p ≤ m - 1) :
    Calls Try.prog 23 #[.agg #[.int .i64 s, .int .i64 m, .int .i64 p], .int .i64 k] w fun e w' => e = .returned (.int .i64 (upQ (k * m - p) s)) ∧ Below w.heap.size w w' := by
  have hne : (s == 0) = false := by simp; omega
  have hn0 : ¬ s = 0 := by omega
  have b1 : 0 ≤ k * m := Int.mul_nonneg (by omega) (by omega)
  have b2 : k * m ≤ 100001 * 1000 := Int.mul_le_mul hk2 h2 (by omega) (by omega)
  have b3 : m ≤ k * m := by
    have := Int.mul_le_mul_of_nonneg_right hk (show 0 ≤ m by omega)
    omega
  have w1 : IntKind.i64.wrap (k * m) = k * m := IntWalk.i64_in _ (by omega)
  have w2 : IntKind.i64.wrap (k * m - p) = k * m - p := IntWalk.i64_in _ (by omega)
  have w3 : IntKind.i64.wrap (k * m - p + s) = k * m - p + s := IntWalk.i64_in _ (by omega)
  have w4 : IntKind.i64.wrap (k * m - p + s - 1) = k * m - p + s - 1 := IntWalk.i64_in _ (by omega)
  go_enter Try.func23, Try.ntmps23
  go_wp2
  go_ret
  exact ⟨rfl, (Below.refl _ _).alloc (Nat.le_refl _) _⟩
end Go.Proofs.Ythkooboiacajeaa
