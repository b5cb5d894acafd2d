/- Contracts: the greatest common divisor, on the side of the program. -/
import Derived.Test.YtljbblfdaphjpaaGcd
namespace Go.Proofs.Ytljbblfdaphjpaa
open Go.RowKit

theorem implGcdOf_t (a b : Int) (w : World) (ha : 1 ≤ a) (ha2 : a ≤ 1000000000000000) (hb : 1 ≤ b) (hb2 : b ≤ 1000000000000000) :
    Calls Try.prog 61 #[.int .i64 a, .int .i64 b] w fun e w' => e = .returned (.tuple #[.int .i64 (Int.gcd a b), .bool true]) ∧ ∃ q, w' = w.drewN q := by
  go_enter Try.func61, Try.ntmps61
  go_wp2_with fail
  refine (within_i64_t _ _ _ _ ha ha2).mono ?_; rintro e w' ⟨rfl, rfl⟩
  go_wp2_with fail
  refine (within_i64_t _ _ _ _ hb hb2).mono ?_; rintro e w' ⟨rfl, rfl⟩
  go_wp2_with fail
  refine (implGcd a b _ (by omega) (by omega) (by omega) (by omega)).mono ?_; rintro e w' ⟨rfl, q, rfl⟩
  go_wp2
  go_ret2
  exact ⟨rfl, q, rfl⟩
theorem implGcdOf_f (a b : Int) (w : World) (h : a < 1 ∨ 1000000000000000 < a ∨ b < 1 ∨ 1000000000000000 < b) :
    Calls Try.prog 61 #[.int .i64 a, .int .i64 b] w fun e w' => e = .returned (.tuple #[.int .i64 0, .bool false]) ∧ w = w' := by
  by_cases h1 : a < 1 ∨ 1000000000000000 < a
  · go_enter Try.func61, Try.ntmps61
    go_wp2_with fail
    refine (within_i64_f _ _ _ _ h1).mono ?_; rintro e w' ⟨rfl, rfl⟩
    go_wp2
    go_ret2
    exact ⟨rfl, rfl⟩
  · go_enter Try.func61, Try.ntmps61
    go_wp2_with fail
    refine (within_i64_t _ _ _ _ (by omega) (by omega)).mono ?_; rintro e w' ⟨rfl, rfl⟩
    go_wp2_with fail
    refine (within_i64_f _ _ _ _ (by omega)).mono ?_; rintro e w' ⟨rfl, rfl⟩
    go_wp2
    go_ret2
    exact ⟨rfl, rfl⟩
end Go.Proofs.Ytljbblfdaphjpaa
