/- Steps and moduli, on both sides: are they valid. -/
import Derived.Test.YtejjoejapnnlkabIn64
import Derived.IntWalk
namespace Go.Proofs.Ytejjoejapnnlkab
open Go.RowKit

def stepOk (s m : Int) : Prop := 1 ≤ m ∧ m ≤ 1000 ∧ 1 ≤ s ∧ s ≤ m
theorem accValid_t (s m p : Int) (w : World) (h1 : 1 ≤ m) (h2 : m ≤ 1000) (h3 : 1 ≤ s) (h4 : s ≤ m) (h5 : 0 ≤ p) (h6 : p ≤ m - 1) :
    Calls Try.prog 37 #[.agg #[.int .i64 s, .int .i64 m, .int .i64 p]] w fun e w' => e = .returned (.bool true) ∧ Below w.heap.size w w' := by
  go_enter Try.func37, Try.ntmps37
  go_wp2_with fail
  refine (within_i64_t _ _ _ _ h1 h2).mono ?_; rintro e w' ⟨rfl, rfl⟩
  go_wp2_with fail
  refine (within_i64_t _ _ _ _ h3 h4).mono ?_; rintro e w' ⟨rfl, rfl⟩
  go_wp2_with fail
  refine (within_i64_t _ _ _ _ h5 h6).mono ?_; rintro e w' ⟨rfl, rfl⟩
  go_wp2
  go_ret
  exact ⟨rfl, (Below.refl _ _).alloc (Nat.le_refl _) _⟩
theorem accValid_f (s m p : Int) (w : World) (h : m < 1 ∨ 1000 < m ∨ s < 1 ∨ m < s ∨ p < 0 ∨ m - 1 < p) :
    Calls Try.prog 37 #[.agg #[.int .i64 s, .int .i64 m, .int .i64 p]] w fun e w' => e = .returned (.bool false) ∧ Below w.heap.size w w' := by
  by_cases k1 : 1 ≤ m ∧ m ≤ 1000
  · by_cases k2 : 1 ≤ s ∧ s ≤ m
    · go_enter Try.func37, Try.ntmps37
      go_wp2_with fail
      refine (within_i64_t _ _ _ _ k1.1 k1.2).mono ?_; rintro e w' ⟨rfl, rfl⟩
      go_wp2_with fail
      refine (within_i64_t _ _ _ _ k2.1 k2.2).mono ?_; rintro e w' ⟨rfl, rfl⟩
      obtain ⟨k11, k12⟩ := k1
      go_wp2_with fail
      refine (within_i64_f _ _ _ _ (by omega)).mono ?_; rintro e w' ⟨rfl, rfl⟩
      go_wp2
      go_ret
      exact ⟨rfl, (Below.refl _ _).alloc (Nat.le_refl _) _⟩
    · go_enter Try.func37, Try.ntmps37
      go_wp2_with fail
      refine (within_i64_t _ _ _ _ k1.1 k1.2).mono ?_; rintro e w' ⟨rfl, rfl⟩
      go_wp2_with fail
      refine (within_i64_f _ _ _ _ (by omega)).mono ?_; rintro e w' ⟨rfl, rfl⟩
      go_wp2
      go_ret
      exact ⟨rfl, (Below.refl _ _).alloc (Nat.le_refl _) _⟩
  · go_enter Try.func37, Try.ntmps37
    go_wp2_with fail
    refine (within_i64_f _ _ _ _ (by omega)).mono ?_; rintro e w' ⟨rfl, rfl⟩
    go_wp2
    go_ret
    exact ⟨rfl, (Below.refl _ _).alloc (Nat.le_refl _) _⟩

theorem l03Steps_t (s m : Int) (w : World) (h1 : 1 ≤ m) (h2 : m ≤ 1000) (h3 : 1 ≤ s) (h4 : s ≤ m) :
    Calls Try.prog 34 #[.int .i64 s, .int .i64 m] w fun e w' => e = .returned (.bool true) ∧ w = w' := by
  go_enter Try.func34, Try.ntmps34
  go_wp2_with fail
  refine (l00In_t _ _ _ _ h1 h2).mono ?_; rintro e w' ⟨rfl, rfl⟩
  go_wp2_with fail
  refine (l00In_t _ _ _ _ h3 h4).mono ?_; rintro e w' ⟨rfl, rfl⟩
  go_wp2
  go_ret
  exact ⟨rfl, rfl⟩
theorem l03Steps_f (s m : Int) (w : World) (h : m < 1 ∨ 1000 < m ∨ s < 1 ∨ m < s) :
    Calls Try.prog 34 #[.int .i64 s, .int .i64 m] w fun e w' => e = .returned (.bool false) ∧ w = w' := by
  by_cases k1 : 1 ≤ m ∧ m ≤ 1000
  · go_enter Try.func34, Try.ntmps34
    go_wp2_with fail
    refine (l00In_t _ _ _ _ k1.1 k1.2).mono ?_; rintro e w' ⟨rfl, rfl⟩
    go_wp2_with fail
    refine (l00In_f _ _ _ _ (by omega)).mono ?_; rintro e w' ⟨rfl, rfl⟩
    go_wp2
    go_ret
    exact ⟨rfl, rfl⟩
  · go_enter Try.func34, Try.ntmps34
    go_wp2_with fail
    refine (l00In_f _ _ _ _ (by omega)).mono ?_; rintro e w' ⟨rfl, rfl⟩
    go_wp2
    go_ret
    exact ⟨rfl, rfl⟩

end Go.Proofs.Ytejjoejapnnlkab
