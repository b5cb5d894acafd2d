/- An even pattern, on both sides, and the walk of its law. -/
import Derived.Test.YtkipgeecibimoaaAccLaw
namespace Go.Proofs.Ytkipgeecibimoaa
open Go.RowKit
set_option linter.unusedVariables false

theorem even_parts (s m i : Nat) (hm : 0 < m) (hs : s ≤ m) :
    ((i * s) % m < m) ∧ (m ≤ (i * s) % m + s → ((i + 1) * s) / m = i * s / m + 1 ∧ ((i + 1) * s) % m = (i * s) % m + s - m) ∧
    (¬ m ≤ (i * s) % m + s → ((i + 1) * s) / m = i * s / m ∧ ((i + 1) * s) % m = (i * s) % m + s) := by
  have h1 := Nat.mod_lt (i * s) hm
  have h2 := Nat.div_add_mod (i * s) m
  have h3 : (i + 1) * s = i * s + s := by rw [Nat.add_mul, Nat.one_mul]
  generalize hr : (i * s) % m = r at *
  generalize hq : (i * s) / m = q at *
  refine ⟨h1, fun h => ?_, fun h => ?_⟩
  · have e : (i + 1) * s = (r + s - m) + m * (q + 1) := by rw [h3, ← h2, Nat.mul_add, Nat.mul_one]; omega
    rw [e, Nat.add_mul_div_left _ _ hm, Nat.add_mul_mod_self_left, Nat.div_eq_of_lt (by omega), Nat.mod_eq_of_lt (by omega)]
    omega
  · have e : (i + 1) * s = (r + s) + m * q := by rw [h3, ← h2]; omega
    rw [e, Nat.add_mul_div_left _ _ hm, Nat.add_mul_mod_self_left, Nat.div_eq_of_lt (by omega), Nat.mod_eq_of_lt (by omega)]
    omega

theorem implEven_f (m s : Int) (w : World) (h : m < 1 ∨ 64 < m ∨ s < 0 ∨ m < s) :
    Calls Try.prog 27 #[.int .i64 m, .int .i64 s] w fun e w' => e = .returned (.tuple #[.string ⟨#[]⟩, .bool false]) ∧ Below w.heap.size w w' := by
  by_cases k1 : 1 ≤ m ∧ m ≤ 64
  · go_enter Try.func27, Try.ntmps27
    go_wp2_with fail
    refine (within_i64_t _ _ _ _ k1.1 k1.2).mono ?_; rintro e w' ⟨rfl, rfl⟩
    go_wp2_with fail
    refine (within_i64_f _ _ _ _ (by omega)).mono ?_; rintro e w' ⟨rfl, rfl⟩
    go_wp2
    go_ret2
    exact ⟨rfl, Below.refl _ _⟩
  · go_enter Try.func27, Try.ntmps27
    go_wp2_with fail
    refine (within_i64_f _ _ _ _ (by omega)).mono ?_; rintro e w' ⟨rfl, rfl⟩
    go_wp2
    go_ret2
    exact ⟨rfl, Below.refl _ _⟩
theorem implEven_t (m s : Nat) (w : World) (h1 : 1 ≤ m) (h2 : m ≤ 64) (h4 : s ≤ m) :
    Calls Try.prog 27 #[.int .i64 (m : Int), .int .i64 (s : Int)] w fun e w' => e = .returned (.tuple #[.string ⟨(accL s m 0 m).toArray⟩, .bool true]) ∧ Below w.heap.size w w' := by
  go_enter Try.func27, Try.ntmps27
  go_wp2_with fail
  refine (within_i64_t _ _ _ _ (by omega) (by omega)).mono ?_; rintro e w' ⟨rfl, rfl⟩
  go_wp2_with fail
  refine (within_i64_t _ _ _ _ (by omega) (by omega)).mono ?_; rintro e w' ⟨rfl, rfl⟩
  go_wp2_with fail
  refine (accWave s m 0 m _ h4 (by omega) (by omega) (by omega)).mono ?_; rintro e w2 ⟨rfl, hb2⟩
  go_wp2
  go_ret2
  exact ⟨rfl, hb2⟩

end Go.Proofs.Ytkipgeecibimoaa
