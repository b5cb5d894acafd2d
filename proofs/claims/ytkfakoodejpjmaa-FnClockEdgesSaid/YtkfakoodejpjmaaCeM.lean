/- Edges of a clock counted tick by tick: mathematics. -/
import Derived.Test.YtkfakoodejpjmaaMeetM
import Derived.Test.YtkfakoodejpjmaaWvM
namespace Go.Proofs.Ytkfakoodejpjmaa
set_option linter.unusedVariables false
theorem div_pred (p x : Int) (hp : 1 ≤ p) : x / p = (x - 1) / p + (if x % p = 0 then 1 else 0) := by
  have h0 := Int.emod_nonneg x (show p ≠ 0 by omega)
  have h1 := Int.emod_lt_of_pos x (show 0 < p by omega)
  have hd := Int.emod_add_mul_ediv x p
  obtain ⟨q, hq⟩ : ∃ q, x / p = q := ⟨_, rfl⟩
  obtain ⟨r, hr⟩ : ∃ r, x % p = r := ⟨_, rfl⟩
  rw [hq, hr] at hd
  rw [hr] at h0 h1
  rw [hq, hr]
  by_cases h : r = 0
  · rw [if_pos h, show x - 1 = (p - 1) + p * (q - 1) by rw [Int.mul_sub, Int.mul_one]; omega, Int.add_mul_ediv_left _ _ (show p ≠ 0 by omega), Int.ediv_eq_zero_of_lt (by omega) (by omega)]
    omega
  · rw [if_neg h, show x - 1 = (r - 1) + p * q by omega, Int.add_mul_ediv_left _ _ (show p ≠ 0 by omega), Int.ediv_eq_zero_of_lt (by omega) (by omega)]
    omega
theorem befZ_edge (p o t : Int) (hp : 1 ≤ p) (h : o ≤ t ∧ (t - o) % p = 0) : befZ p o (t + 1) = befZ p o t + 1 := by
  have hd := div_pred p (t - o) hp
  rw [if_pos h.2] at hd
  rw [befZ_gt p o (t + 1) (by omega), show t + 1 - o - 1 = t - o by omega]
  by_cases e : t = o
  · rw [befZ_le p o t (by omega), e]; simp
  · rw [befZ_gt p o t (by omega)]; omega
theorem befZ_miss (p o t : Int) (hp : 1 ≤ p) (h : ¬ (o ≤ t ∧ (t - o) % p = 0)) : befZ p o (t + 1) = befZ p o t := by
  have hd := div_pred p (t - o) hp
  by_cases e : t < o
  · rw [befZ_le p o t (by omega), befZ_le p o (t + 1) (by omega)]
  · rw [if_neg (fun k => h ⟨by omega, k⟩)] at hd
    have e2 : ¬ t = o := fun k => h ⟨by omega, by rw [k]; simp⟩
    rw [befZ_gt p o (t + 1) (by omega), befZ_gt p o t (by omega), show t + 1 - o - 1 = t - o by omega]
    omega
theorem befZ_at (p o k : Int) (hp : 1 ≤ p) (ho : 0 ≤ o) (hk : 0 ≤ k) : befZ p o (o + k * p) = k := by
  by_cases e : k = 0
  · rw [e, befZ_le p o _ (by omega)]
  · have h1 : 1 * p ≤ k * p := Int.mul_le_mul_of_nonneg_right (by omega) (by omega)
    rw [befZ_gt p o _ (by omega), show o + k * p - o - 1 = (p - 1) + p * (k - 1) by rw [Int.mul_sub, Int.mul_one, Int.mul_comm k p]; omega, Int.add_mul_ediv_left _ _ (show p ≠ 0 by omega), Int.ediv_eq_zero_of_lt (by omega) (by omega)]
    omega
theorem next_edge (p o t : Int) (hp : 1 ≤ p) (ho : 0 ≤ o) (ht : 0 ≤ t) : t ≤ o + befZ p o t * p ∧ edgeP p o (o + befZ p o t * p) ∧ ∀ u, edgeP p o u → t ≤ u → o + befZ p o t * p ≤ u := by
  obtain ⟨b0, b1, b2, b3⟩ := befZ_bd p o t hp ht ho
  refine ⟨b2, (edgeP_iff _ _ _ hp).2 ⟨_, b0, rfl⟩, fun u hu htu => ?_⟩
  obtain ⟨i, hi, rfl⟩ := (edgeP_iff _ _ _ hp).1 hu
  apply Decidable.byContradiction
  intro hn
  have h1 : i < befZ p o t := by
    apply Decidable.byContradiction
    intro h2
    have : befZ p o t * p ≤ i * p := Int.mul_le_mul_of_nonneg_right (by omega) (by omega)
    omega
  have h3 := b3 (by omega)
  have h4 : i * p ≤ (befZ p o t - 1) * p := Int.mul_le_mul_of_nonneg_right (by omega) (by omega)
  omega
theorem next_is (p o t : Int) (hp : 1 ≤ p) (ho : 0 ≤ o) (ht : 0 ≤ t) : t ≤ o + befZ p o t * p ∧ o ≤ o + befZ p o t * p ∧ (o + befZ p o t * p - o) % p = 0 := by
  obtain ⟨h1, h2, -⟩ := next_edge p o t hp ho ht
  exact ⟨h1, h2.1, h2.2⟩
theorem next_first (p o t u : Int) (hp : 1 ≤ p) (ho : 0 ≤ o) (ht : 0 ≤ t) (hu : o ≤ u ∧ (u - o) % p = 0) (htu : t ≤ u) : o + befZ p o t * p ≤ u :=
  (next_edge p o t hp ho ht).2.2 u hu htu
theorem outW_get (p o : Int) (high n k : Nat) (h : k < n) : (outW p o high n)[k]? = some (bitW p o high k) := by
  unfold outW
  rw [List.getElem?_map, List.getElem?_range h]; rfl
theorem outW_len' (p o : Int) (high n : Nat) : (outW p o high n).length = n := by simp [outW]
end Go.Proofs.Ytkfakoodejpjmaa
