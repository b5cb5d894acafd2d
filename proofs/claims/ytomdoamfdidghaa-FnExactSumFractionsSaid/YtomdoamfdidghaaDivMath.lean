/- Words: dividing two words by one, half a word at a time; plain numbers alone. -/
import Derived.WalkKit
namespace Go.Proofs.Ytomdoamfdidghaa

/-- what holds of a guess q and a rest r at each turn -/
structure HalfInv (y1 y0 u u1 q r : Nat) : Prop where
  sum : q * y1 + r = u
  ge : (u * 4294967296 + u1) / (y1 * 4294967296 + y0) ≤ q

theorem half_start (y1 y0 u u1 : Nat) (hy : 0 < y1) (hu1 : u1 < 4294967296) : HalfInv y1 y0 u u1 (u / y1) (u - u / y1 * y1) := by
  refine ⟨?_, ?_⟩
  · have := Nat.div_mul_le_self u y1; omega
  · rw [Nat.le_div_iff_mul_le hy]
    have h := Nat.div_mul_le_self (u * 4294967296 + u1) (y1 * 4294967296 + y0)
    generalize (u * 4294967296 + u1) / (y1 * 4294967296 + y0) = Q at *
    rw [Nat.mul_add, ← Nat.mul_assoc] at h
    generalize Q * y1 = m at *
    have : Q * y0 ≥ 0 := Nat.zero_le _
    omega

theorem half_q_lt (y1 y0 u u1 : Nat) (hu : u < y1 * 4294967296 + y0) (hu1 : u1 < 4294967296) : (u * 4294967296 + u1) / (y1 * 4294967296 + y0) < 4294967296 := by
  rw [Nat.div_lt_iff_lt_mul (Nat.lt_of_le_of_lt (Nat.zero_le _) hu)]
  have h : (u + 1) * 4294967296 ≤ (y1 * 4294967296 + y0) * 4294967296 := Nat.mul_le_mul_right _ hu
  rw [Nat.mul_comm 4294967296 (y1 * 4294967296 + y0)]
  refine Nat.lt_of_lt_of_le ?_ h
  rw [Nat.add_mul]
  omega

theorem half_down (y1 y0 u u1 q r : Nat) (hu : u < y1 * 4294967296 + y0) (hu1 : u1 < 4294967296) (h : HalfInv y1 y0 u u1 q r)
    (hc : 4294967296 ≤ q ∨ 4294967296 * r + u1 < q * y0) : 1 ≤ q ∧ HalfInv y1 y0 u u1 (q - 1) (r + y1) := by
  have hQ := half_q_lt y1 y0 u u1 hu hu1
  have hlt : (u * 4294967296 + u1) / (y1 * 4294967296 + y0) < q := by
    rcases hc with hc | hc
    · exact Nat.lt_of_lt_of_le hQ hc
    · rw [Nat.div_lt_iff_lt_mul (by omega), Nat.mul_add, ← Nat.mul_assoc]
      have := h.sum
      generalize q * y1 = m at *
      generalize q * y0 = n at *
      omega
  have h1 : 1 ≤ q := Nat.lt_of_le_of_lt (Nat.zero_le _) hlt
  refine ⟨h1, ⟨?_, Nat.le_sub_one_of_lt hlt⟩⟩
  have := h.sum
  obtain ⟨p, rfl⟩ : ∃ p, q = p + 1 := ⟨q - 1, by omega⟩
  rw [Nat.add_mul, Nat.one_mul] at this
  show (p + 1 - 1) * y1 + (r + y1) = u
  rw [Nat.add_sub_cancel]
  omega

/-- the guess is right, and what is left is the rest -/
theorem half_end (y1 y0 u u1 q r : Nat) (hy : y0 < 4294967296) (hu : u < y1 * 4294967296 + y0) (h : HalfInv y1 y0 u u1 q r)
    (hc : 4294967296 ≤ r ∨ q * y0 ≤ 4294967296 * r + u1) : q = (u * 4294967296 + u1) / (y1 * 4294967296 + y0) ∧ q * (y1 * 4294967296 + y0) ≤ u * 4294967296 + u1 := by
  have hs := h.sum
  have hq0 : q * y0 ≤ 4294967296 * r + u1 := by
    rcases hc with hc | hc
    · have hlt : q * y1 < 4294967296 * y1 := by omega
      have hq : q < 4294967296 := Nat.lt_of_mul_lt_mul_right hlt
      have : q * y0 ≤ 4294967296 * 4294967296 := Nat.mul_le_mul (by omega) (by omega)
      omega
    · exact hc
  have hle : q * (y1 * 4294967296 + y0) ≤ u * 4294967296 + u1 := by
    rw [Nat.mul_add, ← Nat.mul_assoc]
    generalize q * y1 = m at *
    generalize q * y0 = n at *
    omega
  have hy0 : 0 < y1 * 4294967296 + y0 := by omega
  exact ⟨Nat.le_antisymm ((Nat.le_div_iff_mul_le hy0).2 hle) h.ge, hle⟩

/-- the guess stays small -/
theorem half_small (y1 y0 u u1 q r : Nat) (hy1 : 2147483648 ≤ y1) (hy0 : y0 < 4294967296) (hu : u < y1 * 4294967296 + y0) (h : HalfInv y1 y0 u u1 q r) : q < 4294967299 := by
  have hs := h.sum
  refine Nat.lt_of_not_le fun hq => ?_
  have : 4294967299 * y1 ≤ q * y1 := Nat.mul_le_mul_right _ hq
  omega

/-- both halves together are the whole -/
theorem two_halves (U1 U0 y : Nat) (hy : 0 < y) (u1 u0 : Nat) (hU : U0 = u1 * 4294967296 + u0) :
    (((U1 * 4294967296 + u1) / y) * 4294967296 + (((U1 * 4294967296 + u1) % y) * 4294967296 + u0) / y) = (U1 * 18446744073709551616 + U0) / y ∧
    (((U1 * 4294967296 + u1) % y) * 4294967296 + u0) % y = (U1 * 18446744073709551616 + U0) % y := by
  have e : U1 * 18446744073709551616 + U0 = y * ((U1 * 4294967296 + u1) / y * 4294967296) + (((U1 * 4294967296 + u1) % y) * 4294967296 + u0) := by
    have h := Nat.div_add_mod (U1 * 4294967296 + u1) y
    rw [← Nat.mul_assoc]
    generalize (U1 * 4294967296 + u1) / y = q at *
    generalize (U1 * 4294967296 + u1) % y = r at *
    generalize y * q = m at *
    omega
  rw [e]
  refine ⟨?_, ?_⟩
  · rw [Nat.mul_add_div hy]
  · rw [Nat.mul_add_mod]
/-- a common power of two falls out -/
theorem div_scaled (a y s : Nat) : (a * 2 ^ s) / (y * 2 ^ s) = a / y ∧ (a * 2 ^ s) % (y * 2 ^ s) / 2 ^ s = a % y := by
  have h : 0 < 2 ^ s := Nat.pow_pos (by omega)
  refine ⟨Nat.mul_div_mul_right _ _ h, ?_⟩
  rw [Nat.mul_mod_mul_right, Nat.mul_div_cancel _ h]
end Go.Proofs.Ytomdoamfdidghaa
