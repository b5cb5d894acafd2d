/- The wave of a clock: what the buffer holds from tick to tick. -/
import Derived.Test.YtkfakoodejpjmaaCk
namespace Go.Proofs.Ytkfakoodejpjmaa
open Go.RowKit
set_option linter.unusedVariables false
/-- what the buffer holds ahead of a tick -/
def preW (p o : Int) (C t : Nat) : Nat := if (t : Int) < o ∨ ((t : Int) - o) % p = 0 then 0 else C - (((t : Int) - o) % p).toNat
/-- what it holds at a tick, after the edge's levels were sent -/
def lvW (p o : Int) (C t : Nat) : Nat := if o ≤ (t : Int) ∧ ((t : Int) - o) % p = 0 then C else preW p o C t
/-- the level at a tick -/
def bitW (p o : Int) (high : Nat) (k : Nat) : UInt8 := if o ≤ (k : Int) ∧ ((k : Int) - o) % p < (high : Int) then 49 else 48
/-- the levels up to a tick -/
def outW (p o : Int) (high t : Nat) : List UInt8 := (List.range t).map (bitW p o high)
theorem outW_succ (p o : Int) (high t : Nat) : outW p o high (t + 1) = outW p o high t ++ [bitW p o high t] := by
  simp [outW, List.range_succ]
theorem preW0 (p o : Int) (C : Nat) (ho : 0 ≤ o) : preW p o C 0 = 0 := by
  unfold preW
  split
  · rfl
  · rename_i h
    exfalso
    apply h
    by_cases h0 : (0 : Int) < o
    · left; simpa using h0
    · right
      obtain rfl : o = 0 := by omega
      simp
theorem preW_edge (p o : Int) (C t : Nat) (h : ((t : Int) - o) % p = 0) : preW p o C t = 0 := by
  unfold preW; rw [if_pos (.inr h)]
theorem lvW_edge (p o : Int) (C t : Nat) (h : o ≤ (t : Int) ∧ ((t : Int) - o) % p = 0) : lvW p o C t = C := by
  unfold lvW; rw [if_pos h]
theorem lvW_else (p o : Int) (C t : Nat) (h : ¬ (o ≤ (t : Int) ∧ ((t : Int) - o) % p = 0)) : lvW p o C t = preW p o C t := by
  unfold lvW; rw [if_neg h]
/-- at or behind the offset it holds what the phase leaves -/
theorem lvW_ge (p o : Int) (C t : Nat) (h : o ≤ (t : Int)) : lvW p o C t = C - (((t : Int) - o) % p).toNat := by
  unfold lvW preW
  by_cases h0 : ((t : Int) - o) % p = 0
  · rw [if_pos ⟨h, h0⟩, h0]; simp
  · rw [if_neg (by simp [h0]), if_neg (by rintro (h1 | h1) <;> omega)]
theorem lvW_lt (p o : Int) (C t : Nat) (h : (t : Int) < o) : lvW p o C t = 0 := by
  unfold lvW preW
  rw [if_neg (by omega), if_pos (.inl h)]
theorem mod_next (p x : Int) (hp : 1 ≤ p) : (x + 1) % p = if x % p + 1 < p then x % p + 1 else 0 := by
  have hd := Int.emod_add_mul_ediv x p
  have h0 := Int.emod_nonneg x (b := p) (by omega)
  have h1 := Int.emod_lt_of_pos x (b := p) (by omega)
  have e2 : (x % p + 1 + p * (x / p)) % p = (x % p + 1) % p := Int.add_mul_emod_self_left _ _ _
  rw [show x % p + 1 + p * (x / p) = x + 1 by omega] at e2
  rw [e2]
  split
  · exact Int.emod_eq_of_lt (by omega) (by omega)
  · rw [show x % p + 1 = p by omega]; exact Int.emod_self
theorem preW_step (p o : Int) (C t : Nat) (hp : 1 ≤ p) (hC : (C : Int) ≤ p) : preW p o C (t + 1) = lvW p o C t - 1 := by
  have hm := mod_next p ((t : Int) - o) hp
  have hx : ((t + 1 : Nat) : Int) - o = ((t : Int) - o) + 1 := by omega
  have h0 := Int.emod_nonneg ((t : Int) - o) (b := p) (by omega)
  have h1 := Int.emod_lt_of_pos ((t : Int) - o) (b := p) (by omega)
  by_cases h : o ≤ (t : Int)
  · rw [lvW_ge p o C t h]
    unfold preW
    rw [hx, hm]
    generalize ((t : Int) - o) % p = r at *
    by_cases hr : r + 1 < p
    · rw [if_pos hr, if_neg (by omega)]; omega
    · rw [if_neg hr, if_pos (.inr rfl)]; omega
  · rw [lvW_lt p o C t (by omega)]
    unfold preW
    by_cases h2 : ((t + 1 : Nat) : Int) < o
    · rw [if_pos (.inl h2)]
    · have hz : (((t + 1 : Nat) : Int) - o) % p = 0 := by rw [show ((t + 1 : Nat) : Int) - o = 0 by omega]; simp
      rw [if_pos (.inr hz)]
theorem lvW_bit (p o : Int) (C high ticks t : Nat) (hp : 1 ≤ p) (hC : C = min high ticks) (ht : t < ticks) (ho : 0 ≤ o) : bitW p o high t = if 0 < lvW p o C t then 49 else 48 := by
  have h0 := Int.emod_nonneg ((t : Int) - o) (b := p) (by omega)
  unfold bitW
  by_cases h : o ≤ (t : Int)
  · rw [lvW_ge p o C t h]
    have hle : ((t : Int) - o) % p ≤ (t : Int) - o := by
      have := Int.emod_add_mul_ediv ((t : Int) - o) p
      have hq : 0 ≤ ((t : Int) - o) / p := Int.ediv_nonneg (by omega) (by omega)
      have := Int.mul_nonneg (show (0 : Int) ≤ p by omega) hq
      omega
    generalize ((t : Int) - o) % p = r at *
    by_cases hr : r < (high : Int)
    · rw [if_pos ⟨h, hr⟩, if_pos (by omega)]
    · rw [if_neg (by omega), if_neg (by omega)]
  · rw [lvW_lt p o C t (by omega), if_neg (by omega)]; rfl
theorem edge_iff (p o : Int) (t : Nat) (hp : 1 ≤ p) (ho : 0 ≤ o) : o + befZ p o (t : Int) * p = (t : Int) ↔ o ≤ (t : Int) ∧ ((t : Int) - o) % p = 0 := by
  obtain ⟨b0, b1, b2, b3⟩ := befZ_bd p o (t : Int) hp (by omega) ho
  constructor
  · intro h
    have hb : 0 ≤ befZ p o (t : Int) * p := Int.mul_nonneg b0 (by omega)
    refine ⟨by omega, ?_⟩
    rw [show (t : Int) - o = befZ p o (t : Int) * p by omega]
    exact Int.mul_emod_left _ _
  · rintro ⟨h1, h2⟩
    by_cases hz : (t : Int) ≤ o
    · rw [befZ_le p o _ hz]; omega
    · rw [befZ_gt p o _ hz] at *
      have hd := Int.emod_add_mul_ediv ((t : Int) - o) p
      rw [h2] at hd
      generalize ((t : Int) - o) / p = d at hd
      have hdp : ((t : Int) - o - 1) / p = d - 1 := by
        rw [show (t : Int) - o - 1 = (p - 1) + p * (d - 1) by rw [Int.mul_sub]; omega, Int.add_mul_ediv_left _ _ (by omega), Int.ediv_eq_zero_of_lt (by omega) (by omega)]; omega
      rw [hdp, show d - 1 + 1 = d by omega, Int.mul_comm]; omega
end Go.Proofs.Ytkfakoodejpjmaa
