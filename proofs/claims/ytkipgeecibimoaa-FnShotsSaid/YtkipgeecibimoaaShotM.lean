/- Shots against ticks: plain mathematics. -/
import Derived.Test.YtkipgeecibimoaaTOLaw
import Derived.Test.YtkipgeecibimoaaFiltSh
namespace Go.Proofs.Ytkipgeecibimoaa
set_option linter.unusedVariables false
set_option linter.unusedSimpArgs false

/-- does one of the last j ticks up to k go up -/
def recB (u : Nat → Bool) (k j : Nat) : Bool := (List.range j).any (fun i => u (k - i))
theorem recB_zero (u : Nat → Bool) (k : Nat) : recB u k 0 = false := rfl
theorem recB_succ (u : Nat → Bool) (k j : Nat) : recB u k (j + 1) = (recB u k j || u (k - j)) := by simp [recB, List.range_succ]
theorem recB_full (u : Nat → Bool) (T k : Nat) : recB u k (min T (k + 1)) = decide (0 < lastC u T (k + 1)) := by
  have h := @cntN_zero u (k + 1 - T) (min (k + 1) T)
  rw [Bool.eq_iff_iff, decide_eq_true_iff, show lastC u T (k + 1) = cntN u (k + 1 - T) (min (k + 1) T) from rfl]
  unfold recB
  rw [List.any_eq_true]
  constructor
  · rintro ⟨i, hi, hu⟩
    rw [List.mem_range] at hi
    rcases Nat.eq_zero_or_pos (cntN u (k + 1 - T) (min (k + 1) T)) with h0 | h0
    · rw [h.1 h0 (k - i) (by omega) (by omega)] at hu; cases hu
    · exact h0
  · intro hp
    have hn : ¬ ∀ i, k + 1 - T ≤ i → i < k + 1 - T + min (k + 1) T → u i = false := fun q => by have := h.2 q; omega
    obtain ⟨i, hi⟩ := Classical.not_forall.1 hn
    obtain ⟨h1, hi⟩ := Classical.not_forall.1 hi
    obtain ⟨h2, h3⟩ := Classical.not_forall.1 hi
    refine ⟨k - i, List.mem_range.2 (by omega), ?_⟩
    rw [show k - (k - i) = i by omega]
    simpa using h3
theorem shB_again (u : Nat → Bool) (T k : Nat) (hT : 1 ≤ T) : shB u true T k = u k := by rw [shB_eq u true T k hT]; simp
theorem shotL_again (T : Nat) (s : ByteArray) (k : Nat) (hT : 1 ≤ T) : recB (upB s) k (min T (k + 1)) = shotL true T s k := by
  rw [recB_full]
  unfold shotL
  rw [lastC_congr (fun i _ => (shB_again (upB s) T i hT).symm)]
theorem toK_prefix (s : ByteArray) (T k : Nat) : ∀ n, k ≤ n → ∃ r, toK s T n = toK s T k ++ r := by
  intro n
  induction n with
  | zero => intro h; obtain rfl : k = 0 := by omega
            exact ⟨[], by simp⟩
  | succ n ih =>
    intro h
    by_cases e : k = n + 1
    · subst e; exact ⟨[], by simp⟩
    · obtain ⟨r, hr⟩ := ih (by omega)
      rw [toK]
      split
      · exact ⟨r ++ [(n : Int)], by rw [hr]; simp⟩
      · exact ⟨r, hr⟩
theorem toK_hit (s : ByteArray) (T k n : Nat) (hk : k < n) (h : quietN (upB s) (k + 1) = T) : (toK s T (k + 1)).length = (toK s T k).length + 1 ∧ (toK s T k).length < (toK s T n).length ∧ (toK s T n).getD (toK s T k).length 0 = (k : Int) := by
  obtain ⟨r, hr⟩ := toK_prefix s T (k + 1) n hk
  have e : toK s T (k + 1) = toK s T k ++ [(k : Int)] := by rw [toK, if_pos h]
  rw [e] at hr
  refine ⟨by rw [e]; simp, by rw [hr]; simp, ?_⟩
  rw [hr, List.getD_eq_getElem?_getD]; simp
theorem toK_miss (s : ByteArray) (T k : Nat) (h : ¬ quietN (upB s) (k + 1) = T) : toK s T (k + 1) = toK s T k := by rw [toK, if_neg h]
end Go.Proofs.Ytkipgeecibimoaa
