/- A window that slides: how many of the last ticks are marked. Plain mathematics. -/
import Derived.Test.YtkipgeecibimoaaWords
namespace Go.Proofs.Ytkipgeecibimoaa

/-- how many of the marks a, a + 1, .., a + n - 1 are there -/
def cntN (m : Nat → Bool) (a : Nat) : Nat → Nat
  | 0 => 0
  | n + 1 => cntN m a n + (if m (a + n) then 1 else 0)
/-- how many of the last T marks ahead of k -/
def lastC (m : Nat → Bool) (T k : Nat) : Nat := cntN m (k - T) (min k T)
/-- those without the oldest one, of a full window -/
def restC (m : Nat → Bool) (T k : Nat) : Nat := lastC m T k - (if T ≤ k ∧ m (k - T) = true then 1 else 0)
theorem cntN_le (m : Nat → Bool) (a n : Nat) : cntN m a n ≤ n := by
  induction n with
  | zero => exact Nat.le_refl _
  | succ n ih => simp only [cntN]; split <;> omega
theorem lastC_le (m : Nat → Bool) (T k : Nat) : lastC m T k ≤ T := by
  have := cntN_le m (k - T) (min k T)
  unfold lastC; omega
theorem cntN_front (m : Nat → Bool) (a n : Nat) : cntN m a (n + 1) = (if m a then 1 else 0) + cntN m (a + 1) n := by
  induction n generalizing a with
  | zero => simp [cntN]
  | succ n ih =>
    rw [cntN, ih a, cntN, show a + 1 + n = a + (n + 1) by omega]
    omega
theorem cntN_congr (m m' : Nat → Bool) (a n : Nat) (h : ∀ i, a ≤ i → i < a + n → m i = m' i) : cntN m a n = cntN m' a n := by
  induction n with
  | zero => rfl
  | succ n ih => rw [cntN, cntN, ih (fun i h1 h2 => h i h1 (by omega)), h (a + n) (by omega) (by omega)]
theorem cntN_zero {m : Nat → Bool} {a n : Nat} : cntN m a n = 0 ↔ ∀ i, a ≤ i → i < a + n → m i = false := by
  induction n with
  | zero => simp [cntN]; intro i h1 h2; omega
  | succ n ih =>
    simp only [cntN]
    constructor
    · intro h i h1 h2
      have h0 : cntN m a n = 0 := by omega
      by_cases he : i = a + n
      · subst he
        cases hm : m (a + n) with
        | false => rfl
        | true => rw [hm] at h; simp at h
      · exact ih.1 h0 i h1 (by omega)
    · intro h
      rw [ih.2 (fun i h1 h2 => h i h1 (by omega)), h (a + n) (by omega) (by omega)]
      rfl
theorem restC_add (m : Nat → Bool) (T k : Nat) (hT : 1 ≤ T) : restC m T k + (if T ≤ k ∧ m (k - T) = true then 1 else 0) = lastC m T k := by
  unfold restC
  by_cases h : T ≤ k ∧ m (k - T) = true
  · rw [if_pos h]
    have : 1 ≤ lastC m T k := by
      obtain ⟨t, rfl⟩ : ∃ t, T = t + 1 := ⟨T - 1, by omega⟩
      unfold lastC
      rw [show min k (t + 1) = t + 1 by omega, cntN_front, if_pos h.2]; omega
    omega
  · rw [if_neg h]; rfl
theorem restC_eq (m : Nat → Bool) (T k : Nat) (hT : 1 ≤ T) : restC m T k = cntN m (k + 1 - T) (min k (T - 1)) := by
  have h := restC_add m T k hT
  obtain ⟨t, rfl⟩ : ∃ t, T = t + 1 := ⟨T - 1, by omega⟩
  by_cases hk : t + 1 ≤ k
  · unfold lastC at h
    rw [show min k (t + 1) = t + 1 by omega, cntN_front, show k - (t + 1) + 1 = k + 1 - (t + 1) by omega] at h
    rw [show min k (t + 1 - 1) = t by omega]
    by_cases hm : m (k - (t + 1)) = true
    · rw [if_pos ⟨hk, hm⟩, if_pos hm] at h; omega
    · rw [if_neg (fun q => hm q.2), if_neg hm] at h; omega
  · rw [if_neg (fun q => hk q.1)] at h
    rw [Nat.add_zero] at h
    rw [h]; unfold lastC
    rw [show k - (t + 1) = 0 by omega, show k + 1 - (t + 1) = 0 by omega, show min k (t + 1) = k by omega, show min k (t + 1 - 1) = k by omega]
theorem lastC_succ (m : Nat → Bool) (T k : Nat) (hT : 1 ≤ T) : lastC m T (k + 1) = restC m T k + (if m k then 1 else 0) := by
  rw [restC_eq m T k hT]
  obtain ⟨t, rfl⟩ : ∃ t, T = t + 1 := ⟨T - 1, by omega⟩
  unfold lastC
  by_cases hk : t + 1 ≤ k
  · rw [show min (k + 1) (t + 1) = t + 1 by omega, show min k (t + 1 - 1) = t by omega, cntN, show k + 1 - (t + 1) + t = k by omega]
  · rw [show k + 1 - (t + 1) = 0 by omega, show min (k + 1) (t + 1) = k + 1 by omega, show min k (t + 1 - 1) = k by omega, cntN, show 0 + k = k by omega]

/-- a row of T places in which the place of a tick is that of its remainder, ahead of the tick k -/
def RingB (T k : Nat) (m : Nat → Bool) (arr : Nat → Bool) : Prop := (∀ i, i < k → k ≤ i + T → arr (i % T) = m i) ∧ (∀ j, k ≤ j → j < T → arr j = false)
theorem RingB.start (T : Nat) (m : Nat → Bool) : RingB T 0 m (fun _ => false) := ⟨fun i h => by omega, fun _ _ _ => rfl⟩
theorem RingB.old {T k : Nat} {m arr : Nat → Bool} (h : RingB T k m arr) (hT : 1 ≤ T) : arr (k % T) = (decide (T ≤ k) && m (k - T)) := by
  by_cases hk : T ≤ k
  · have e := h.1 (k - T) (by omega) (by omega)
    have e2 : (k - T) % T = k % T := by
      have := Nat.add_mod_right (k - T) T
      rw [show k - T + T = k by omega] at this
      exact this.symm
    rw [e2] at e
    rw [e, decide_eq_true hk]; rfl
  · rw [Nat.mod_eq_of_lt (by omega), h.2 k (Nat.le_refl _) (by omega), decide_eq_false hk]; rfl
theorem RingB.step {T k : Nat} {m arr : Nat → Bool} (h : RingB T k m arr) (hT : 1 ≤ T) : RingB T (k + 1) m (fun j => if j = k % T then m k else arr j) := by
  refine ⟨fun i hi hk => ?_, fun j hj hT2 => ?_⟩
  · by_cases he : i = k
    · subst he; simp
    · have hne : i % T ≠ k % T := fun e => by
        have h0 := Nat.sub_mod_eq_zero_of_mod_eq e.symm
        rw [Nat.mod_eq_of_lt (by omega)] at h0
        omega
      simp only [if_neg hne]
      exact h.1 i (by omega) (by omega)
  · have hk : k % T = k := Nat.mod_eq_of_lt (by omega)
    simp only [hk, show j ≠ k by omega, if_false]
    exact h.2 j (by omega) hT2
theorem ring_next (k T : Nat) : (k % T + 1) % T = (k + 1) % T := Nat.mod_add_mod k T 1
end Go.Proofs.Ytkipgeecibimoaa
