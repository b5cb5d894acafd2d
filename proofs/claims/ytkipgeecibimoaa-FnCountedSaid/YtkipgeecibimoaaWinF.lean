/- Levels that a window decides: filters by a rule, shots, and times without an up. Plain mathematics. -/
import Derived.Test.YtkipgeecibimoaaWinM
import Derived.Test.YtkipgeecibimoaaLvMath
namespace Go.Proofs.Ytkipgeecibimoaa
set_option linter.unusedVariables false

/-- the level that a rule has behind k ticks -/
def filt (dec : Nat → Bool → Bool) (m : Nat → Bool) (T : Nat) : Nat → Bool
  | 0 => false
  | k + 1 => dec (lastC m T (k + 1)) (filt dec m T k)
/-- shots: which ticks count, as far as k -/
def shM (up : Nat → Bool) (again : Bool) (T : Nat) : Nat → Nat → Bool
  | 0, _ => false
  | k + 1, i => if i = k then up k && (again || restC (shM up again T k) T k == 0) else shM up again T k i
def shB (up : Nat → Bool) (again : Bool) (T i : Nat) : Bool := shM up again T (i + 1) i
theorem shM_eq (up : Nat → Bool) (again : Bool) (T : Nat) : ∀ k i, i < k → shM up again T k i = shB up again T i := by
  intro k
  induction k with
  | zero => intro i h; omega
  | succ k ih =>
    intro i h
    by_cases he : i = k
    · subst he; rfl
    · rw [shM, if_neg he, ih i (by omega)]
theorem lastC_congr {m m' : Nat → Bool} {T k : Nat} (h : ∀ i, i < k → m i = m' i) : lastC m T k = lastC m' T k := by
  unfold lastC
  exact cntN_congr _ _ _ _ (fun i h1 h2 => h i (by omega))
theorem restC_congr {m m' : Nat → Bool} {T k : Nat} (hT : 1 ≤ T) (h : ∀ i, i < k → m i = m' i) : restC m T k = restC m' T k := by
  rw [restC_eq m T k hT, restC_eq m' T k hT]
  exact cntN_congr _ _ _ _ (fun i h1 h2 => h i (by omega))
theorem shB_eq (up : Nat → Bool) (again : Bool) (T k : Nat) (hT : 1 ≤ T) : shB up again T k = (up k && (again || restC (shB up again T) T k == 0)) := by
  unfold shB
  rw [shM, if_pos rfl, restC_congr hT (fun i hi => shM_eq up again T k i hi)]
  rfl
/-- how long a shot still lasts ahead of k -/
def LeftB (sh : Nat → Bool) (T k l : Nat) : Prop := ∀ j, j < l ↔ ∃ i, i < k ∧ sh i = true ∧ k + j < i + T
theorem LeftB.start (sh : Nat → Bool) (T : Nat) : LeftB sh T 0 0 := fun j => ⟨fun h => by omega, fun ⟨i, h, _⟩ => by omega⟩
theorem LeftB.le {sh : Nat → Bool} {T k l : Nat} (h : LeftB sh T k l) : l ≤ T := by
  rcases Nat.lt_or_ge T l with h1 | h1
  · obtain ⟨i, hi, _, h2⟩ := (h T).1 h1; omega
  · exact h1
theorem LeftB.rest {sh : Nat → Bool} {T k l : Nat} (h : LeftB sh T k l) (hT : 1 ≤ T) : (restC sh T k == 0) = (l == 0) := by
  rw [restC_eq sh T k hT]
  have e : cntN sh (k + 1 - T) (min k (T - 1)) = 0 ↔ l = 0 := by
    rw [cntN_zero]
    constructor
    · intro h0
      rcases Nat.eq_zero_or_pos l with h1 | h1
      · exact h1
      · obtain ⟨i, hi, hs, h2⟩ := (h 0).1 h1
        rw [h0 i (by omega) (by omega)] at hs; cases hs
    · intro h0 i h1 h2
      cases hs : sh i with
      | false => rfl
      | true =>
        have := (h 0).2 ⟨i, by omega, hs, by omega⟩
        omega
  generalize cntN sh (k + 1 - T) (min k (T - 1)) = c at e ⊢
  by_cases hl : l = 0
  · rw [e.2 hl, hl]
  · have : ¬ c = 0 := fun q => hl (e.1 q)
    rw [beq_eq_false_iff_ne.2 this, beq_eq_false_iff_ne.2 hl]
/-- behind the tick k -/
theorem LeftB.step {sh : Nat → Bool} {T k l : Nat} (h : LeftB sh T k l) (hT : 1 ≤ T) : LeftB sh T (k + 1) ((if sh k then T else l) - 1) ∧ decide (0 < lastC sh T (k + 1)) = decide (0 < (if sh k then T else l)) := by
  have hle := h.le
  refine ⟨fun j => ?_, ?_⟩
  · constructor
    · intro hj
      cases hs : sh k with
      | true => rw [hs] at hj; simp only [if_true] at hj; exact ⟨k, by omega, hs, by omega⟩
      | false =>
        rw [hs] at hj; simp only [Bool.false_eq_true, if_false] at hj
        obtain ⟨i, hi, h1, h2⟩ := (h (j + 1)).1 (by omega)
        exact ⟨i, by omega, h1, by omega⟩
    · rintro ⟨i, hi, h1, h2⟩
      cases hs : sh k with
      | true => simp; omega
      | false =>
        simp
        have hne : i ≠ k := fun e => by subst e; rw [h1] at hs; cases hs
        have := (h (j + 1)).2 ⟨i, by omega, h1, by omega⟩
        omega
  · have e : lastC sh T (k + 1) = 0 ↔ (if sh k then T else l) = 0 := by
      unfold lastC
      rw [cntN_zero]
      constructor
      · intro h0
        cases hs : sh k with
        | true => rw [h0 k (by omega) (by omega)] at hs; cases hs
        | false =>
          simp
          rcases Nat.eq_zero_or_pos l with h1 | h1
          · exact h1
          · obtain ⟨i, hi, hs2, h2⟩ := (h 0).1 h1
            rw [h0 i (by omega) (by omega)] at hs2; cases hs2
      · intro h0 i h1 h2
        cases hs : sh k with
        | true => rw [hs] at h0; simp at h0; omega
        | false =>
          rw [hs] at h0; simp at h0
          cases hs2 : sh i with
          | false => rfl
          | true =>
            have hne : i ≠ k := fun e => by subst e; rw [hs2] at hs; cases hs
            have := (h 0).2 ⟨i, by omega, hs2, by omega⟩
            omega
    by_cases h0 : (if sh k then T else l) = 0
    · rw [e.2 h0, h0]
    · have h1 : ¬ lastC sh T (k + 1) = 0 := fun q => h0 (e.1 q)
      rw [decide_eq_true (show 0 < lastC sh T (k + 1) by omega), decide_eq_true (show 0 < (if sh k then T else l) by omega)]
/-- how long there has been no up, behind k ticks -/
def quietN (up : Nat → Bool) : Nat → Nat
  | 0 => 0
  | k + 1 => if up k then 0 else quietN up k + 1
theorem quietN_le (up : Nat → Bool) (k : Nat) : quietN up k ≤ k := by
  induction k with
  | zero => exact Nat.le_refl _
  | succ k ih => simp only [quietN]; split <;> omega
theorem quiet_ge (up : Nat → Bool) (T k : Nat) : T ≤ quietN up k ↔ T ≤ k ∧ ∀ i, i < k → k ≤ i + T → up i = false := by
  induction k generalizing T with
  | zero =>
    simp only [quietN]
    exact ⟨fun h => ⟨h, fun i h => by omega⟩, fun h => h.1⟩
  | succ k ih =>
    simp only [quietN]
    cases hu : up k with
    | true =>
      simp only [if_true]
      constructor
      · intro h; obtain rfl : T = 0 := by omega
        exact ⟨by omega, fun i h1 h2 => by omega⟩
      · rintro ⟨h1, h2⟩
        rcases Nat.eq_zero_or_pos T with h3 | h3
        · omega
        · rw [h2 k (by omega) (by omega)] at hu; cases hu
    | false =>
      simp only [Bool.false_eq_true, if_false]
      rcases Nat.eq_zero_or_pos T with h3 | h3
      · subst h3
        exact ⟨fun _ => ⟨by omega, fun i h1 h2 => by omega⟩, fun _ => by omega⟩
      · obtain ⟨t, rfl⟩ : ∃ t, T = t + 1 := ⟨T - 1, by omega⟩
        have := ih t
        constructor
        · intro h
          obtain ⟨h1, h2⟩ := this.1 (by omega)
          refine ⟨by omega, fun i h4 h5 => ?_⟩
          by_cases he : i = k
          · subst he; exact hu
          · exact h2 i (by omega) (by omega)
        · rintro ⟨h1, h2⟩
          have := this.2 ⟨by omega, fun i h4 h5 => h2 i (by omega) (by omega)⟩
          omega
theorem quiet_last (up : Nat → Bool) (T k : Nat) (hT : 1 ≤ T) (hk : T ≤ k) : (lastC up T k == 0) = decide (T ≤ quietN up k) := by
  have e : lastC up T k = 0 ↔ T ≤ quietN up k := by
    unfold lastC
    rw [cntN_zero, quiet_ge]
    exact ⟨fun h => ⟨hk, fun i h1 h2 => h i (by omega) (by omega)⟩, fun h i h1 h2 => h.2 i (by omega) (by omega)⟩
  by_cases h : T ≤ quietN up k
  · rw [e.2 h, decide_eq_true h]; rfl
  · have h1 : ¬ lastC up T k = 0 := fun q => h (e.1 q)
    rw [decide_eq_false h]; simp [h1]
/-- the first of the ticks without an up -/
theorem quiet_first (up : Nat → Bool) (T k : Nat) (hT : 1 ≤ T) : (quietN up (k + 1) == T) = (decide (T ≤ quietN up (k + 1)) && !decide (T ≤ quietN up k)) := by
  obtain ⟨q, hq⟩ : ∃ q, quietN up (k + 1) = q := ⟨_, rfl⟩
  obtain ⟨p, hp⟩ : ∃ p, quietN up k = p := ⟨_, rfl⟩
  have h : q = 0 ∨ q = p + 1 := by
    rw [← hq, ← hp, quietN]
    split
    · exact .inl rfl
    · exact .inr rfl
  rw [hq, hp]
  rcases h with rfl | rfl
  · have h0 : ¬ (0 : Nat) = T := by omega
    have h1 : ¬ T ≤ 0 := by omega
    simp [h0, h1]
  · by_cases h : p + 1 = T
    · simp [h]; omega
    · have : (p + 1 == T) = false := by simp [h]
      rw [this]
      by_cases h2 : T ≤ p
      · simp [h2]
      · have : ¬ T ≤ p + 1 := by omega
        simp [this]
/-- a wave that a rule makes, and the rules -/
def fltL (dec : Nat → Bool → Bool) (T : Nat) (s : ByteArray) : Nat → Bool := fun k => filt dec (bit s) T (k + 1)
def decDeb (T : Nat) (mk : Nat) (on : Bool) : Bool := decide (mk = T) || on && decide (0 < mk)
def decStr (mk : Nat) (on : Bool) : Bool := decide (0 < mk)
def decMaj (T : Nat) (mk : Nat) (on : Bool) : Bool := decide (T < 2 * mk)
end Go.Proofs.Ytkipgeecibimoaa
