/- Levels that a window decides: filters by a rule, shots, and times without an up. Plain mathematics. -/
import Derived.Test.YtafecdmcbpnniabDoorWords
import Derived.Test.YtafecdmcbpnniabDoorLvMath
/- A window that slides: how many of the last ticks are marked. Plain mathematics. -/
namespace Go.Proofs.YtafecdmcbpnniabDoor

/-- how many of the marks a, a + 1, .., a + n - 1 are there -/
def cntN (m : Nat → Bool) (a : Nat) : Nat → Nat
  | 0 => 0
  | n + 1 => cntN m a n + (if m (a + n) then 1 else 0)
/-- how many of the last T marks ahead of k -/
def lastC (m : Nat → Bool) (T k : Nat) : Nat := cntN m (k - T) (min k T)
/-- those without the oldest one, of a full window -/
def restC (m : Nat → Bool) (T k : Nat) : Nat := lastC m T k - (if T ≤ k ∧ m (k - T) = true then 1 else 0)
theorem cntN_le (m : Nat → Bool) (a n : Nat) : cntN m a n ≤ n := by
  induction n with
  | zero => exact Nat.le_refl _
  | succ n ih => simp only [cntN]; split <;> omega
theorem lastC_le (m : Nat → Bool) (T k : Nat) : lastC m T k ≤ T := by
  have := cntN_le m (k - T) (min k T)
  unfold lastC; omega
theorem cntN_front (m : Nat → Bool) (a n : Nat) : cntN m a (n + 1) = (if m a then 1 else 0) + cntN m (a + 1) n := by
  induction n generalizing a with
  | zero => simp [cntN]
  | succ n ih =>
    rw [cntN, ih a, cntN, show a + 1 + n = a + (n + 1) by omega]
    omega
theorem cntN_congr (m m' : Nat → Bool) (a n : Nat) (h : ∀ i, a ≤ i → i < a + n → m i = m' i) : cntN m a n = cntN m' a n := by
  induction n with
  | zero => rfl
  | succ n ih => rw [cntN, cntN, ih (fun i h1 h2 => h i h1 (by omega)), h (a + n) (by omega) (by omega)]
theorem cntN_zero {m : Nat → Bool} {a n : Nat} : cntN m a n = 0 ↔ ∀ i, a ≤ i → i < a + n → m i = false := by
  induction n with
  | zero => simp [cntN]; intro i h1 h2; omega
  | succ n ih =>
    simp only [cntN]
    constructor
    · intro h i h1 h2
      have h0 : cntN m a n = 0 := by omega
      by_cases he : i = a + n
      · subst he
        cases hm : m (a + n) with
        | false => rfl
        | true => rw [hm] at h; simp at h
      · exact ih.1 h0 i h1 (by omega)
    · intro h
      rw [ih.2 (fun i h1 h2 => h i h1 (by omega)), h (a + n) (by omega) (by omega)]
      rfl
theorem restC_add (m : Nat → Bool) (T k : Nat) (hT : 1 ≤ T) : restC m T k + (if T ≤ k ∧ m (k - T) = true then 1 else 0) = lastC m T k := by
  unfold restC
  by_cases h : T ≤ k ∧ m (k - T) = true
  · rw [if_pos h]
    have : 1 ≤ lastC m T k := by
      obtain ⟨t, rfl⟩ : ∃ t, T = t + 1 := ⟨T - 1, by omega⟩
      unfold lastC
      rw [show min k (t + 1) = t + 1 by omega, cntN_front, if_pos h.2]; omega
    omega
  · rw [if_neg h]; rfl
theorem restC_eq (m : Nat → Bool) (T k : Nat) (hT : 1 ≤ T) : restC m T k = cntN m (k + 1 - T) (min k (T - 1)) := by
  have h := restC_add m T k hT
  obtain ⟨t, rfl⟩ : ∃ t, T = t + 1 := ⟨T - 1, by omega⟩
  by_cases hk : t + 1 ≤ k
  · unfold lastC at h
    rw [show min k (t + 1) = t + 1 by omega, cntN_front, show k - (t + 1) + 1 = k + 1 - (t + 1) by omega] at h
    rw [show min k (t + 1 - 1) = t by omega]
    by_cases hm : m (k - (t + 1)) = true
    · rw [if_pos ⟨hk, hm⟩, if_pos hm] at h; omega
    · rw [if_neg (fun q => hm q.2), if_neg hm] at h; omega
  · rw [if_neg (fun q => hk q.1)] at h
    rw [Nat.add_zero] at h
    rw [h]; unfold lastC
    rw [show k - (t + 1) = 0 by omega, show k + 1 - (t + 1) = 0 by omega, show min k (t + 1) = k by omega, show min k (t + 1 - 1) = k by omega]
theorem lastC_succ (m : Nat → Bool) (T k : Nat) (hT : 1 ≤ T) : lastC m T (k + 1) = restC m T k + (if m k then 1 else 0) := by
  rw [restC_eq m T k hT]
  obtain ⟨t, rfl⟩ : ∃ t, T = t + 1 := ⟨T - 1, by omega⟩
  unfold lastC
  by_cases hk : t + 1 ≤ k
  · rw [show min (k + 1) (t + 1) = t + 1 by omega, show min k (t + 1 - 1) = t by omega, cntN, show k + 1 - (t + 1) + t = k by omega]
  · rw [show k + 1 - (t + 1) = 0 by omega, show min (k + 1) (t + 1) = k + 1 by omega, show min k (t + 1 - 1) = k by omega, cntN, show 0 + k = k by omega]

/-- a row of T places in which the place of a tick is that of its remainder, ahead of the tick k -/
def RingB (T k : Nat) (m : Nat → Bool) (arr : Nat → Bool) : Prop := (∀ i, i < k → k ≤ i + T → arr (i % T) = m i) ∧ (∀ j, k ≤ j → j < T → arr j = false)
theorem RingB.start (T : Nat) (m : Nat → Bool) : RingB T 0 m (fun _ => false) := ⟨fun i h => by omega, fun _ _ _ => rfl⟩
theorem RingB.old {T k : Nat} {m arr : Nat → Bool} (h : RingB T k m arr) (hT : 1 ≤ T) : arr (k % T) = (decide (T ≤ k) && m (k - T)) := by
  by_cases hk : T ≤ k
  · have e := h.1 (k - T) (by omega) (by omega)
    have e2 : (k - T) % T = k % T := by
      have := Nat.add_mod_right (k - T) T
      rw [show k - T + T = k by omega] at this
      exact this.symm
    rw [e2] at e
    rw [e, decide_eq_true hk]; rfl
  · rw [Nat.mod_eq_of_lt (by omega), h.2 k (Nat.le_refl _) (by omega), decide_eq_false hk]; rfl
theorem RingB.step {T k : Nat} {m arr : Nat → Bool} (h : RingB T k m arr) (hT : 1 ≤ T) : RingB T (k + 1) m (fun j => if j = k % T then m k else arr j) := by
  refine ⟨fun i hi hk => ?_, fun j hj hT2 => ?_⟩
  · by_cases he : i = k
    · subst he; simp
    · have hne : i % T ≠ k % T := fun e => by
        have h0 := Nat.sub_mod_eq_zero_of_mod_eq e.symm
        rw [Nat.mod_eq_of_lt (by omega)] at h0
        omega
      simp only [if_neg hne]
      exact h.1 i (by omega) (by omega)
  · have hk : k % T = k := Nat.mod_eq_of_lt (by omega)
    simp only [hk, show j ≠ k by omega, if_false]
    exact h.2 j (by omega) hT2
theorem ring_next (k T : Nat) : (k % T + 1) % T = (k + 1) % T := Nat.mod_add_mod k T 1
end Go.Proofs.YtafecdmcbpnniabDoor
namespace Go.Proofs.YtafecdmcbpnniabDoor
set_option linter.unusedVariables false

/-- the level that a rule has behind k ticks -/
def filt (dec : Nat → Bool → Bool) (m : Nat → Bool) (T : Nat) : Nat → Bool
  | 0 => false
  | k + 1 => dec (lastC m T (k + 1)) (filt dec m T k)
/-- shots: which ticks count, as far as k -/
def shM (up : Nat → Bool) (again : Bool) (T : Nat) : Nat → Nat → Bool
  | 0, _ => false
  | k + 1, i => if i = k then up k && (again || restC (shM up again T k) T k == 0) else shM up again T k i
def shB (up : Nat → Bool) (again : Bool) (T i : Nat) : Bool := shM up again T (i + 1) i
theorem shM_eq (up : Nat → Bool) (again : Bool) (T : Nat) : ∀ k i, i < k → shM up again T k i = shB up again T i := by
  intro k
  induction k with
  | zero => intro i h; omega
  | succ k ih =>
    intro i h
    by_cases he : i = k
    · subst he; rfl
    · rw [shM, if_neg he, ih i (by omega)]
theorem lastC_congr {m m' : Nat → Bool} {T k : Nat} (h : ∀ i, i < k → m i = m' i) : lastC m T k = lastC m' T k := by
  unfold lastC
  exact cntN_congr _ _ _ _ (fun i h1 h2 => h i (by omega))
theorem restC_congr {m m' : Nat → Bool} {T k : Nat} (hT : 1 ≤ T) (h : ∀ i, i < k → m i = m' i) : restC m T k = restC m' T k := by
  rw [restC_eq m T k hT, restC_eq m' T k hT]
  exact cntN_congr _ _ _ _ (fun i h1 h2 => h i (by omega))
theorem shB_eq (up : Nat → Bool) (again : Bool) (T k : Nat) (hT : 1 ≤ T) : shB up again T k = (up k && (again || restC (shB up again T) T k == 0)) := by
  unfold shB
  rw [shM, if_pos rfl, restC_congr hT (fun i hi => shM_eq up again T k i hi)]
  rfl
/-- how long a shot still lasts ahead of k -/
def LeftB (sh : Nat → Bool) (T k l : Nat) : Prop := ∀ j, j < l ↔ ∃ i, i < k ∧ sh i = true ∧ k + j < i + T
theorem LeftB.start (sh : Nat → Bool) (T : Nat) : LeftB sh T 0 0 := fun j => ⟨fun h => by omega, fun ⟨i, h, _⟩ => by omega⟩
theorem LeftB.le {sh : Nat → Bool} {T k l : Nat} (h : LeftB sh T k l) : l ≤ T := by
  rcases Nat.lt_or_ge T l with h1 | h1
  · obtain ⟨i, hi, _, h2⟩ := (h T).1 h1; omega
  · exact h1
theorem LeftB.rest {sh : Nat → Bool} {T k l : Nat} (h : LeftB sh T k l) (hT : 1 ≤ T) : (restC sh T k == 0) = (l == 0) := by
  rw [restC_eq sh T k hT]
  have e : cntN sh (k + 1 - T) (min k (T - 1)) = 0 ↔ l = 0 := by
    rw [cntN_zero]
    constructor
    · intro h0
      rcases Nat.eq_zero_or_pos l with h1 | h1
      · exact h1
      · obtain ⟨i, hi, hs, h2⟩ := (h 0).1 h1
        rw [h0 i (by omega) (by omega)] at hs; cases hs
    · intro h0 i h1 h2
      cases hs : sh i with
      | false => rfl
      | true =>
        have := (h 0).2 ⟨i, by omega, hs, by omega⟩
        omega
  generalize cntN sh (k + 1 - T) (min k (T - 1)) = c at e ⊢
  by_cases hl : l = 0
  · rw [e.2 hl, hl]
  · have : ¬ c = 0 := fun q => hl (e.1 q)
    rw [beq_eq_false_iff_ne.2 this, beq_eq_false_iff_ne.2 hl]
/-- behind the tick k -/
theorem LeftB.step {sh : Nat → Bool} {T k l : Nat} (h : LeftB sh T k l) (hT : 1 ≤ T) : LeftB sh T (k + 1) ((if sh k then T else l) - 1) ∧ decide (0 < lastC sh T (k + 1)) = decide (0 < (if sh k then T else l)) := by
  have hle := h.le
  refine ⟨fun j => ?_, ?_⟩
  · constructor
    · intro hj
      cases hs : sh k with
      | true => rw [hs] at hj; simp only [if_true] at hj; exact ⟨k, by omega, hs, by omega⟩
      | false =>
        rw [hs] at hj; simp only [Bool.false_eq_true, if_false] at hj
        obtain ⟨i, hi, h1, h2⟩ := (h (j + 1)).1 (by omega)
        exact ⟨i, by omega, h1, by omega⟩
    · rintro ⟨i, hi, h1, h2⟩
      cases hs : sh k with
      | true => simp; omega
      | false =>
        simp
        have hne : i ≠ k := fun e => by subst e; rw [h1] at hs; cases hs
        have := (h (j + 1)).2 ⟨i, by omega, h1, by omega⟩
        omega
  · have e : lastC sh T (k + 1) = 0 ↔ (if sh k then T else l) = 0 := by
      unfold lastC
      rw [cntN_zero]
      constructor
      · intro h0
        cases hs : sh k with
        | true => rw [h0 k (by omega) (by omega)] at hs; cases hs
        | false =>
          simp
          rcases Nat.eq_zero_or_pos l with h1 | h1
          · exact h1
          · obtain ⟨i, hi, hs2, h2⟩ := (h 0).1 h1
            rw [h0 i (by omega) (by omega)] at hs2; cases hs2
      · intro h0 i h1 h2
        cases hs : sh k with
        | true => rw [hs] at h0; simp at h0; omega
        | false =>
          rw [hs] at h0; simp at h0
          cases hs2 : sh i with
          | false => rfl
          | true =>
            have hne : i ≠ k := fun e => by subst e; rw [hs2] at hs; cases hs
            have := (h 0).2 ⟨i, by omega, hs2, by omega⟩
            omega
    by_cases h0 : (if sh k then T else l) = 0
    · rw [e.2 h0, h0]
    · have h1 : ¬ lastC sh T (k + 1) = 0 := fun q => h0 (e.1 q)
      rw [decide_eq_true (show 0 < lastC sh T (k + 1) by omega), decide_eq_true (show 0 < (if sh k then T else l) by omega)]
/-- how long there has been no up, behind k ticks -/
def quietN (up : Nat → Bool) : Nat → Nat
  | 0 => 0
  | k + 1 => if up k then 0 else quietN up k + 1
theorem quietN_le (up : Nat → Bool) (k : Nat) : quietN up k ≤ k := by
  induction k with
  | zero => exact Nat.le_refl _
  | succ k ih => simp only [quietN]; split <;> omega
theorem quiet_ge (up : Nat → Bool) (T k : Nat) : T ≤ quietN up k ↔ T ≤ k ∧ ∀ i, i < k → k ≤ i + T → up i = false := by
  induction k generalizing T with
  | zero =>
    simp only [quietN]
    exact ⟨fun h => ⟨h, fun i h => by omega⟩, fun h => h.1⟩
  | succ k ih =>
    simp only [quietN]
    cases hu : up k with
    | true =>
      simp only [if_true]
      constructor
      · intro h; obtain rfl : T = 0 := by omega
        exact ⟨by omega, fun i h1 h2 => by omega⟩
      · rintro ⟨h1, h2⟩
        rcases Nat.eq_zero_or_pos T with h3 | h3
        · omega
        · rw [h2 k (by omega) (by omega)] at hu; cases hu
    | false =>
      simp only [Bool.false_eq_true, if_false]
      rcases Nat.eq_zero_or_pos T with h3 | h3
      · subst h3
        exact ⟨fun _ => ⟨by omega, fun i h1 h2 => by omega⟩, fun _ => by omega⟩
      · obtain ⟨t, rfl⟩ : ∃ t, T = t + 1 := ⟨T - 1, by omega⟩
        have := ih t
        constructor
        · intro h
          obtain ⟨h1, h2⟩ := this.1 (by omega)
          refine ⟨by omega, fun i h4 h5 => ?_⟩
          by_cases he : i = k
          · subst he; exact hu
          · exact h2 i (by omega) (by omega)
        · rintro ⟨h1, h2⟩
          have := this.2 ⟨by omega, fun i h4 h5 => h2 i (by omega) (by omega)⟩
          omega
theorem quiet_last (up : Nat → Bool) (T k : Nat) (hT : 1 ≤ T) (hk : T ≤ k) : (lastC up T k == 0) = decide (T ≤ quietN up k) := by
  have e : lastC up T k = 0 ↔ T ≤ quietN up k := by
    unfold lastC
    rw [cntN_zero, quiet_ge]
    exact ⟨fun h => ⟨hk, fun i h1 h2 => h i (by omega) (by omega)⟩, fun h i h1 h2 => h.2 i (by omega) (by omega)⟩
  by_cases h : T ≤ quietN up k
  · rw [e.2 h, decide_eq_true h]; rfl
  · have h1 : ¬ lastC up T k = 0 := fun q => h (e.1 q)
    rw [decide_eq_false h]; simp [h1]
/-- the first of the ticks without an up -/
theorem quiet_first (up : Nat → Bool) (T k : Nat) (hT : 1 ≤ T) : (quietN up (k + 1) == T) = (decide (T ≤ quietN up (k + 1)) && !decide (T ≤ quietN up k)) := by
  obtain ⟨q, hq⟩ : ∃ q, quietN up (k + 1) = q := ⟨_, rfl⟩
  obtain ⟨p, hp⟩ : ∃ p, quietN up k = p := ⟨_, rfl⟩
  have h : q = 0 ∨ q = p + 1 := by
    rw [← hq, ← hp, quietN]
    split
    · exact .inl rfl
    · exact .inr rfl
  rw [hq, hp]
  rcases h with rfl | rfl
  · have h0 : ¬ (0 : Nat) = T := by omega
    have h1 : ¬ T ≤ 0 := by omega
    simp [h0, h1]
  · by_cases h : p + 1 = T
    · simp [h]; omega
    · have : (p + 1 == T) = false := by simp [h]
      rw [this]
      by_cases h2 : T ≤ p
      · simp [h2]
      · have : ¬ T ≤ p + 1 := by omega
        simp [this]
/-- a wave that a rule makes, and the rules -/
def fltL (dec : Nat → Bool → Bool) (T : Nat) (s : ByteArray) : Nat → Bool := fun k => filt dec (bit s) T (k + 1)
def decDeb (T : Nat) (mk : Nat) (on : Bool) : Bool := decide (mk = T) || on && decide (0 < mk)
def decStr (mk : Nat) (on : Bool) : Bool := decide (0 < mk)
def decMaj (T : Nat) (mk : Nat) (on : Bool) : Bool := decide (T < 2 * mk)
end Go.Proofs.YtafecdmcbpnniabDoor
