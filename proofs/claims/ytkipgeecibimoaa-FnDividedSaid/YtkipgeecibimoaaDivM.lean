/- A divided wave and a toggled one, tick by tick: plain mathematics. -/
import Derived.Test.YtkipgeecibimoaaUpsB
import Derived.Test.YtkipgeecibimoaaDvSpec
namespace Go.Proofs.Ytkipgeecibimoaa
open Go.RowKit
set_option linter.unusedVariables false
set_option linter.unusedSimpArgs false

theorem getD_bit (s : ByteArray) (hw : waveB s.data.toList = true) (k : Nat) (h : k < s.size) : s.data.toList.getD k 0 = lvU (bit s k) := by
  rw [get_toList s k h]; exact wave_u hw k h
theorem up_iff (s : ByteArray) (hw : waveB s.data.toList = true) (i : Nat) (h : i < s.size) : upAt s.data.toList i ↔ upB s i = true := by
  unfold upAt upB
  rw [getD_bit s hw i h]
  rcases Nat.eq_zero_or_pos i with rfl | hi
  · cases bit s 0 <;> simp [lvU]
  · rw [getD_bit s hw (i - 1) (by omega)]
    have h0 : ¬ i = 0 := by omega
    cases bit s i <;> cases bit s (i - 1) <;> simp [lvU, hi, h0]
theorem dv_eq (m gh : Nat) (s : ByteArray) (hw : waveB s.data.toList = true) : ∀ i, i ≤ s.size → (dvF m gh s.data.toList i).2 = cntN (upB s) 0 i ∧ (dvF m gh s.data.toList i).1 = if 0 < cntN (upB s) 0 i ∧ (cntN (upB s) 0 i - 1) % m < gh then 49 else 48 := by
  intro i
  induction i with
  | zero => intro _; exact ⟨rfl, by simp [dvF, cntN]⟩
  | succ i ih =>
    intro hi
    obtain ⟨h1, h2⟩ := ih (by omega)
    rw [cntN_step]
    by_cases hu : upB s i = true
    · have hua := (up_iff s hw i (by omega)).2 hu
      unfold dvF
      rw [if_pos hua, h1, hu]
      refine ⟨rfl, ?_⟩
      simp only [if_true, Nat.add_sub_cancel]
      by_cases hg : cntN (upB s) 0 i % m < gh
      · rw [if_pos hg, if_pos ⟨by omega, hg⟩]
      · rw [if_neg hg, if_neg (fun q => hg q.2)]
    · have hua : ¬ upAt s.data.toList i := fun q => hu ((up_iff s hw i (by omega)).1 q)
      unfold dvF
      rw [if_neg hua, h1]
      have hf : upB s i = false := by simpa using hu
      rw [hf]
      simp only [Bool.false_eq_true, if_false, Nat.add_zero]
      exact ⟨trivial, h2⟩
/-- does the level change at a tick -/
def edB (s : ByteArray) (i : Nat) : Bool := if i = 0 then bit s 0 else bit s i != bit s (i - 1)
theorem tog_prev (m : Nat) (s : ByteArray) (i : Nat) : (togF m s.data.toList i).2.1 = if i = 0 then 48 else s.data.toList.getD (i - 1) 0 := by
  induction i with
  | zero => rfl
  | succ i ih =>
    rw [if_neg (Nat.succ_ne_zero i), Nat.add_sub_cancel]
    unfold togF
    split <;> rfl
theorem ed_iff (m : Nat) (s : ByteArray) (hw : waveB s.data.toList = true) (i : Nat) (h : i < s.size) : (s.data.toList.getD i 0 = (togF m s.data.toList i).2.1) ↔ edB s i = false := by
  rw [tog_prev, getD_bit s hw i h]
  unfold edB
  by_cases hi : i = 0
  · subst hi
    cases bit s 0 <;> simp [lvU]
  · rw [if_neg hi, if_neg hi, getD_bit s hw (i - 1) (by omega)]
    cases bit s i <;> cases bit s (i - 1) <;> simp [lvU]
theorem tog_lev (m : Nat) (l : List UInt8) (i : Nat) : (togF m l i).1 = 48 ∨ (togF m l i).1 = 49 := by
  induction i with
  | zero => exact .inl rfl
  | succ i ih =>
    unfold togF
    split
    · exact ih
    · dsimp only
      split
      · rcases ih with h | h <;> rw [h]
        · exact .inr (by decide)
        · exact .inl (by decide)
      · exact ih
theorem tog_step (m : Nat) (s : ByteArray) (hw : waveB s.data.toList = true) (i : Nat) (h : i < s.size) :
    (togF m s.data.toList (i + 1)).2.2 = (togF m s.data.toList i).2.2 + (if edB s i then 1 else 0) ∧
    ((togF m s.data.toList (i + 1)).1 = (togF m s.data.toList i).1 ↔ ¬ (edB s i = true ∧ (togF m s.data.toList i).2.2 % m = 0)) := by
  have he := ed_iff m s hw i h
  have hl := tog_lev m s.data.toList i
  cases hb : edB s i with
  | false =>
    have := he.2 hb
    rw [show togF m s.data.toList (i + 1) = ((togF m s.data.toList i).1, s.data.toList.getD i 0, (togF m s.data.toList i).2.2) from by rw [togF, if_pos this]]
    simp
  | true =>
    have hne : ¬ s.data.toList.getD i 0 = (togF m s.data.toList i).2.1 := fun q => by have := he.1 q; rw [hb] at this; cases this
    rw [show togF m s.data.toList (i + 1) = (if (togF m s.data.toList i).2.2 % m = 0 then 97 - (togF m s.data.toList i).1 else (togF m s.data.toList i).1, s.data.toList.getD i 0, (togF m s.data.toList i).2.2 + 1) from by rw [togF, if_neg hne]]
    refine ⟨by simp, ?_⟩
    dsimp only
    by_cases hz : (togF m s.data.toList i).2.2 % m = 0
    · rw [if_pos hz]
      refine ⟨fun q => ?_, fun q => absurd ⟨rfl, hz⟩ q⟩
      rcases hl with h | h <;> rw [h] at q <;> exact absurd q (by decide)
    · rw [if_neg hz]
      exact ⟨fun _ q => hz q.2, fun _ => rfl⟩
/-- how often the toggled wave has changed, where the wave has so often -/
def chC (m E : Nat) : Nat := (E + m - 1) / m
theorem chC_step (m E : Nat) (h1 : 1 ≤ m) (h5 : m ≤ 5) : chC m (E + 1) = chC m E + (if E % m = 0 then 1 else 0) := by
  unfold chC
  rcases (show m = 1 ∨ m = 2 ∨ m = 3 ∨ m = 4 ∨ m = 5 by omega) with rfl | rfl | rfl | rfl | rfl <;> split <;> omega
theorem tog_chg (m : Nat) (s : ByteArray) (hw : waveB s.data.toList = true) (h1 : 1 ≤ m) (h5 : m ≤ 5) (i : Nat) (h : i < s.size) :
    chC m (togF m s.data.toList (i + 1)).2.2 = chC m (togF m s.data.toList i).2.2 + (if (togF m s.data.toList (i + 1)).1 = (togF m s.data.toList i).1 then 0 else 1) := by
  obtain ⟨e1, e2⟩ := tog_step m s hw i h
  rw [e1]
  cases hb : edB s i with
  | false =>
    rw [if_pos (e2.2 (by rw [hb]; simp))]
    simp
  | true =>
    simp only [if_true]
    rw [chC_step m _ h1 h5]
    by_cases hz : (togF m s.data.toList i).2.2 % m = 0
    · rw [if_pos hz, if_neg (fun q => e2.1 q ⟨hb, hz⟩)]
    · rw [if_neg hz, if_pos (e2.2 (fun q => hz q.2))]
theorem tog_le (m : Nat) (l : List UInt8) (i : Nat) : (togF m l i).2.2 ≤ i := by
  induction i with
  | zero => exact Nat.le_refl _
  | succ i ih =>
    unfold togF
    split
    · dsimp only; omega
    · dsimp only; omega
theorem chC_le (m E : Nat) (h1 : 1 ≤ m) : chC m E ≤ E := by
  unfold chC
  rcases Nat.eq_zero_or_pos E with h | h
  · subst h; rw [Nat.zero_add]
    exact Nat.le_of_eq (Nat.div_eq_of_lt (by omega))
  · apply Nat.div_le_of_le_mul
    obtain ⟨q, rfl⟩ : ∃ q, E = q + 1 := ⟨E - 1, by omega⟩
    obtain ⟨p, rfl⟩ : ∃ p, m = p + 1 := ⟨m - 1, by omega⟩
    have : (p + 1) * (q + 1) = p * q + p + q + 1 := by rw [Nat.add_mul, Nat.mul_add]; omega
    omega
/-- a text out of a list, at a tick -/
theorem txt_get (L : List UInt8) (O : ByteArray) (hO : O = ⟨L.toArray⟩) (i : Nat) (h : i < O.size) : O[i] = L.getD i 0 := by
  rw [← get_toList O i h, hO]
end Go.Proofs.Ytkipgeecibimoaa
