/- Orders of steps: runs of equal letters, and whether a text has one that is too long. -/
import Derived.Lib.IndexMore
import Derived.Lib.SlTrimSet
import Derived.Lib.Repeat
namespace Go.Proofs.YtomdoamfdidghabDoor
open Go
set_option linter.unusedVariables false
def stepB (l : List UInt8) : Bool := l.all fun b => [114, 115].contains b
def trun (l : List UInt8) : Nat → Nat
  | 0 => 0
  | i + 1 => if 0 < i ∧ l[i]? = l[i - 1]? then trun l i + 1 else 1
theorem trun_pos (l : List UInt8) (i : Nat) : 1 ≤ trun l (i + 1) := by rw [trun]; split <;> omega
theorem trun_le (l : List UInt8) : ∀ i, trun l i ≤ i
  | 0 => Nat.le_refl _
  | i + 1 => by rw [trun]; have := trun_le l i; split <;> omega
theorem trun_back (l : List UInt8) : ∀ i j, j < trun l (i + 1) → j ≤ i ∧ l[i - j]? = l[i]?
  | 0, j, h => by
    have h9 := trun_le l (0 + 1)
    have : j = 0 := by omega
    subst this; exact ⟨Nat.le_refl _, rfl⟩
  | i + 1, j, h => by
    rw [trun] at h
    split at h
    · rename_i hc
      cases j with
      | zero => exact ⟨Nat.zero_le _, rfl⟩
      | succ j =>
        obtain ⟨h1, h2⟩ := trun_back l i j (by omega)
        refine ⟨by omega, ?_⟩
        rw [show i + 1 - (j + 1) = i - j by omega, h2]
        exact hc.2.symm
    · have : j = 0 := by omega
      subst this; exact ⟨Nat.zero_le _, rfl⟩
theorem trun_fwd (l : List UInt8) (a : Nat) : ∀ m, (∀ k, k ≤ m → l[a + k]? = l[a]?) → m + 1 ≤ trun l (a + m + 1)
  | 0, _ => trun_pos l a
  | m + 1, h => by
    have ih := trun_fwd l a m (fun k hk => h k (by omega))
    have e : l[a + (m + 1)]? = l[a + (m + 1) - 1]? := by rw [h (m + 1) (Nat.le_refl _), show a + (m + 1) - 1 = a + m by omega, h m (by omega)]
    rw [trun, if_pos ⟨by omega, e⟩, show a + (m + 1) = a + m + 1 by omega]
    omega
def Bad (l : List UInt8) (m : Nat) : Prop := ∃ a, a + m < l.length ∧ ∀ k, k ≤ m → l[a + k]? = l[a]?
theorem bad_of (l : List UInt8) (m i : Nat) (hi : i < l.length) (h : m < trun l (i + 1)) : Bad l m := by
  obtain ⟨h1, h2⟩ := trun_back l i m h
  refine ⟨i - m, by omega, fun k hk => ?_⟩
  rw [h2, show i - m + k = i - (m - k) by omega]
  exact (trun_back l i (m - k) (by omega)).2
theorem of_bad (l : List UInt8) (m : Nat) (h : Bad l m) : ∃ i, i < l.length ∧ m < trun l (i + 1) := by
  obtain ⟨a, ha, h⟩ := h
  exact ⟨a + m, ha, trun_fwd l a m h⟩
theorem repeat_rep (c : UInt8) : ∀ n, Lib.repeatL [c] n = List.replicate n c
  | 0 => rfl
  | n + 1 => by rw [Lib.repeatL, repeat_rep c n]; rfl
theorem contains_rep (l : List UInt8) (c : UInt8) (m : Nat) : Lib.contains l (List.replicate (m + 1) c) = true ↔ ∃ a, a + m < l.length ∧ ∀ k, k ≤ m → l[a + k]? = some c := by
  have occ : ∀ a, a + (m + 1) ≤ l.length → (Lib.occAt l (List.replicate (m + 1) c) a = true ↔ ∀ k, k ≤ m → l[a + k]? = some c) := by
    intro a ha
    rw [Lib.occAt_iff_take _ _ _ (by simpa using ha), beq_iff_eq]
    constructor
    · intro h k hk
      have h2 := congrArg (fun x => x[k]?) h
      simp only [List.length_replicate, List.getElem?_take, List.getElem?_drop, List.getElem?_replicate] at h2
      rw [if_pos (by omega), if_pos (by omega)] at h2
      exact h2
    · intro h
      apply List.ext_getElem?
      intro k
      simp only [List.length_replicate, List.getElem?_take, List.getElem?_drop, List.getElem?_replicate]
      by_cases hk : k < m + 1
      · rw [if_pos hk, if_pos hk]; exact h k (by omega)
      · rw [if_neg hk, if_neg hk]
  unfold Lib.contains
  rw [decide_eq_true_eq]
  rcases Lib.index_spec l (List.replicate (m + 1) c) with ⟨h1, h2⟩ | ⟨i, h1, h2, h3, -⟩
  · rw [h1]
    refine ⟨fun h => by omega, fun ⟨a, ha, h⟩ => ?_⟩
    have := h2 a (by omega)
    rw [(occ a (by omega)).2 h] at this
    cases this
  · rw [h1]
    refine ⟨fun _ => ?_, fun _ => by omega⟩
    have hr := Lib.occAt_room h3
    simp at hr
    exact ⟨i, by omega, (occ i (by omega)).1 h3⟩
theorem bad_iff (l : List UInt8) (m : Nat) (hs : stepB l = true) : Bad l m ↔ (Lib.contains l (List.replicate (m + 1) 114) = true ∨ Lib.contains l (List.replicate (m + 1) 115) = true) := by
  rw [contains_rep, contains_rep]
  constructor
  · rintro ⟨a, ha, h⟩
    have hl : l[a]? = some l[a] := List.getElem?_eq_getElem (by omega)
    have hm := List.all_eq_true.1 hs l[a] (List.getElem_mem _)
    simp at hm
    rcases hm with e | e
    · left; exact ⟨a, ha, fun k hk => by rw [h k hk, hl, e]⟩
    · right; exact ⟨a, ha, fun k hk => by rw [h k hk, hl, e]⟩
  · rintro (⟨a, ha, h⟩ | ⟨a, ha, h⟩)
    · exact ⟨a, ha, fun k hk => by rw [h k hk]; exact (h 0 (Nat.zero_le _)).symm⟩
    · exact ⟨a, ha, fun k hk => by rw [h k hk]; exact (h 0 (Nat.zero_le _)).symm⟩
theorem dropWhile_nil {α : Type} (p : α → Bool) : ∀ l : List α, l.dropWhile p = [] ↔ l.all p = true
  | [] => by simp
  | a :: l => by
    rw [List.dropWhile_cons]
    cases h : p a with
    | true => simp [dropWhile_nil p l, h]
    | false => simp [h]
theorem dropWhile_all {α : Type} (p : α → Bool) : ∀ l : List α, (l.dropWhile p).all p = true → l.dropWhile p = []
  | [], _ => rfl
  | a :: l, h => by
    rw [List.dropWhile_cons] at h ⊢
    cases hp : p a with
    | true => rw [hp, if_pos rfl] at h; rw [if_pos rfl]; exact dropWhile_all p l h
    | false => rw [hp] at h; simp [hp] at h
theorem trim_nil (l cs : List UInt8) : Lib.trimS l cs = [] ↔ l.all (cs.contains ·) = true := by
  unfold Lib.trimS Lib.trimLeftS Lib.trimRightS
  rw [dropWhile_nil]
  constructor
  · intro h
    rw [List.all_reverse] at h
    have := dropWhile_all _ _ h
    rw [dropWhile_nil, List.all_reverse] at this
    exact this
  · intro h
    have : l.reverse.dropWhile (cs.contains ·) = [] := by rw [dropWhile_nil, List.all_reverse]; exact h
    rw [this]; rfl
end Go.Proofs.YtomdoamfdidghabDoor
