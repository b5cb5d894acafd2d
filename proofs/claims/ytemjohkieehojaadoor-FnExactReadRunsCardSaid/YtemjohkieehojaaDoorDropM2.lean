/- The parts of a wave and the text that they make: lengths and levels; plain lists alone. -/
import Derived.Test.YtemjohkieehojaaDoorDropM
namespace Go.Proofs.YtemjohkieehojaaDoor
open Go.RowKit
set_option linter.unusedVariables false
set_option linter.unusedSimpArgs false

def okPart (n : Int) (x : Int × Int) : Prop := (x.1 = 48 ∨ x.1 = 49) ∧ 0 < x.2 ∧ x.2 ≤ n
theorem runs_ok (s : ByteArray) (hall : s.data.toList.all lvlB = true) : ∀ k, k ≤ s.size → ((prL s.data.toList k = 48 ∨ prL s.data.toList k = 49) ∧ ∀ x ∈ (runsF (chgsL s.data.toList k)).1, okPart (k : Int) x) := by
  intro k
  induction k with
  | zero => intro _; simp [chgsL, runsF, prL]
  | succ k ih =>
    intro hk
    have hlt : k < s.size := by omega
    have hlv : lvlB s[k] = true := List.all_eq_true.1 hall s[k] (by simp [ByteArray.getElem_eq_getElem_data])
    have hl : (s[k].toNat : Int) = 48 ∨ (s[k].toNat : Int) = 49 := by simpa [lvlB] using hlv
    obtain ⟨hp, hm⟩ := ih (by omega)
    obtain ⟨i1, i2, i3, i4⟩ := runs_inv s k (by omega)
    have up : ∀ x, okPart (k : Int) x → okPart ((k + 1 : Nat) : Int) x := fun x h => ⟨h.1, h.2.1, by have := h.2.2; omega⟩
    refine ⟨by rw [prL_succ s k hlt]; exact hl, ?_⟩
    by_cases hc : (s[k].toNat : Int) = prL s.data.toList k
    · rw [chgsL_miss s k hlt hc]; exact fun x hx => up x (hm x hx)
    · rw [chgsL_hit s k hlt hc, runsF_snoc]
      simp only [runStep]
      intro x hx
      by_cases hst : (runsF (chgsL s.data.toList k)).2.1 < (k : Int)
      · rw [if_pos hst] at hx
        rcases List.mem_append.1 hx with hx | hx
        · exact up x (hm x hx)
        · simp at hx; subst hx
          exact ⟨by rw [i1]; exact hp, by dsimp only; omega, by dsimp only; omega⟩
      · rw [if_neg hst] at hx; exact up x (hm x hx)
theorem runsL_ok (s : ByteArray) (hall : s.data.toList.all lvlB = true) : ∀ x ∈ runsL s, okPart (s.size : Int) x := by
  obtain ⟨hp, hm⟩ := runs_ok s hall s.size (Nat.le_refl _)
  obtain ⟨i1, i2, i3, i4⟩ := runs_inv s s.size (Nat.le_refl _)
  intro x hx
  unfold runsL at hx
  split at hx
  · rcases List.mem_append.1 hx with hx | hx
    · exact hm x hx
    · simp at hx; subst hx
      exact ⟨by rw [i1]; exact hp, by dsimp only; omega, by dsimp only; omega⟩
  · exact hm x hx
theorem partsT_len (c t c' t' : Int) (Y : List (Int × Int)) : (partsT c t Y).length = (partsT c' t' Y).length := by
  unfold partsT
  rw [List.length_flatten, List.length_flatten, List.map_map, List.map_map]
  congr 1
  apply List.map_congr_left
  intro x _
  simp
theorem partsT_append (c t : Int) (Y Z : List (Int × Int)) : partsT c t (Y ++ Z) = partsT c t Y ++ partsT c t Z := by simp [partsT]
theorem partsT_size (s : ByteArray) (c t : Int) (hall : s.data.toList.all lvlB = true) : (partsT c t (runsL s)).length = s.size := by
  rw [partsT_len c t 49 0, drop_end s 0 s.size rfl hall _ _ rfl rfl]
  simp [paintP]
theorem partsT_next (s : ByteArray) (c t : Int) (hall : s.data.toList.all lvlB = true) (pre post : List (Int × Int)) (x : Int × Int) (h : pre ++ x :: post = runsL s) :
    okPart (s.size : Int) x ∧ (partsT c t pre).length + x.2.toNat ≤ s.size := by
  have h1 := partsT_size s c t hall
  have h2 := runsL_ok s hall x (by rw [← h]; simp)
  refine ⟨h2, ?_⟩
  rw [← h, show pre ++ x :: post = pre ++ [x] ++ post from by simp, partsT_append, partsT_snoc] at h1
  simp at h1
  omega
end Go.Proofs.YtemjohkieehojaaDoor
