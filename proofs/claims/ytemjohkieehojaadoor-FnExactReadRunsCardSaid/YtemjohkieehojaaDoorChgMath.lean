/- Words: the text that goes on at each change of a wave with another level; plain lists alone. -/
import Derived.Test.YtemjohkieehojaaDoorEdgeWords
namespace Go.Proofs.YtemjohkieehojaaDoor
open Go.RowKit
set_option linter.unusedVariables false

/-- one change: the level so far is laid up to its tick, then the level and the phase go on -/
def chF (F : UInt8 → Int → Nat → UInt8 × Nat) (st : List UInt8 × UInt8 × Nat) (x : Int × Int) : List UInt8 × UInt8 × Nat :=
  (st.1 ++ List.replicate (x.1.toNat - st.1.length) st.2.1, F st.2.1 x.2 st.2.2)
def chL (F : UInt8 → Int → Nat → UInt8 × Nat) (p0 : Nat) (cs : List (Int × Int)) : List UInt8 × UInt8 × Nat := cs.foldl (chF F) ([], 48, p0)
theorem chL_nil (F : UInt8 → Int → Nat → UInt8 × Nat) (p0 : Nat) : chL F p0 [] = ([], 48, p0) := rfl
theorem chL_snoc (F : UInt8 → Int → Nat → UInt8 × Nat) (p0 : Nat) (cs : List (Int × Int)) (x : Int × Int) : chL F p0 (cs ++ [x]) = chF F (chL F p0 cs) x := by
  unfold chL; rw [List.foldl_append]; rfl

theorem chgsL_next (l : List UInt8) (k : Nat) : chgsL l (k + 1) = chgsL l k ++ (if lvL l k = prL l k then [] else [((k : Int), lvL l k)]) := by
  unfold chgsL; rw [List.range_succ, List.filter_append, List.map_append]
  congr 1
  by_cases h : lvL l k = prL l k <;> simp [h]
/-- what comes in the list of changes comes at its own tick, behind the changes before this -/
theorem chgsL_split (l : List UInt8) (n : Nat) : ∀ (pre : List (Int × Int)) (x : Int × Int) (post : List (Int × Int)), pre ++ x :: post = chgsL l n →
    ∃ k, k < n ∧ x = ((k : Int), lvL l k) ∧ pre = chgsL l k ∧ lvL l k ≠ prL l k := by
  induction n with
  | zero => intro pre x post h; simp [chgsL] at h
  | succ n ih =>
    intro pre x post h
    rw [chgsL_next] at h
    by_cases hc : lvL l n = prL l n
    · rw [if_pos hc, List.append_nil] at h
      obtain ⟨k, hk, r⟩ := ih pre x post h
      exact ⟨k, by omega, r⟩
    · rw [if_neg hc] at h
      rcases List.eq_nil_or_concat post with rfl | ⟨post', z, rfl⟩
      · obtain ⟨e1, e2⟩ := List.append_inj' h rfl
        exact ⟨n, by omega, by simpa using e2, e1, hc⟩
      · rw [List.concat_eq_append] at h
        have h2 : (pre ++ x :: post') ++ [z] = chgsL l n ++ [((n : Int), lvL l n)] := by simpa using h
        obtain ⟨e1, _⟩ := List.append_inj' h2 rfl
        obtain ⟨k, hk, r⟩ := ih pre x post' e1
        exact ⟨k, by omega, r⟩

/-- level and phase behind so many ticks -/
def chG (F : UInt8 → Int → Nat → UInt8 × Nat) (p0 : Nat) (l : List UInt8) : Nat → UInt8 × Nat
  | 0 => (48, p0)
  | k + 1 => if lvL l k = prL l k then chG F p0 l k else F (chG F p0 l k).1 (lvL l k) (chG F p0 l k).2
def chT (F : UInt8 → Int → Nat → UInt8 × Nat) (p0 : Nat) (l : List UInt8) (n : Nat) : List UInt8 := (List.range n).map (fun j => (chG F p0 l (j + 1)).1)
theorem chT_snoc (F : UInt8 → Int → Nat → UInt8 × Nat) (p0 : Nat) (l : List UInt8) (n : Nat) : chT F p0 l (n + 1) = chT F p0 l n ++ [(chG F p0 l (n + 1)).1] := by simp [chT, List.range_succ]
theorem chL_text (F : UInt8 → Int → Nat → UInt8 × Nat) (p0 : Nat) (l : List UInt8) (k : Nat) :
    (chL F p0 (chgsL l k)).1.length ≤ k ∧ (chL F p0 (chgsL l k)).1 ++ List.replicate (k - (chL F p0 (chgsL l k)).1.length) (chL F p0 (chgsL l k)).2.1 = chT F p0 l k ∧ (chL F p0 (chgsL l k)).2 = chG F p0 l k := by
  induction k with
  | zero => simp [chgsL, chL, chT, chG]
  | succ k ih =>
    obtain ⟨h1, h2, h3⟩ := ih
    rw [chgsL_next, chT_snoc]
    by_cases hc : lvL l k = prL l k
    · have hG : chG F p0 l (k + 1) = chG F p0 l k := by rw [chG, if_pos hc]
      rw [if_pos hc, List.append_nil, hG]
      refine ⟨by omega, ?_, h3⟩
      rw [show k + 1 - (chL F p0 (chgsL l k)).1.length = (k - (chL F p0 (chgsL l k)).1.length) + 1 from by omega, List.replicate_succ', ← List.append_assoc, h2, h3]
    · have hG : chG F p0 l (k + 1) = F (chG F p0 l k).1 (lvL l k) (chG F p0 l k).2 := by rw [chG, if_neg hc]
      rw [if_neg hc, chL_snoc, hG]
      have e1 : (chF F (chL F p0 (chgsL l k)) ((k : Int), lvL l k)).1 = chT F p0 l k := by
        unfold chF; simpa using h2
      have e2 : (chF F (chL F p0 (chgsL l k)) ((k : Int), lvL l k)).2 = F (chG F p0 l k).1 (lvL l k) (chG F p0 l k).2 := by
        unfold chF; simp [h3]
      have e3 : (chT F p0 l k).length = k := by simp [chT]
      rw [e1, e2, e3]
      refine ⟨by omega, ?_, rfl⟩
      rw [show k + 1 - k = 1 from by omega]; rfl
theorem chT_len (F : UInt8 → Int → Nat → UInt8 × Nat) (p0 : Nat) (l : List UInt8) (n : Nat) : (chT F p0 l n).length = n := by simp [chT]
end Go.Proofs.YtemjohkieehojaaDoor
