/- The pieces of a text between the bytes c, and the numbers in them: mathematics. -/
import Derived.Test.YtemjohkieehojaaDoorDecMath
import Derived.Lib.IndexMore
namespace Go.Proofs.YtemjohkieehojaaDoor
open Go.Lib
set_option linter.unusedVariables false
def pcK (c : UInt8) (l : List UInt8) : Nat := l.findIdx (· == c)
theorem index_pcK (c : UInt8) : ∀ l, index l [c] = if pcK c l < l.length then (pcK c l : Int) else -1
  | [] => by simp [index, pcK]
  | b :: l => by
    have ih := index_pcK c l
    unfold index pcK
    rw [List.findIdx_cons]
    by_cases hb : b = c
    · subst hb; simp
    · have h1 : ([c] : List UInt8).isPrefixOf (b :: l) = false := by simp [List.isPrefixOf]; exact fun e => hb e.symm
      have h2 : (b == c) = false := beq_eq_false_iff_ne.2 hb
      rw [h1, h2, ih]
      unfold pcK
      by_cases hk : l.findIdx (· == c) < l.length
      · have h3 : ((l.findIdx (· == c) : Nat) : Int) ≠ -1 := by omega
        simp [hk, h3]
      · simp [hk]
def pFree (c : UInt8) (l : List UInt8) : Prop := ∀ b ∈ l, b ≠ c
theorem pFree_app {c : UInt8} {a b : List UInt8} (h : pFree c a) (g : pFree c b) : pFree c (a ++ b) := by
  intro x hx
  rcases List.mem_append.1 hx with h1 | h1
  · exact h x h1
  · exact g x h1
theorem pFree_take (c : UInt8) (l : List UInt8) : pFree c (l.take (pcK c l)) := by
  intro b hb e
  obtain ⟨i, hi, rfl⟩ := List.mem_iff_getElem.1 hb
  simp at hi
  have hi2 : i < l.findIdx (· == c) := by unfold pcK at hi; omega
  have := List.not_of_lt_findIdx (p := (· == c)) (xs := l) (i := i) hi2
  rw [List.getElem_take] at e
  simp at this
  exact this e
theorem pFree_miss (c : UInt8) (l : List UInt8) (h : ¬ pcK c l < l.length) : pFree c l := by
  have := pFree_take c l
  rwa [List.take_of_length_le (by omega)] at this
theorem pcK_at (c : UInt8) (l : List UInt8) (h : pcK c l < l.length) : l[pcK c l] = c := by
  have := List.findIdx_getElem (p := (· == c)) (xs := l) (w := h)
  exact eq_of_beq this
theorem pcK_parts (c : UInt8) (l : List UInt8) (h : pcK c l < l.length) : l = l.take (pcK c l) ++ c :: l.drop (pcK c l + 1) := by
  conv => lhs; rw [← List.take_append_drop (pcK c l) l, List.drop_eq_getElem_cons h, pcK_at c l h]
/-- the pieces -/
def pcs (c : UInt8) : List UInt8 → List (List UInt8)
  | [] => [[]]
  | b :: r => if b = c then [] :: pcs c r else match pcs c r with
    | [] => [[b]]
    | q :: qs => (b :: q) :: qs
theorem pcs_ne (c : UInt8) : ∀ l, pcs c l ≠ []
  | [] => by simp [pcs]
  | b :: r => by
    unfold pcs
    split
    · simp
    · split <;> simp
theorem pcs_app (c : UInt8) (p r : List UInt8) (h : pFree c p) : pcs c (p ++ c :: r) = p :: pcs c r := by
  induction p with
  | nil => simp [pcs]
  | cons b p ih =>
    have hb := h b (by simp)
    have := ih (fun x hx => h x (by simp [hx]))
    rw [List.cons_append, pcs, if_neg hb, this]
theorem pcs_end (c : UInt8) (p : List UInt8) (h : pFree c p) : pcs c p = [p] := by
  induction p with
  | nil => simp [pcs]
  | cons b p ih =>
    have hb := h b (by simp)
    have := ih (fun x hx => h x (by simp [hx]))
    rw [pcs, if_neg hb, this]
/-- the iterator's step: what is cut off, and what is left -/
theorem pcs_hit (c : UInt8) (l : List UInt8) (h : pcK c l < l.length) : pcs c l = l.take (pcK c l) :: pcs c (l.drop (pcK c l + 1)) := by
  conv => lhs; rw [pcK_parts c l h]
  exact pcs_app c _ _ (pFree_take c l)
theorem pcs_miss (c : UInt8) (l : List UInt8) (h : ¬ pcK c l < l.length) : pcs c l = [l] := pcs_end c l (pFree_miss c l h)
theorem pcs_len (c : UInt8) : ∀ T : List UInt8, (pcs c T).length ≤ T.length + 1
  | [] => by simp [pcs]
  | b :: r => by
    have := pcs_len c r
    unfold pcs
    split
    · simp; omega
    · cases h : pcs c r with
      | nil => simp
      | cons q qs => rw [h] at this; simp at this ⊢; omega
theorem pseg_step (T : List UInt8) (fr i : Nat) (h : fr ≤ i) (hi : i < T.length) : (T.take (i + 1)).drop fr = (T.take i).drop fr ++ [T[i]] := by
  rw [List.take_succ_eq_append_getElem hi, List.drop_append_of_le_length (by simp; omega)]
theorem pseg_rest (T : List UInt8) (fr i : Nat) (h : fr ≤ i) (hi : i ≤ T.length) : T.drop fr = (T.take i).drop fr ++ T.drop i := by
  conv => lhs; rw [← List.take_append_drop i T]
  rw [List.drop_append_of_le_length (by simp; omega)]
/-- how far a reader has come who goes over the bytes with a start -/
def PcI (c : UInt8) (T : List UInt8) (fr i : Nat) (D : List (List UInt8)) : Prop := (i ≤ T.length ∧ fr ≤ i ∧ pcs c T = D ++ pcs c (T.drop fr) ∧ pFree c ((T.take i).drop fr)) ∨ (i = T.length + 1 ∧ pcs c T = D)
theorem pcI_start (c : UInt8) (T : List UInt8) : PcI c T 0 0 [] := .inl ⟨Nat.zero_le _, Nat.le_refl _, by simp, by intro b hb; simp at hb⟩
theorem pcI_none {c : UInt8} {T : List UInt8} {fr i : Nat} {D : List (List UInt8)} (h : PcI c T fr i D) (hi : i < T.length) (hn : T[i] ≠ c) : PcI c T fr (i + 1) D := by
  rcases h with ⟨h1, h2, h3, h4⟩ | ⟨h1, _⟩
  · refine .inl ⟨by omega, by omega, h3, ?_⟩
    rw [pseg_step T fr i h2 hi]
    exact pFree_app h4 (by intro b hb; simp at hb; rw [hb]; exact hn)
  · omega
theorem pcI_cut {c : UInt8} {T : List UInt8} {fr i : Nat} {D : List (List UInt8)} (h : PcI c T fr i D) (hi : i < T.length) (hn : T[i] = c) : PcI c T (i + 1) (i + 1) (D ++ [(T.take i).drop fr]) := by
  rcases h with ⟨h1, h2, h3, h4⟩ | ⟨h1, _⟩
  · refine .inl ⟨by omega, Nat.le_refl _, ?_, by intro b hb; rw [List.drop_eq_nil_of_le (by simp; omega)] at hb; simp at hb⟩
    rw [h3, pseg_rest T fr i h2 (by omega), List.drop_eq_getElem_cons hi, hn, pcs_app _ _ _ h4, List.append_assoc]; rfl
  · omega
theorem pcI_end {c : UInt8} {T : List UInt8} {fr i : Nat} {D : List (List UInt8)} (h : PcI c T fr i D) (hi : i = T.length) (F : Nat) : PcI c T F (i + 1) (D ++ [(T.take i).drop fr]) := by
  rcases h with ⟨h1, h2, h3, h4⟩ | ⟨h1, _⟩
  · refine .inr ⟨by omega, ?_⟩
    have h5 := pseg_rest T fr i h2 (by omega)
    rw [List.drop_eq_nil_of_le (show T.length ≤ i by omega), List.append_nil] at h5
    rw [h3, h5, pcs_end _ _ h4]
  · omega
/-- the pieces that are done are a beginning of all, and the next is known where it is cut -/
theorem pcI_next {c : UInt8} {T : List UInt8} {fr i : Nat} {D : List (List UInt8)} (h : PcI c T fr i D) (hi : i ≤ T.length) (hn : (hl : i < T.length) → T[i] = c) : ∃ R, pcs c T = (D ++ [(T.take i).drop fr]) ++ R := by
  by_cases hl : i < T.length
  · rcases pcI_cut h hl (hn hl) with ⟨_, _, h3, _⟩ | ⟨h1, h2⟩
    · exact ⟨_, h3⟩
    · exact ⟨[], by rw [h2, List.append_nil]⟩
  · rcases pcI_end h (show i = T.length by omega) 0 with ⟨h1, _⟩ | ⟨_, h2⟩
    · omega
    · exact ⟨[], by rw [h2, List.append_nil]⟩
/-- the numbers in pieces, none where a piece is no number up to m -/
def nums (m : Nat) : List (List UInt8) → Option (List Int)
  | [] => some []
  | p :: r => match rd m p with
    | none => none
    | some v => (nums m r).map (v :: ·)
theorem nums_len (m : Nat) : ∀ (D : List (List UInt8)) (L : List Int), nums m D = some L → L.length = D.length
  | [], L, h => by simp [nums] at h; subst h; rfl
  | p :: r, L, h => by
    unfold nums at h
    cases hp : rd m p with
    | none => rw [hp] at h; simp at h
    | some v =>
      rw [hp] at h
      cases hr : nums m r with
      | none => rw [hr] at h; simp at h
      | some L2 =>
        rw [hr] at h
        simp at h
        subst h
        simp [nums_len m r L2 hr]
theorem nums_app (m : Nat) : ∀ (D R : List (List UInt8)), nums m (D ++ R) = match nums m D with
    | none => none
    | some L => (nums m R).map (L ++ ·)
  | [], R => by cases h : nums m R <;> simp [nums, h]
  | p :: D, R => by
    rw [List.cons_append, nums, nums, nums_app m D R]
    cases rd m p with
    | none => rfl
    | some v =>
      cases nums m D with
      | none => rfl
      | some L => cases nums m R <;> rfl
theorem nums_snoc {m : Nat} {D : List (List UInt8)} {L : List Int} {p : List UInt8} {v : Int} (h : nums m D = some L) (hp : rd m p = some v) : nums m (D ++ [p]) = some (L ++ [v]) := by
  rw [nums_app, h]; simp [nums, hp]
theorem nums_bad {m : Nat} {D R : List (List UInt8)} {L : List Int} {p : List UInt8} (h : nums m D = some L) (hp : rd m p = none) : nums m ((D ++ [p]) ++ R) = none := by
  rw [nums_app, nums_app, h]; simp [nums, hp]
/-- what a list of at most n numbers, told by a text, is -/
def numL (m n : Nat) (P : List (List UInt8)) : Option (List Int) := match nums m P with
  | none => none
  | some L => if L.length ≤ n then some L else none
theorem numL_all {m n : Nat} {P : List (List UInt8)} {L : List Int} (h : nums m P = some L) (hl : L.length ≤ n) : numL m n P = some L := by
  unfold numL; rw [h]; exact if_pos hl
theorem numL_bad {m n : Nat} {D R : List (List UInt8)} {L : List Int} {p : List UInt8} (h : nums m D = some L) (hp : rd m p = none) : numL m n ((D ++ [p]) ++ R) = none := by
  unfold numL; rw [nums_bad h hp]
theorem numL_long {m n : Nat} {D R : List (List UInt8)} {L : List Int} {p : List UInt8} (h : nums m D = some L) (hl : L.length = n) : numL m n ((D ++ [p]) ++ R) = none := by
  unfold numL
  cases hx : nums m ((D ++ [p]) ++ R) with
  | none => rfl
  | some X =>
    have h1 := nums_len m _ _ hx
    have h2 := nums_len m _ _ h
    simp only [List.length_append, List.length_cons, List.length_nil] at h1
    exact if_neg (by omega)
end Go.Proofs.YtemjohkieehojaaDoor
