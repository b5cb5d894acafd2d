/- What a journal's beginning holds: mathematics. -/
import Derived.Test.YtkbnllaobnhfbaaDoorJouM
import Derived.Lib.IndexMore
namespace Go.Proofs.YtkbnllaobnhfbaaDoor
open Go.Lib
set_option linter.unusedVariables false
def cutK (c : UInt8) (l : List UInt8) : Nat := l.findIdx (· == c)
theorem index_cutK (c : UInt8) : ∀ l, index l [c] = if cutK c l < l.length then (cutK c l : Int) else -1
  | [] => by simp [index, cutK]
  | b :: l => by
    have ih := index_cutK c l
    unfold index cutK
    rw [List.findIdx_cons]
    by_cases hb : b = c
    · subst hb; simp
    · have h1 : ([c] : List UInt8).isPrefixOf (b :: l) = false := by simp [List.isPrefixOf]; exact fun e => hb e.symm
      have h2 : (b == c) = false := beq_eq_false_iff_ne.2 hb
      rw [h1, h2, ih]
      unfold cutK
      by_cases hk : l.findIdx (· == c) < l.length
      · have h3 : ((l.findIdx (· == c) : Nat) : Int) ≠ -1 := by omega
        simp [hk, h3]
      · simp [hk]
theorem cut_hit (c : UInt8) (l : List UInt8) (h : cutK c l < l.length) : cut l [c] = (l.take (cutK c l), l.drop (cutK c l + 1), true) := by
  have := index_cutK c l
  rw [if_pos h] at this
  unfold cut
  rw [this, if_pos (by omega)]
  simp
theorem cut_miss (c : UInt8) (l : List UInt8) (h : ¬ cutK c l < l.length) : cut l [c] = (l, [], false) := by
  have := index_cutK c l
  rw [if_neg h] at this
  unfold cut
  rw [this, if_neg (by omega)]
/-- without c -/
def free (c : UInt8) (l : List UInt8) : Prop := ∀ b ∈ l, b ≠ c
theorem cutK_app (c : UInt8) (p r : List UInt8) (h : free c p) : cutK c (p ++ c :: r) = p.length := by
  induction p with
  | nil => simp [cutK, List.findIdx_cons]
  | cons b p ih =>
    have hb : (b == c) = false := beq_eq_false_iff_ne.2 (h b (by simp))
    have := ih (fun x hx => h x (by simp [hx]))
    unfold cutK at *
    rw [List.cons_append, List.findIdx_cons, hb]
    simp [this]
theorem cutK_free (c : UInt8) (l : List UInt8) (h : free c l) : ¬ cutK c l < l.length := by
  unfold cutK
  intro hlt
  have := List.findIdx_getElem (w := hlt)
  simp at this
  exact h _ (List.getElem_mem hlt) this
theorem free_take (c : UInt8) (l : List UInt8) : free c (l.take (cutK c l)) := by
  intro b hb e
  obtain ⟨i, hi, rfl⟩ := List.mem_iff_getElem.1 hb
  simp at hi
  have hi2 : i < l.findIdx (· == c) := by unfold cutK at hi; omega
  have := List.not_of_lt_findIdx (p := (· == c)) (xs := l) (i := i) hi2
  rw [List.getElem_take] at e
  simp at this
  exact this e
theorem cutK_split (c : UInt8) (l : List UInt8) (h : cutK c l < l.length) : l = l.take (cutK c l) ++ c :: l.drop (cutK c l + 1) := by
  have h1 : l[cutK c l] = c := by
    have := List.findIdx_getElem (w := h)
    simp at this
    exact this
  have h2 := List.drop_eq_getElem_cons h
  rw [h1] at h2
  rw [← h2, List.take_append_drop]
/-- the parts between newlines -/
def cutAll : List UInt8 → List (List UInt8)
  | [] => [[]]
  | b :: r => if b = 10 then [] :: cutAll r else match cutAll r with
    | [] => [[b]]
    | q :: qs => (b :: q) :: qs
theorem cutAll_ne : ∀ l, cutAll l ≠ []
  | [] => by simp [cutAll]
  | b :: r => by
    unfold cutAll
    split
    · simp
    · split <;> simp
theorem cutAll_nl (p r : List UInt8) (h : free 10 p) : cutAll (p ++ 10 :: r) = p :: cutAll r := by
  induction p with
  | nil => simp [cutAll]
  | cons b p ih =>
    have hb := h b (by simp)
    have := ih (fun x hx => h x (by simp [hx]))
    rw [List.cons_append, cutAll, if_neg hb, this]
theorem cutAll_end (p : List UInt8) (h : free 10 p) : cutAll p = [p] := by
  induction p with
  | nil => simp [cutAll]
  | cons b p ih =>
    have hb := h b (by simp)
    have := ih (fun x hx => h x (by simp [hx]))
    rw [cutAll, if_neg hb, this]
/-- the whole lines -/
def wholeL (t : List UInt8) : List (List UInt8) := (cutAll t).dropLast
theorem whole_nl (p r : List UInt8) (h : free 10 p) : wholeL (p ++ 10 :: r) = p :: wholeL r := by
  unfold wholeL
  rw [cutAll_nl p r h]
  cases hc : cutAll r with
  | nil => exact absurd hc (cutAll_ne r)
  | cons q qs => rfl
theorem whole_end (p : List UInt8) (h : free 10 p) : wholeL p = [] := by unfold wholeL; rw [cutAll_end p h]; rfl
/-- the line of an entry that is right, from the bytes between newlines -/
def okLine (c : Int) (p : List UInt8) : Bool := decide (cutK 32 p < p.length) && decide (p.take (cutK 32 p) = itoa (checkL c (p.drop (cutK 32 p + 1))))
def recM : Int → List (List UInt8) → List (List UInt8) × Nat
  | _, [] => ([], 0)
  | c, p :: ps => if okLine c p = true then (p.drop (cutK 32 p + 1) :: (recM (checkL c (p.drop (cutK 32 p + 1))) ps).1, p.length + 1 + (recM (checkL c (p.drop (cutK 32 p + 1))) ps).2) else ([], 0)
theorem rec_yes {c : Int} {p : List UInt8} {ps : List (List UInt8)} (h : okLine c p = true) : recM c (p :: ps) = (p.drop (cutK 32 p + 1) :: (recM (checkL c (p.drop (cutK 32 p + 1))) ps).1, p.length + 1 + (recM (checkL c (p.drop (cutK 32 p + 1))) ps).2) := by rw [recM, if_pos h]
theorem rec_no {c : Int} {p : List UInt8} {ps : List (List UInt8)} (h : okLine c p = false) : recM c (p :: ps) = ([], 0) := by rw [recM, h]; rfl
/-- what the program takes for the next line -/
def lineP (t : List UInt8) : List UInt8 := (cut (cut t [10]).1 [32]).2.1
theorem digs_free {n : Int} (h : 0 ≤ n) (x : UInt8) (hx : x.toNat < 48) : free x (itoa n) := by
  rw [itoa_nn h]
  intro b hb e
  have := dig_dec n.natAbs n.natAbs (Nat.le_refl _) b hb
  rw [e] at this; omega
theorem free_app {x : UInt8} {a b : List UInt8} (h1 : free x a) (h2 : free x b) : free x (a ++ b) := by
  intro y hy
  rcases List.mem_append.1 hy with h | h
  · exact h1 y h
  · exact h2 y h
theorem free_sub {x : UInt8} {a b : List UInt8} (h : free x b) (hs : ∀ y ∈ a, y ∈ b) : free x a := fun y hy => h y (hs y hy)
theorem told_free (t : List UInt8) : free 10 (cut t [10]).1 := by
  by_cases h : cutK 10 t < t.length
  · rw [cut_hit 10 t h]; exact free_take 10 t
  · rw [cut_miss 10 t h]
    intro b hb e
    apply h
    unfold cutK
    exact List.findIdx_lt_length.2 ⟨b, hb, by simp [e]⟩
theorem line_free (t : List UInt8) : free 10 (lineP t) := by
  unfold lineP
  have h0 := told_free t
  obtain ⟨q, hq⟩ : ∃ q, (cut t [10]).1 = q := ⟨_, rfl⟩
  rw [hq] at h0 ⊢
  by_cases h : cutK 32 q < q.length
  · rw [cut_hit 32 q h]; exact free_sub h0 (fun y hy => List.mem_of_mem_drop hy)
  · rw [cut_miss 32 q h]; intro b hb; simp at hb
/-- the program's step is the model's -/
theorem step_yes {c : Int} {t b : List UInt8} (h0 : 0 ≤ c) (h1 : c ≤ 64900) (h : t = entL c (lineP t) ++ b) :
    recM c (wholeL t) = (lineP t :: (recM (checkL c (lineP t)) (wholeL b)).1, (entL c (lineP t)).length + (recM (checkL c (lineP t)) (wholeL b)).2) := by
  have hf := line_free t
  obtain ⟨l, hl⟩ : ∃ l, lineP t = l := ⟨_, rfl⟩
  rw [hl] at h hf ⊢
  obtain ⟨k0, k1⟩ := checkL_bd c l h0 h1
  have hp : free 10 (itoa (checkL c l) ++ [32] ++ l) := free_app (free_app (digs_free k0 10 (by decide)) (by intro y hy e; simp at hy; rw [hy] at e; exact absurd e (by decide))) hf
  have hk : cutK 32 (itoa (checkL c l) ++ [32] ++ l) = (itoa (checkL c l)).length := by
    rw [List.append_assoc]
    exact cutK_app 32 _ l (digs_free k0 32 (by decide))
  have hd : (itoa (checkL c l) ++ [32] ++ l).drop ((itoa (checkL c l)).length + 1) = l := by
    rw [List.append_assoc, ← List.drop_drop, List.drop_left]; rfl
  have hok : okLine c (itoa (checkL c l) ++ [32] ++ l) = true := by
    unfold okLine
    rw [hk, hd, decide_eq_true (by simp), Bool.true_and, decide_eq_true_eq, List.append_assoc, List.take_left]
  have ht : t = (itoa (checkL c l) ++ [32] ++ l) ++ 10 :: b := by
    refine h.trans ?_
    unfold entL
    simp only [List.append_assoc, List.cons_append, List.nil_append]
  have hl2 : (entL c l).length = (itoa (checkL c l) ++ [32] ++ l).length + 1 := by unfold entL; simp only [List.length_append, List.length_cons, List.length_nil]
  rw [ht, whole_nl _ _ hp, rec_yes hok, hk, hd, hl2]
theorem step_no {c : Int} {t : List UInt8} (h : ¬ (entL c (lineP t)) <+: t) : recM c (wholeL t) = ([], 0) := by
  by_cases hn : cutK 10 t < t.length
  · have hs := cutK_split 10 t hn
    have hf := free_take 10 t
    obtain ⟨p, hp⟩ : ∃ p, t.take (cutK 10 t) = p := ⟨_, rfl⟩
    obtain ⟨r, hr⟩ : ∃ r, t.drop (cutK 10 t + 1) = r := ⟨_, rfl⟩
    have htold : (cut t [10]).1 = p := by rw [cut_hit 10 t hn]; exact hp
    rw [hp, hr] at hs
    rw [hp] at hf
    rw [show wholeL t = p :: wholeL r by rw [hs]; exact whole_nl p r hf]
    cases hok : okLine c p with
    | false => exact rec_no hok
    | true =>
      exfalso
      unfold okLine at hok
      simp only [Bool.and_eq_true, decide_eq_true_eq] at hok
      obtain ⟨hk, he⟩ := hok
      have hl : lineP t = p.drop (cutK 32 p + 1) := by unfold lineP; rw [htold, cut_hit 32 p hk]
      have hsp := cutK_split 32 p hk
      apply h
      rw [hl]
      refine ⟨r, ?_⟩
      unfold entL
      rw [← he]
      conv => rhs; rw [hs, hsp]
      simp only [List.append_assoc, List.cons_append, List.nil_append]
  · have : free 10 t := by
      intro b hb e
      apply hn
      unfold cutK
      exact List.findIdx_lt_length.2 ⟨b, hb, by simp [e]⟩
    rw [whole_end t this, recM]
end Go.Proofs.YtkbnllaobnhfbaaDoor
