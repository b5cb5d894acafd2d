/- NeededBounds: which bounds are kept, as lists; plain mathematics. -/
import Derived.Test.YtlpdiodkolcfcabGapI
import Derived.Test.YtlpdiodkolcfcabFolS
namespace Go.Proofs.Ytlpdiodkolcfcab
open Go.RowKit
set_option linter.unusedVariables false

theorem Way.monoN {bs bs' : List Bd} (h : ∀ b ∈ bs, b ∈ bs') {i j c : Nat} {s : Int} (hw : Way bs i j c s) : Way bs' i j c s := by
  induction hw with
  | nil => exact .nil
  | snoc b _ hb hf ih => exact .snoc b ih (h b hb) hf
theorem WayK.monoN {bs bs' : List Bd} (h : ∀ b ∈ bs, b ∈ bs') {m i j c : Nat} {s : Int} (hw : WayK bs m i j c s) : WayK bs' m i j c s := by
  induction hw with
  | nil => exact .nil
  | one b hb hf => exact .one b (h b hb) hf
  | snoc b _ hj hb hf ih => exact .snoc b ih hj (h b hb) hf
theorem Sound.congr {bs bs' : List Bd} {n : Nat} {M : Nat → Nat → Int} (h : ∀ b, b ∈ bs ↔ b ∈ bs') (hs : Sound bs n M) : Sound bs' n M := fun a b ha hb =>
  ⟨(hs a b ha hb).1, fun hl => by
    obtain ⟨c, hc⟩ := (hs a b ha hb).2 hl
    exact ⟨c, hc.monoN fun b hb => (h b).1 hb⟩⟩
theorem Comp.congr {bs bs' : List Bd} {n m : Nat} {M : Nat → Nat → Int} (h : ∀ b, b ∈ bs ↔ b ∈ bs') (hs : Comp bs n m M) : Comp bs' n m M := by
  rcases hs with hs | hs
  · exact .inl hs
  · exact .inr fun a b c s ha hb hw hc => hs a b c s ha hb (hw.monoN fun b hb => (h b).2 hb) hc

def trp (F : List Int) (k : Nat) : Int × Int × Int := (F.getD (k * 3) 0, F.getD (k * 3 + 1) 0, F.getD (k * 3 + 2) 0)
theorem bdAt_trp {F F' : List Int} {k k' : Nat} (h : trp F k = trp F' k') : bdAt F k = bdAt F' k' := by
  unfold trp at h
  simp only [Prod.mk.injEq] at h
  unfold bdAt
  rw [h.1, h.2.1, h.2.2]
/-- the cells of those of the first i bounds that are not left out -/
def krows (F W : List Int) : Nat → List Int
  | 0 => []
  | i + 1 => if W.contains (i : Int) then krows F W i else krows F W i ++ [F.getD (i * 3) 0, F.getD (i * 3 + 1) 0, F.getD (i * 3 + 2) 0]
def kcnt (W : List Int) : Nat → Nat
  | 0 => 0
  | i + 1 => if W.contains (i : Int) then kcnt W i else kcnt W i + 1
theorem kcnt_le (W : List Int) (i : Nat) : kcnt W i ≤ i := by
  induction i with
  | zero => exact Nat.le_refl _
  | succ i ih => simp only [kcnt]; split <;> omega
theorem krows_len (F W : List Int) (i : Nat) : (krows F W i).length = kcnt W i * 3 := by
  induction i with
  | zero => rfl
  | succ i ih =>
    simp only [krows, kcnt]
    split
    · exact ih
    · rw [List.length_append, ih]; simp; omega
theorem getD_appL (A B : List Int) (k : Nat) (h : k < A.length) : (A ++ B).getD k 0 = A.getD k 0 := by
  rw [List.getD_eq_getElem?_getD, List.getElem?_append_left h, ← List.getD_eq_getElem?_getD]
theorem getD_appR (A B : List Int) (k : Nat) : (A ++ B).getD (A.length + k) 0 = B.getD k 0 := by
  rw [List.getD_eq_getElem?_getD, List.getElem?_append_right (by omega), ← List.getD_eq_getElem?_getD]
  congr 1; omega
theorem trp_appL (A B : List Int) (n k : Nat) (hA : A.length = n * 3) (h : k < n) : trp (A ++ B) k = trp A k := by
  unfold trp
  rw [getD_appL A B _ (by omega), getD_appL A B _ (by omega), getD_appL A B _ (by omega)]
theorem trp_appR (A B : List Int) (n k : Nat) (hA : A.length = n * 3) : trp (A ++ B) (n + k) = trp B k := by
  unfold trp
  have e0 : (n + k) * 3 = A.length + k * 3 := by omega
  have e1 : (n + k) * 3 + 1 = A.length + (k * 3 + 1) := by omega
  have e2 : (n + k) * 3 + 2 = A.length + (k * 3 + 2) := by omega
  rw [e0, Nat.add_assoc, Nat.add_assoc, getD_appR, getD_appR, getD_appR]
theorem trp_drop (F : List Int) (i k : Nat) : trp (F.drop (i * 3)) k = trp F (i + k) := by
  unfold trp
  have e0 : (i + k) * 3 = i * 3 + k * 3 := by omega
  simp only [List.getD_eq_getElem?_getD, List.getElem?_drop, e0, Nat.add_assoc]
theorem krows_get (F W : List Int) (i : Nat) : ∀ k, k < kcnt W i → ∃ j, j < i ∧ W.contains (j : Int) = false ∧ trp (krows F W i) k = trp F j := by
  induction i with
  | zero => intro k h; exact absurd h (Nat.not_lt_zero _)
  | succ i ih =>
    intro k hk
    have hl := krows_len F W i
    by_cases hc : W.contains (i : Int) = true
    · simp only [kcnt, krows, if_pos hc] at hk ⊢
      obtain ⟨j, h1, h2, h3⟩ := ih k hk
      exact ⟨j, by omega, h2, h3⟩
    · simp only [kcnt, krows, if_neg hc] at hk ⊢
      by_cases hk2 : k < kcnt W i
      · obtain ⟨j, h1, h2, h3⟩ := ih k hk2
        exact ⟨j, by omega, h2, by rw [trp_appL _ _ _ k hl hk2]; exact h3⟩
      · obtain rfl : k = kcnt W i := by omega
        refine ⟨i, by omega, by simpa using hc, ?_⟩
        have := trp_appR (krows F W i) [F.getD (i * 3) 0, F.getD (i * 3 + 1) 0, F.getD (i * 3 + 2) 0] (kcnt W i) 0 hl
        exact this.trans rfl
theorem krows_has (F W : List Int) (i : Nat) : ∀ j, j < i → W.contains (j : Int) = false → ∃ k, k < kcnt W i ∧ trp (krows F W i) k = trp F j := by
  induction i with
  | zero => intro k h; exact absurd h (Nat.not_lt_zero _)
  | succ i ih =>
    intro j hj hjc
    have hl := krows_len F W i
    by_cases hc : W.contains (i : Int) = true
    · simp only [kcnt, krows, if_pos hc]
      have hne : j ≠ i := fun e => by rw [e, hc] at hjc; cases hjc
      exact ih j (by omega) hjc
    · simp only [kcnt, krows, if_neg hc]
      by_cases hji : j = i
      · subst hji
        refine ⟨kcnt W j, by omega, ?_⟩
        have := trp_appR (krows F W j) [F.getD (j * 3) 0, F.getD (j * 3 + 1) 0, F.getD (j * 3 + 2) 0] (kcnt W j) 0 hl
        exact this.trans rfl
      · obtain ⟨k, h1, h2⟩ := ih j (by omega) hjc
        exact ⟨k, by omega, by rw [trp_appL _ _ _ k hl h1]; exact h2⟩
/-- the cells of all bounds but those left out and the one at i -/
def others (F W : List Int) (i : Nat) : List Int := krows F W i ++ F.drop ((i + 1) * 3)
def othN (W : List Int) (nb i : Nat) : Nat := kcnt W i + (nb - (i + 1))
theorem others_len {F W : List Int} {nb i : Nat} (hF : F.length = nb * 3) (hi : i < nb) : (others F W i).length = othN W nb i * 3 := by
  unfold others othN
  rw [List.length_append, krows_len, List.length_drop, hF]; omega
theorem others_get {F W : List Int} {nb i : Nat} (hF : F.length = nb * 3) (hi : i < nb) (k : Nat) (hk : k < othN W nb i) : ∃ j, j < nb ∧ j ≠ i ∧ (j < i → W.contains (j : Int) = false) ∧ trp (others F W i) k = trp F j := by
  unfold othN at hk
  unfold others
  by_cases h : k < kcnt W i
  · obtain ⟨j, h1, h2, h3⟩ := krows_get F W i k h
    exact ⟨j, by omega, by omega, fun _ => h2, by rw [trp_appL _ _ _ k (krows_len F W i) h]; exact h3⟩
  · refine ⟨i + 1 + (k - kcnt W i), by omega, by omega, fun h => by omega, ?_⟩
    have := trp_appR (krows F W i) (F.drop ((i + 1) * 3)) (kcnt W i) (k - kcnt W i) (krows_len F W i)
    rw [show kcnt W i + (k - kcnt W i) = k by omega] at this
    rw [this, trp_drop]
theorem others_has {F W : List Int} {nb i : Nat} (hF : F.length = nb * 3) (hi : i < nb) (j : Nat) (hj : j < nb) (hne : j ≠ i) (hc : j < i → W.contains (j : Int) = false) : ∃ k, k < othN W nb i ∧ trp (others F W i) k = trp F j := by
  unfold othN others
  by_cases h : j < i
  · obtain ⟨k, h1, h2⟩ := krows_has F W i j h (hc h)
    exact ⟨k, by omega, by rw [trp_appL _ _ _ k (krows_len F W i) h1]; exact h2⟩
  · refine ⟨kcnt W i + (j - (i + 1)), by omega, ?_⟩
    rw [trp_appR _ _ _ _ (krows_len F W i), trp_drop]
    congr 1; omega
theorem others_mem {F W : List Int} {nb i : Nat} (hF : F.length = nb * 3) (hi : i < nb) (hW : ∀ x ∈ W, x < (i : Int)) (b : Bd) : b ∈ keptB F (W ++ [(i : Int)]) nb ↔ b ∈ keptB (others F W i) [] (othN W nb i) := by
  rw [keptB_mem, keptB_mem]
  constructor
  · rintro ⟨j, h1, h2, rfl⟩
    rw [List.contains_append, Bool.or_eq_false_iff] at h2
    have hne : j ≠ i := fun e => by subst e; simp at h2
    obtain ⟨k, h3, h4⟩ := others_has hF hi j h1 hne (fun _ => h2.1)
    exact ⟨k, h3, rfl, bdAt_trp h4⟩
  · rintro ⟨k, h1, -, rfl⟩
    obtain ⟨j, h2, h3, h4, h5⟩ := others_get hF hi k h1
    refine ⟨j, h2, ?_, (bdAt_trp h5).symm⟩
    rw [List.contains_append, Bool.or_eq_false_iff]
    refine ⟨?_, by simp; omega⟩
    by_cases h : j < i
    · exact h4 h
    · cases hc : W.contains (j : Int) with
      | false => rfl
      | true => have := hW _ (List.contains_iff_mem.1 hc); omega
theorem others_dia {e : Int} {F W : List Int} {nb i : Nat} (hF : F.length = nb * 3) (hi : i < nb) (h : diaB e nb F = true) : diaB e (othN W nb i) (others F W i) = true := by
  obtain ⟨h1, h2, h3, h4⟩ := diaB_okG h
  have hk := kcnt_le W i
  rw [diaB_all e _ _ h1 h2 (by unfold othN; omega), List.all_eq_true]
  intro k hk
  obtain ⟨j, g1, -, -, g4⟩ := others_get hF hi k (List.mem_range.1 hk)
  unfold trp at g4
  simp only [Prod.mk.injEq] at g4
  unfold bokK
  rw [g4.1, g4.2.1, g4.2.2]
  exact decide_eq_true (h4 j g1)

/-- what the first i rounds tell: the bounds left out, and those that are needed -/
structure NdS (F : List Int) (nb n : Nat) (Ws outs : Nat → List Int) (i : Nat) : Prop where
  w0 : Ws 0 = []
  o0 : outs 0 = []
  step : ∀ k, k < i → ∃ (M : Nat → Nat → Int) (ok : Bool), Sound (keptB F (Ws k ++ [(k : Int)]) nb) n M ∧ Comp (keptB F (Ws k ++ [(k : Int)]) nb) n n M ∧
    (ok = true ↔ (∀ a, a < n → 0 ≤ M a a) ∧ M (F.getD (k * 3) 0).toNat (F.getD (k * 3 + 1) 0).toNat ≤ F.getD (k * 3 + 2) 0) ∧
    Ws (k + 1) = (if ok then Ws k ++ [(k : Int)] else Ws k) ∧ outs (k + 1) = (if ok then outs k else outs k ++ [(k : Int)])
theorem NdS.start (F : List Int) (nb n : Nat) : NdS F nb n (fun _ => []) (fun _ => []) 0 := ⟨rfl, rfl, fun k h => absurd h (Nat.not_lt_zero _)⟩
theorem NdS.next {F : List Int} {nb n : Nat} {Ws outs : Nat → List Int} {i : Nat} (h : NdS F nb n Ws outs i) (M : Nat → Nat → Int) (ok : Bool) (h1 : Sound (keptB F (Ws i ++ [(i : Int)]) nb) n M) (h2 : Comp (keptB F (Ws i ++ [(i : Int)]) nb) n n M)
    (h3 : ok = true ↔ (∀ a, a < n → 0 ≤ M a a) ∧ M (F.getD (i * 3) 0).toNat (F.getD (i * 3 + 1) 0).toNat ≤ F.getD (i * 3 + 2) 0) :
    NdS F nb n (fun k => if k = i + 1 then (if ok then Ws i ++ [(i : Int)] else Ws i) else Ws k) (fun k => if k = i + 1 then (if ok then outs i else outs i ++ [(i : Int)]) else outs k) (i + 1) := by
  refine ⟨by simpa using h.w0, by simpa using h.o0, fun k hk => ?_⟩
  rcases Nat.lt_or_ge k i with hlt | hge
  · obtain ⟨M', ok', g1, g2, g3, g4, g5⟩ := h.step k hlt
    have n1 : ¬ k = i + 1 := by omega
    have n2 : ¬ k + 1 = i + 1 := by omega
    refine ⟨M', ok', ?_, ?_, g3, ?_, ?_⟩
    · simp only [n1, if_false]; exact g1
    · simp only [n1, if_false]; exact g2
    · simp only [n1, n2, if_false]; exact g4
    · simp only [n1, n2, if_false]; exact g5
  · obtain rfl : k = i := by omega
    have n1 : ¬ k = k + 1 := by omega
    refine ⟨M, ok, ?_, ?_, h3, ?_, ?_⟩
    · simp only [n1, if_false]; exact h1
    · simp only [n1, if_false]; exact h2
    · simp only [n1, if_false, if_true]
    · simp only [n1, if_false, if_true]
theorem NdS.facts {F : List Int} {nb n : Nat} {Ws outs : Nat → List Int} {i : Nat} (h : NdS F nb n Ws outs i) : ∀ k, k ≤ i → (∀ x ∈ Ws k, x < (k : Int)) ∧ (Ws k).length ≤ k ∧ (outs k).length ≤ k ∧ (Ws k).length + (outs k).length = k := by
  intro k
  induction k with
  | zero => intro _; rw [h.w0, h.o0]; simp
  | succ k ih =>
    intro hk
    obtain ⟨q1, q2, q3, q4⟩ := ih (by omega)
    obtain ⟨M, ok, -, -, -, g4, g5⟩ := h.step k (by omega)
    rw [g4, g5]
    cases ok with
    | true =>
      simp only [if_true]
      refine ⟨fun x hx => ?_, by simp; omega, by omega, by simp; omega⟩
      rcases List.mem_append.1 hx with h | h
      · have := q1 x h; omega
      · simp at h; omega
    | false =>
      simp only [Bool.false_eq_true, if_false]
      refine ⟨fun x hx => by have := q1 x hx; omega, by omega, by simp; omega, by simp; omega⟩
theorem NdS.back {F : List Int} {nb n : Nat} {Ws outs : Nat → List Int} {i : Nat} (h : NdS F nb n Ws outs i) (k : Nat) (hk : k ≤ i) : NdS F nb n Ws outs k := ⟨h.w0, h.o0, fun j hj => h.step j (by omega)⟩
/-- the answer of NeededBounds, told by a matrix of all bounds and the rounds -/
structure NdC (e : Int) (nb : Nat) (F : List Int) (M : Nat → Nat → Int) (ok : Bool) (l : List Int) : Prop where
  mat : diaB e nb F = true → Sound (keptB F [] nb) e.toNat M ∧ Comp (keptB F [] nb) e.toNat e.toNat M
  iff : ok = true ↔ diaB e nb F = true ∧ ∀ a, a < e.toNat → 0 ≤ M a a
  yes : ok = true → ∃ Ws outs, NdS F nb e.toNat Ws outs nb ∧ l = outs nb
  no : ok = false → l = []
/-- the kept cells of one round more -/
theorem krows_next {F : List Int} {nb n : Nat} {Ws outs : Nat → List Int} {i k : Nat} (h : NdS F nb n Ws outs i) (hk : k < i) :
    krows F (Ws (k + 1)) (k + 1) = if (Ws (k + 1)).contains (k : Int) then krows F (Ws k) k else krows F (Ws k) k ++ [F.getD (k * 3) 0, F.getD (k * 3 + 1) 0, F.getD (k * 3 + 2) 0] := by
  obtain ⟨q1, -⟩ := h.facts k (by omega)
  obtain ⟨M, ok, -, -, -, g4, -⟩ := h.step k hk
  have same : ∀ j, j ≤ k → krows F (Ws (k + 1)) j = krows F (Ws k) j := by
    intro j
    induction j with
    | zero => intro _; rfl
    | succ j ih =>
      intro hj
      have e : (Ws (k + 1)).contains (j : Int) = (Ws k).contains (j : Int) := by
        rw [g4]
        cases ok with
        | true => simp only [if_true]; rw [List.contains_append]; simp; omega
        | false => simp
      simp only [krows, e, ih (by omega)]
  simp only [krows, same k (Nat.le_refl _)]
theorem NdS.has {F : List Int} {nb n : Nat} {Ws outs : Nat → List Int} {i k : Nat} (h : NdS F nb n Ws outs i) (hk : k < i) (ok : Bool) (h4 : Ws (k + 1) = (if ok then Ws k ++ [(k : Int)] else Ws k)) : (Ws (k + 1)).contains (k : Int) = ok := by
  obtain ⟨q1, -⟩ := h.facts k (by omega)
  rw [h4]
  cases ok with
  | true => simp only [if_true]; rw [List.contains_append]; simp
  | false =>
    simp only [Bool.false_eq_true, if_false]
    cases hc : (Ws k).contains (k : Int) with
    | false => rfl
    | true => have := q1 _ (List.contains_iff_mem.1 hc); omega
end Go.Proofs.Ytlpdiodkolcfcab
