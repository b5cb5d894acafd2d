/- The table ahead of the rounds: the bounds themselves. Plain maths, nothing of the program. -/
import Derived.Test.YtkipgeecibimoaaRelMath
namespace Go.Proofs.Ytkipgeecibimoaa
theorem Way.mono {bs cs : List Bd} (h : ∀ b ∈ bs, b ∈ cs) {i k c : Nat} {s : Int} (hw : Way bs i k c s) : Way cs i k c s := by
  induction hw with
  | nil => exact .nil
  | snoc b _ hb hf ih => exact .snoc b ih (h b hb) hf
theorem Sound.mono {bs cs : List Bd} {n : Nat} {M : Nat → Nat → Int} (h : ∀ b ∈ bs, b ∈ cs) (hs : Sound bs n M) : Sound cs n M := fun a b ha hb =>
  ⟨(hs a b ha hb).1, fun hlt => by obtain ⟨c, hw⟩ := (hs a b ha hb).2 hlt; exact ⟨c, hw.mono h⟩⟩
def tab0 : Nat → Nat → Int := fun a b => if a = b then 0 else 1000000
structure Ini (bs : List Bd) (n : Nat) (M : Nat → Nat → Int) : Prop where
  snd : Sound bs n M
  diag : ∀ a, a < n → M a a ≤ 0
  edge : ∀ b ∈ bs, M b.f b.t ≤ b.m
  low : ∀ a b, a < n → b < n → -1000 ≤ M a b
theorem Ini.start (n : Nat) : Ini [] n tab0 := by
  refine ⟨fun a b _ _ => ⟨by unfold tab0; split <;> omega, fun h => ?_⟩, fun a _ => by simp [tab0], fun b hb => by simp at hb, fun a b _ _ => by unfold tab0; split <;> omega⟩
  unfold tab0 at h ⊢
  by_cases e : a = b
  · subst e; rw [if_pos rfl]; exact ⟨0, .nil⟩
  · rw [if_neg e] at h; omega
theorem Ini.step {bs : List Bd} {n : Nat} {M : Nat → Nat → Int} (h : Ini bs n M) (b : Bd) (hf : b.f < n) (ht : b.t < n) (h1 : -1000 ≤ b.m) (h2 : b.m ≤ 1000) :
    Ini (bs ++ [b]) n (put M b.f b.t (if M b.f b.t ≤ b.m then M b.f b.t else b.m)) := by
  obtain ⟨x, hx⟩ : ∃ x, (if M b.f b.t ≤ b.m then M b.f b.t else b.m) = x := ⟨_, rfl⟩
  have hx1 : x ≤ M b.f b.t ∧ x ≤ b.m ∧ (x = M b.f b.t ∨ x = b.m) := by
    rw [← hx]; split
    · exact ⟨Int.le_refl _, by assumption, .inl rfl⟩
    · exact ⟨by omega, Int.le_refl _, .inr rfl⟩
  rw [hx]
  have e1 : put M b.f b.t x b.f b.t = x := by simp [put]
  have e2 : ∀ i k, ¬ (i = b.f ∧ k = b.t) → put M b.f b.t x i k = M i k := fun i k hn => by simp only [put, if_neg hn]
  have hs := h.snd.mono (cs := bs ++ [b]) (fun y hy => List.mem_append_left _ hy)
  refine ⟨fun i k hi hk => ?_, fun a ha => ?_, fun c hc => ?_, fun i k hi hk => ?_⟩
  · by_cases he : i = b.f ∧ k = b.t
    · obtain ⟨rfl, rfl⟩ := he
      rw [e1]
      refine ⟨by have := (hs b.f b.t hi hk).1; omega, fun hlt => ?_⟩
      rcases hx1.2.2 with e | e
      · rw [e]; exact (hs b.f b.t hi hk).2 (by omega)
      · have := Way.snoc (bs := bs ++ [b]) (i := b.f) b .nil (by simp) rfl
        rw [Int.zero_add] at this
        rw [e]; exact ⟨_, this⟩
    · rw [e2 i k he]; exact hs i k hi hk
  · by_cases he : a = b.f ∧ a = b.t
    · have := h.diag a ha
      have e3 : put M b.f b.t x a a = x := by rw [put, if_pos he]
      rw [e3]
      obtain ⟨e4, e5⟩ := he
      rw [← e4, ← e5] at hx1
      omega
    · rw [e2 a a he]; exact h.diag a ha
  · rcases List.mem_append.1 hc with hc | hc
    · by_cases he : c.f = b.f ∧ c.t = b.t
      · have := h.edge c hc
        rw [he.1, he.2] at this ⊢
        rw [e1]; omega
      · rw [e2 _ _ he]; exact h.edge c hc
    · obtain rfl : c = b := by simpa using hc
      rw [e1]; omega
  · by_cases he : i = b.f ∧ k = b.t
    · obtain ⟨rfl, rfl⟩ := he
      rw [e1]
      have := h.low b.f b.t hi hk
      rcases hx1.2.2 with e | e <;> omega
    · rw [e2 i k he]; exact h.low i k hi hk
theorem Ini.comp {bs : List Bd} {n : Nat} {M : Nat → Nat → Int} (h : Ini bs n M) : Comp bs n 0 M := .inr fun a b c s ha hb hw hc => by
  cases hw with
  | nil => exact h.diag a ha
  | one e he hf => subst hf; exact h.edge e he
  | snoc e _ hj _ _ => omega

/-- the bounds whose numbers are F, three for each -/
def bdAt (F : List Int) (k : Nat) : Bd := ⟨(F.getD (k * 3) 0).toNat, (F.getD (k * 3 + 1) 0).toNat, F.getD (k * 3 + 2) 0⟩
/-- the first k bounds without some -/
def keptB (F W : List Int) : Nat → List Bd
  | 0 => []
  | k + 1 => if W.contains (k : Int) then keptB F W k else keptB F W k ++ [bdAt F k]
theorem keptB_mem (F W : List Int) (b : Bd) : ∀ k, b ∈ keptB F W k ↔ ∃ j, j < k ∧ W.contains (j : Int) = false ∧ bdAt F j = b
  | 0 => by simp [keptB]
  | k + 1 => by
    have ih := keptB_mem F W b k
    unfold keptB
    by_cases hc : W.contains (k : Int) = true
    · rw [if_pos hc, ih]
      constructor
      · rintro ⟨j, h1, h2⟩
        exact ⟨j, by omega, h2⟩
      · rintro ⟨j, h1, h2, h3⟩
        rcases Nat.lt_succ_iff_lt_or_eq.1 h1 with h | rfl
        · exact ⟨j, h, h2, h3⟩
        · rw [hc] at h2; cases h2
    · rw [if_neg hc, List.mem_append, ih]
      constructor
      · rintro (⟨j, h1, h2⟩ | h)
        · exact ⟨j, by omega, h2⟩
        · exact ⟨k, by omega, by simpa using hc, (by simpa using h : b = bdAt F k).symm⟩
      · rintro ⟨j, h1, h2, h3⟩
        rcases Nat.lt_succ_iff_lt_or_eq.1 h1 with h | rfl
        · exact .inl ⟨j, h, h2, h3⟩
        · exact .inr (by rw [h3]; simp)
/-- each bound is one of n events, at most 1000 -/
def FsIn (F : List Int) (n nb : Nat) : Prop := ∀ k, k < nb → (0 ≤ F.getD (k * 3) 0 ∧ F.getD (k * 3) 0 < n) ∧ (0 ≤ F.getD (k * 3 + 1) 0 ∧ F.getD (k * 3 + 1) 0 < n) ∧ -1000 ≤ F.getD (k * 3 + 2) 0 ∧ F.getD (k * 3 + 2) 0 ≤ 1000
theorem keptB_in {F W : List Int} {n nb : Nat} (h : FsIn F n nb) : BdsIn (keptB F W nb) n := fun b hb => by
  obtain ⟨j, h1, _, rfl⟩ := (keptB_mem F W b nb).1 hb
  obtain ⟨q1, q2, q3, q4⟩ := h j h1
  unfold bdAt
  dsimp only
  omega
def vLow (m : Nat) : Int := 1000 * ((6 ^ m : Nat) : Int)
theorem vLow_succ (m : Nat) : vLow (m + 1) = 6 * vLow m := by
  unfold vLow; rw [Nat.pow_succ]; push_cast; omega
theorem vLow_le (m : Nat) (h : m ≤ 10) : 0 ≤ vLow m ∧ vLow m ≤ 60466176000 := by
  have h1 : (6 ^ m : Nat) ≤ 6 ^ 10 := Nat.pow_le_pow_right (by decide) h
  have h2 : (6 ^ 10 : Nat) = 60466176 := by decide
  rw [h2] at h1
  unfold vLow
  constructor
  · exact Int.mul_nonneg (by decide) (Int.natCast_nonneg _)
  · obtain ⟨x, hx⟩ : ∃ x : Nat, 6 ^ m = x := ⟨_, rfl⟩
    rw [hx] at h1 ⊢
    omega
end Go.Proofs.Ytkipgeecibimoaa
