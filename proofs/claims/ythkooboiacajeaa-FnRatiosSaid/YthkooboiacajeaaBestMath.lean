/- Mathematics of the nearest ratio: the search by two candidates for each lower number. Nothing of the program. -/
import Derived.WalkKit
namespace Go.Proofs.Ythkooboiacajeaa
set_option linter.unusedVariables false

/-- how far a fraction is from the goal N / D, times both lower numbers -/
def dsB (N D n d : Nat) : Nat := ((n : Int) * (D : Int) - (N : Int) * (d : Int)).natAbs
/-- the nearer one of two -/
def stB2 (N D : Nat) (s : Nat × Nat) (n d : Nat) : Nat × Nat := if dsB N D n d * s.2 < dsB N D s.1 s.2 * d then (n, d) else s
/-- behind the lower numbers up to d -/
def bsF (N D : Nat) (s0 : Nat × Nat) : Nat → Nat × Nat
  | 0 => s0
  | d + 1 => stB2 N D (stB2 N D (bsF N D s0 d) (N * (d + 1) / D) (d + 1)) (N * (d + 1) / D + 1) (d + 1)
theorem stB2_zero (N D : Nat) (s : Nat × Nat) (n d : Nat) (h : dsB N D s.1 s.2 = 0) : stB2 N D s n d = s := by
  unfold stB2; rw [if_neg (by rw [h]; simp)]
theorem bsF_zero (N D : Nat) (s0 : Nat × Nat) (d e : Nat) (h : dsB N D (bsF N D s0 d).1 (bsF N D s0 d).2 = 0) : bsF N D s0 (d + e) = bsF N D s0 d := by
  induction e with
  | zero => rfl
  | succ e ih =>
    rw [← Nat.add_assoc, bsF, ih, stB2_zero _ _ _ _ _ h, stB2_zero _ _ _ _ _ h]
theorem bsF_half (N D : Nat) (s0 : Nat × Nat) (d : Nat) (s : Nat × Nat) (hs : s = stB2 N D (bsF N D s0 d) (N * (d + 1) / D) (d + 1)) (h : dsB N D s.1 s.2 = 0) : bsF N D s0 (d + 1) = s := by
  rw [bsF, ← hs, stB2_zero _ _ _ _ _ h]
/-- it does not matter with which of two one begins -/
theorem bsF_one (N D : Nat) (hD : 0 < D) (d : Nat) : bsF N D (0, 1) (d + 1) = bsF N D (N / D, 1) (d + 1) := by
  induction d with
  | zero =>
    have e : stB2 N D (0, 1) (N * 1 / D) 1 = (N / D, 1) := by
      unfold stB2 dsB
      rw [Nat.mul_one]
      have h1 := Nat.div_mul_le_self N D
      have h2 : (0 : Nat) < N / D → D ≤ (N / D) * D := fun h => Nat.le_mul_of_pos_left D h
      simp only [Nat.mul_one]
      generalize hq : N / D = q at *
      generalize hz : q * D = z at *
      have hz2 : (q : Int) * (D : Int) = (z : Int) := by rw [← hz]; simp
      rw [hz2]
      by_cases hq0 : q = 0
      · subst hq0
        simp at hz
        subst hz
        simp
      · rw [if_pos (by have := h2 (by omega); simp; omega)]
    have e2 : stB2 N D (N / D, 1) (N * 1 / D) 1 = (N / D, 1) := by
      unfold stB2
      rw [Nat.mul_one]
      simp
    rw [bsF, bsF, bsF, bsF, e, e2]
  | succ d ih => rw [bsF, ih, ← bsF]

theorem dsB_mul (N D g n d : Nat) : dsB N D (g * n) (g * d) = g * dsB N D n d := by
  unfold dsB
  have : ((g * n : Nat) : Int) * (D : Int) - (N : Int) * ((g * d : Nat) : Int) = (g : Int) * ((n : Int) * (D : Int) - (N : Int) * (d : Int)) := by
    simp only [Int.natCast_mul, Int.mul_sub, Int.mul_assoc, Int.mul_left_comm]
  rw [this, Int.natAbs_mul]; rfl
/-- what holds of the nearest one: nothing before it is nearer, and it is in lowest terms -/
def Near (N D : Nat) (s : Nat × Nat) (d : Nat) : Prop :=
  0 < s.2 ∧ Nat.gcd s.1 s.2 = 1 ∧ ∀ e, 0 < e → e ≤ d → ∀ n, n = N * e / D ∨ n = N * e / D + 1 → dsB N D s.1 s.2 * e ≤ dsB N D n e * s.2
theorem cand_div (N D g n d : Nat) (hD : 0 < D) (hg : 0 < g) (h : g * n = N * (g * d) / D ∨ g * n = N * (g * d) / D + 1) : n = N * d / D ∨ n = N * d / D + 1 := by
  have e : N * (g * d) = g * (N * d) := by rw [Nat.mul_left_comm]
  rw [e] at h
  generalize N * d = x at *
  have h1 := Nat.div_add_mod x D
  have h2 := Nat.mod_lt x hD
  have h3 := Nat.div_add_mod (g * x) D
  have h4 := Nat.mod_lt (g * x) hD
  generalize x / D = q at *
  generalize x % D = r at *
  generalize (g * x) / D = Q at *
  generalize (g * x) % D = R at *
  subst h1
  have key1 : g * q ≤ Q := by
    have : D * (g * q) ≤ D * Q + R := by
      rw [h3, Nat.mul_add, Nat.mul_left_comm]; omega
    by_cases hh : g * q ≤ Q
    · exact hh
    · have : D * (Q + 1) ≤ D * (g * q) := Nat.mul_le_mul_left D (by omega)
      rw [Nat.mul_add] at this; omega
  have key2 : Q < g * (q + 1) := by
    have : D * Q + R < D * (g * (q + 1)) := by
      rw [h3]
      have : D * (g * (q + 1)) = g * (D * q + D) := by rw [Nat.mul_left_comm, Nat.mul_add, Nat.mul_one]
      rw [this]
      exact Nat.mul_lt_mul_of_pos_left (by omega) hg
    exact Nat.lt_of_mul_lt_mul_left (Nat.lt_of_le_of_lt (Nat.le_add_right _ _) this)
  have k3 : g * q ≤ g * n := by rcases h with h | h <;> omega
  have k4 : g * n ≤ g * (q + 1) := by rcases h with h | h <;> omega
  have k5 : q ≤ n := Nat.le_of_mul_le_mul_left k3 hg
  have k6 : n ≤ q + 1 := Nat.le_of_mul_le_mul_left k4 hg
  omega
theorem near_step (N D : Nat) (s : Nat × Nat) (d n : Nat) (hD : 0 < D) (hd : 0 < d) (hn : n = N * d / D ∨ n = N * d / D + 1) (h : Near N D s (d - 1)) :
    0 < (stB2 N D s n d).2 ∧ Nat.gcd (stB2 N D s n d).1 (stB2 N D s n d).2 = 1 ∧ dsB N D (stB2 N D s n d).1 (stB2 N D s n d).2 * s.2 ≤ dsB N D s.1 s.2 * (stB2 N D s n d).2 ∧ dsB N D (stB2 N D s n d).1 (stB2 N D s n d).2 * d ≤ dsB N D n d * (stB2 N D s n d).2 := by
  obtain ⟨h1, h3, h4⟩ := h
  unfold stB2
  split
  · rename_i hlt
    refine ⟨hd, ?_, Nat.le_of_lt hlt, Nat.le_refl _⟩
    by_cases hg : Nat.gcd n d = 1
    · exact hg
    · exfalso
      have g0 : 0 < Nat.gcd n d := Nat.gcd_pos_of_pos_right _ hd
      obtain ⟨n', hn'⟩ := Nat.gcd_dvd_left n d
      obtain ⟨d', hd'⟩ := Nat.gcd_dvd_right n d
      generalize Nat.gcd n d = g at *
      have hd0 : 0 < d' := by
        cases d' with
        | zero => simp at hd'; omega
        | succ k => omega
      have hlt2 : d' < d := by
        rw [hd']
        have : 2 * d' ≤ g * d' := Nat.mul_le_mul_right d' (by omega)
        omega
      have hc := cand_div N D g n' d' hD g0 (by rw [← hn', ← hd']; exact hn)
      have h5 := h4 d' hd0 (by omega) n' hc
      rw [hn', hd', dsB_mul] at hlt
      have h6 : g * (dsB N D n' d' * s.2) < g * (dsB N D s.1 s.2 * d') := by
        have e1 : g * dsB N D n' d' * s.2 = g * (dsB N D n' d' * s.2) := Nat.mul_assoc _ _ _
        have e2 : dsB N D s.1 s.2 * (g * d') = g * (dsB N D s.1 s.2 * d') := Nat.mul_left_comm _ _ _
        rw [e1, e2] at hlt; exact hlt
      have h7 := Nat.lt_of_mul_lt_mul_left h6
      omega
  · rename_i hlt
    exact ⟨h1, h3, Nat.le_refl _, by omega⟩
theorem near_up (N D : Nat) (s t : Nat × Nat) (hs0 : 0 < s.2) (ht : dsB N D t.1 t.2 * s.2 ≤ dsB N D s.1 s.2 * t.2) (e n : Nat) (h : dsB N D s.1 s.2 * e ≤ dsB N D n e * s.2) : dsB N D t.1 t.2 * e ≤ dsB N D n e * t.2 := by
  generalize dsB N D t.1 t.2 = a at *
  generalize dsB N D s.1 s.2 = b at *
  generalize dsB N D n e = c at *
  apply Nat.le_of_mul_le_mul_right _ hs0
  calc a * e * s.2 = a * s.2 * e := by rw [Nat.mul_right_comm]
    _ ≤ b * t.2 * e := Nat.mul_le_mul_right e ht
    _ = b * e * t.2 := by rw [Nat.mul_right_comm]
    _ ≤ c * s.2 * t.2 := Nat.mul_le_mul_right _ h
    _ = c * t.2 * s.2 := by rw [Nat.mul_right_comm]
theorem near_all (N D : Nat) (hD : 0 < D) (d : Nat) : Near N D (bsF N D (N / D, 1) d) d := by
  induction d with
  | zero => exact ⟨Nat.one_pos, by simp [bsF], fun e h1 h2 => by omega⟩
  | succ d ih =>
    rw [bsF]
    generalize bsF N D (N / D, 1) d = s at *
    obtain ⟨a1, a3, a4, a5⟩ := near_step N D s (d + 1) (N * (d + 1) / D) hD (by omega) (.inl rfl) (by simpa using ih)
    generalize stB2 N D s (N * (d + 1) / D) (d + 1) = t at *
    have ht : Near N D t d := ⟨a1, a3, fun e h1 h2 n hn => near_up N D s t ih.1 a4 e n (ih.2.2 e h1 h2 n hn)⟩
    obtain ⟨b1, b3, b4, b5⟩ := near_step N D t (d + 1) (N * (d + 1) / D + 1) hD (by omega) (.inr rfl) (by simpa using ht)
    generalize stB2 N D t (N * (d + 1) / D + 1) (d + 1) = u at *
    refine ⟨b1, b3, fun e h1 h2 n hn => ?_⟩
    by_cases he : e ≤ d
    · exact near_up N D t u a1 b4 e n (ht.2.2 e h1 he n hn)
    · obtain rfl : e = d + 1 := by omega
      rcases hn with rfl | rfl
      · exact near_up N D t u a1 b4 _ _ a5
      · exact b5
theorem st_bnd (N D : Nat) (s : Nat × Nat) (n d M : Nat) (hs : s.1 ≤ 1001 * M ∧ 0 < s.2 ∧ s.2 ≤ M) (hn : n ≤ 1001 * M) (hd : 0 < d) (hd2 : d ≤ M) : (stB2 N D s n d).1 ≤ 1001 * M ∧ 0 < (stB2 N D s n d).2 ∧ (stB2 N D s n d).2 ≤ M := by
  unfold stB2; split
  · exact ⟨hn, hd, hd2⟩
  · exact hs
theorem cand_bnd (N D d M : Nat) (hD : 0 < D) (hN : N ≤ 1000 * D) (hd2 : d ≤ M) : N * d / D ≤ 1000 * M := by
  apply Nat.div_le_of_le_mul
  calc N * d ≤ 1000 * D * M := Nat.mul_le_mul hN hd2
    _ = D * (1000 * M) := by rw [Nat.mul_comm 1000 D, Nat.mul_assoc]
theorem bs_bnd (N D : Nat) (s0 : Nat × Nat) (M : Nat) (hD : 0 < D) (hN : N ≤ 1000 * D) (h0 : s0.1 ≤ 1001 * M ∧ 0 < s0.2 ∧ s0.2 ≤ M) (d : Nat) (hd : d ≤ M) : (bsF N D s0 d).1 ≤ 1001 * M ∧ 0 < (bsF N D s0 d).2 ∧ (bsF N D s0 d).2 ≤ M := by
  induction d with
  | zero => exact h0
  | succ d ih =>
    rw [bsF]
    have hc := cand_bnd N D (d + 1) M hD hN hd
    exact st_bnd _ _ _ _ _ _ (st_bnd _ _ _ _ _ _ (ih (by omega)) (by omega) (by omega) hd) (by omega) (by omega) hd
theorem ds_bnd (N D n d M : Nat) (hD : D ≤ 1000000) (hN : N ≤ 1000000000) (hM : M ≤ 10000) (hn : n ≤ 1001 * M) (hd : d ≤ M) : dsB N D n d ≤ 20010000000000 := by
  unfold dsB
  have h1 : n * D ≤ 10010000 * 1000000 := Nat.mul_le_mul (by omega) hD
  have h2 : N * d ≤ 1000000000 * 10000 := Nat.mul_le_mul hN (by omega)
  have e1 : (n : Int) * (D : Int) = ((n * D : Nat) : Int) := by simp
  have e2 : (N : Int) * (d : Int) = ((N * d : Nat) : Int) := by simp
  rw [e1, e2]; omega
end Go.Proofs.Ythkooboiacajeaa
