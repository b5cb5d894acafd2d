/- Two clocks: where they meet, and how near their edges come: mathematics. -/
import Derived.Test.YtafecdmcbpnniaaMeetM
import Derived.Test.YtafecdmcbpnniaaCmn
import Derived.Test.YtafecdmcbpnniaaGap2
namespace Go.Proofs.Ytafecdmcbpnniaa
set_option linter.unusedVariables false
theorem bezN : ∀ (n x y : Nat), y ≤ n → ∃ s t : Int, s * x + t * y = (Nat.gcd x y : Nat)
  | 0, x, y, hy => ⟨1, 0, by rw [show y = 0 by omega]; simp⟩
  | n + 1, x, y, hy => by
    by_cases h0 : y = 0
    · exact ⟨1, 0, by subst h0; simp⟩
    · have hlt : x % y < y := Nat.mod_lt _ (by omega)
      obtain ⟨s, t, he⟩ := bezN n y (x % y) (by omega)
      refine ⟨t, s - t * (x / y : Nat), ?_⟩
      have hg : Nat.gcd y (x % y) = Nat.gcd x y := by rw [Nat.gcd_comm x y, Nat.gcd_rec y x, Nat.gcd_comm]
      rw [hg] at he
      rw [← he]
      have hx : (x : Int) = (y : Int) * ((x / y : Nat) : Int) + ((x % y : Nat) : Int) := by
        have := Nat.div_add_mod x y
        exact_mod_cast this.symm
      have hx' : t * (x : Int) = t * ((y : Int) * ((x / y : Nat) : Int) + ((x % y : Nat) : Int)) := by rw [← hx]
      rw [hx', Int.mul_add, Int.sub_mul, Int.mul_assoc t ((x / y : Nat) : Int) (y : Int), Int.mul_comm ((x / y : Nat) : Int) (y : Int)]
      omega
theorem bezZ (P p : Int) (hP : 1 ≤ P) (hp : 1 ≤ p) : ∃ f y : Int, f * P + y * p = (Int.gcd P p : Int) := by
  obtain ⟨x, rfl⟩ := Int.eq_ofNat_of_zero_le (show 0 ≤ P by omega)
  obtain ⟨z, rfl⟩ := Int.eq_ofNat_of_zero_le (show 0 ≤ p by omega)
  obtain ⟨s, t, h⟩ := bezN z x z (Nat.le_refl _)
  exact ⟨s, t, h⟩
theorem next_edge (p o t : Int) (hp : 1 ≤ p) (ho : 0 ≤ o) (ht : 0 ≤ t) : t ≤ o + befZ p o t * p ∧ edgeP p o (o + befZ p o t * p) ∧ ∀ u, edgeP p o u → t ≤ u → o + befZ p o t * p ≤ u := by
  obtain ⟨b0, b1, b2, b3⟩ := befZ_bd p o t hp ht ho
  refine ⟨b2, (edgeP_iff _ _ _ hp).2 ⟨_, b0, rfl⟩, fun u hu htu => ?_⟩
  obtain ⟨i, hi, rfl⟩ := (edgeP_iff _ _ _ hp).1 hu
  apply Decidable.byContradiction
  intro hn
  have h1 : i < befZ p o t := by
    apply Decidable.byContradiction
    intro h2
    have : befZ p o t * p ≤ i * p := Int.mul_le_mul_of_nonneg_right (by omega) (by omega)
    omega
  have h3 := b3 (by omega)
  have h4 : i * p ≤ (befZ p o t - 1) * p := Int.mul_le_mul_of_nonneg_right (by omega) (by omega)
  omega
/-- two clocks whose offsets fit do meet, and soon -/
theorem meet_soon (P O p o : Int) (hP : 1 ≤ P) (hp : 1 ≤ p) (hO : 0 ≤ O) (ho : 0 ≤ o) (hd : (o - O) % (Int.gcd P p : Int) = 0) :
    ∃ t, edgeP P O t ∧ edgeP p o t ∧ 0 ≤ t ∧ t < O + o + P * p + 1 := by
  obtain ⟨f, y, hf⟩ := bezZ P p hP hp
  obtain ⟨i1, i2, i3⟩ := index_ok P O p o f y _ hP hp rfl hf hd
  obtain ⟨k, hk⟩ : ∃ k, ((o - O) / (Int.gcd P p : Int) * f) % (p / (Int.gcd P p : Int)) = k := ⟨_, rfl⟩
  rw [hk] at i1 i2 i3
  obtain ⟨u1, u2, u3⟩ := rounds_pos P p hP hp
  have hma := fun t => meet_at P O p o k t hP hp i1 i2 i3
  obtain ⟨T, hT⟩ : ∃ T, p / (Int.gcd P p : Int) = T := ⟨_, rfl⟩
  rw [hT] at hma i3 u1 u2
  have hL0 : 1 * 1 ≤ P * T := Int.mul_le_mul hP u1 (by omega) (by omega)
  have hL : P * T ≤ P * p := Int.mul_le_mul_of_nonneg_left u2 (by omega)
  have hkP : 0 ≤ k * P := Int.mul_nonneg i2 (by omega)
  have hkP2 : k * P ≤ (T - 1) * P := Int.mul_le_mul_of_nonneg_right (by omega) (by omega)
  rw [Int.sub_mul, Int.one_mul, Int.mul_comm T P] at hkP2
  obtain ⟨n1, n2, n3⟩ := next_edge (P * T) (O + k * P) o (by omega) (by omega) ho
  refine ⟨_, ((hma _).2 ⟨n2, n1⟩).1, ((hma _).2 ⟨n2, n1⟩).2, by omega, ?_⟩
  -- the least one from o on
  by_cases hle : o ≤ O + k * P
  · have := n3 (O + k * P) ((edgeP_iff _ _ _ (by omega)).2 ⟨0, by omega, by omega⟩) hle
    omega
  · obtain ⟨b0, b1, b2, b3⟩ := befZ_bd (P * T) (O + k * P) o (by omega) ho (by omega)
    have hb : 0 < befZ (P * T) (O + k * P) o := by
      apply Decidable.byContradiction
      intro hn
      have : befZ (P * T) (O + k * P) o = 0 := by omega
      rw [this] at b2; omega
    have h3 := b3 hb
    have e : (befZ (P * T) (O + k * P) o - 1) * (P * T) = befZ (P * T) (O + k * P) o * (P * T) - P * T := by rw [Int.sub_mul, Int.one_mul]
    omega
theorem gcd_dvd_two (A B : Int) (hA : 1 ≤ A) (hB : 1 ≤ B) : ∃ x y : Int, A = x * (Int.gcd A B : Int) ∧ B = y * (Int.gcd A B : Int) := by
  obtain ⟨g, P1, p1, hg, hg1, hP1, hp1, -⟩ := gcd_parts A B hA hB
  exact ⟨P1, p1, by rw [hg, hP1, Int.mul_comm], by rw [hg, hp1, Int.mul_comm]⟩
/-- from an edge of the one to the next one of the other it takes at least the remainder -/
theorem wait_ge (A ao B bo t : Int) (hA : 1 ≤ A) (hB : 1 ≤ B) (ha : 0 ≤ ao) (hb : 0 ≤ bo) (ht : edgeP A ao t) :
    (bo - ao) % (Int.gcd A B : Int) ≤ bo + befZ B bo t * B - t ∧ ((bo + befZ B bo t * B - t) % (Int.gcd A B : Int) = (bo - ao) % (Int.gcd A B : Int)) := by
  obtain ⟨g1, -, -⟩ := gcdZ_bd A B hA hB
  obtain ⟨x, y, hx, hy⟩ := gcd_dvd_two A B hA hB
  obtain ⟨i, hi, rfl⟩ := (edgeP_iff _ _ _ hA).1 ht
  have hiA : 0 ≤ i * A := Int.mul_nonneg hi (by omega)
  obtain ⟨n1, -, -⟩ := next_edge B bo (ao + i * A) hB hb (by omega)
  obtain ⟨q, hq⟩ : ∃ q, befZ B bo (ao + i * A) = q := ⟨_, rfl⟩
  rw [hq] at n1 ⊢
  obtain ⟨g, hg⟩ : ∃ g : Int, (Int.gcd A B : Int) = g := ⟨_, rfl⟩
  rw [hg] at g1 hx hy ⊢
  have e : bo + q * B - (ao + i * A) = (bo - ao) + g * (q * y - i * x) := by
    have e1 : q * B = g * (q * y) := by rw [hy, Int.mul_comm y g, Int.mul_left_comm]
    have e2 : i * A = g * (i * x) := by rw [hx, Int.mul_comm x g, Int.mul_left_comm]
    rw [Int.mul_sub]; omega
  have hm : (bo + q * B - (ao + i * A)) % g = (bo - ao) % g := by rw [e, Int.add_mul_emod_self_left]
  refine ⟨?_, hm⟩
  rw [← hm]
  have h0 := Int.emod_add_mul_ediv (bo + q * B - (ao + i * A)) g
  have h1 : 0 ≤ g * ((bo + q * B - (ao + i * A)) / g) := Int.mul_nonneg (by omega) (Int.ediv_nonneg (by omega) (by omega))
  omega
/-- and somewhere it takes as long as the remainder -/
theorem wait_eq (A ao B bo : Int) (hA : 1 ≤ A) (hB : 1 ≤ B) (ha : 0 ≤ ao) (hb : 0 ≤ bo) :
    ∃ t, edgeP A ao t ∧ 0 ≤ t ∧ t < ao + bo + B + A * B + 1 ∧ bo + befZ B bo t * B - t = (bo - ao) % (Int.gcd A B : Int) := by
  obtain ⟨g1, g2, g3⟩ := gcdZ_bd A B hA hB
  obtain ⟨x, y, hx, hy⟩ := gcd_dvd_two A B hA hB
  have r0 := Int.emod_nonneg (bo - ao) (show (Int.gcd A B : Int) ≠ 0 by omega)
  have r1 := Int.emod_lt_of_pos (bo - ao) (show (0 : Int) < (Int.gcd A B : Int) by omega)
  have hdm := Int.emod_add_mul_ediv (bo - ao) (Int.gcd A B : Int)
  obtain ⟨R, hR⟩ : ∃ R, (bo - ao) % (Int.gcd A B : Int) = R := ⟨_, rfl⟩
  rw [hR] at r0 r1 hdm ⊢
  have hd : (bo - R + B - ao) % (Int.gcd A B : Int) = 0 := by
    rw [show bo - R + B - ao = (Int.gcd A B : Int) * ((bo - ao) / (Int.gcd A B : Int) + y) by
      rw [Int.mul_add, Int.mul_comm (Int.gcd A B : Int) y, ← hy]; omega]
    exact Int.mul_emod_right _ _
  obtain ⟨t, t1, t2, t3, t4⟩ := meet_soon A ao B (bo - R + B) hA hB ha (by omega) hd
  refine ⟨t, t1, t3, by omega, ?_⟩
  obtain ⟨j, hj, hjt⟩ := (edgeP_iff _ _ _ hB).1 t2
  obtain ⟨n1, n2, n3⟩ := next_edge B bo t hB hb t3
  have h5 := n3 (t + R) ((edgeP_iff _ _ _ hB).2 ⟨j + 1, by omega, by rw [Int.add_mul, Int.one_mul]; omega⟩) (by omega)
  obtain ⟨h6, h7⟩ := wait_ge A ao B bo t hA hB ha hb t1
  rw [hR] at h6
  omega
/-- common edges are a common period apart -/
theorem com_apart (A ao B bo r t L : Int) (hA : 1 ≤ A) (hB : 1 ≤ B) (hL : L = A / (Int.gcd A B : Int) * B) (h1 : edgeP A ao r ∧ edgeP B bo r) :
    (edgeP A ao t ∧ edgeP B bo t ∧ r ≤ t) ↔ (r ≤ t ∧ (t - r) % L = 0) := by
  obtain ⟨g, P1, p1, hg, hg1, hP1, hp1, hq1, hq2, hc⟩ := gcd_parts A B hA hB
  have hAg : A / (Int.gcd A B : Int) = P1 := by rw [hg, hP1]; exact Int.mul_ediv_cancel_left _ (by omega)
  rw [hAg] at hL
  have hLA : L = p1 * A := by rw [hL, hp1, hP1, Int.mul_left_comm, Int.mul_left_comm p1 g P1, Int.mul_comm P1 p1]
  have hL0 : L ≠ 0 := by
    have := Int.mul_pos (show 0 < p1 by omega) (show 0 < A by omega)
    omega
  obtain ⟨⟨a1, a2⟩, b1, b2⟩ := h1
  obtain ⟨za, hza⟩ := (emod_zero_iff _ A (by omega)).1 a2
  obtain ⟨zb, hzb⟩ := (emod_zero_iff _ B (by omega)).1 b2
  constructor
  · rintro ⟨⟨c1, c2⟩, ⟨d1, d2⟩, h⟩
    refine ⟨h, ?_⟩
    obtain ⟨ya, hya⟩ := (emod_zero_iff _ A (by omega)).1 c2
    obtain ⟨yb, hyb⟩ := (emod_zero_iff _ B (by omega)).1 d2
    have e1 : t - r = ya * A - za * A := by omega
    have e2 : (ya * A - za * A) % B = 0 := by
      rw [← e1, emod_zero_iff _ B (by omega)]
      exact ⟨yb - zb, by rw [Int.sub_mul]; omega⟩
    have e3 := (alike A B P1 p1 g ya za hg1 hP1 hp1 hq2 hc).1 e2
    obtain ⟨w, hw⟩ := (emod_zero_iff _ p1 (by omega)).1 e3
    rw [e1, ← Int.sub_mul, hw, hLA, emod_zero_iff _ _ (by rw [← hLA]; exact hL0)]
    exact ⟨w, by rw [Int.mul_assoc]⟩
  · rintro ⟨h, h2⟩
    obtain ⟨w, hw⟩ := (emod_zero_iff _ L hL0).1 h2
    refine ⟨⟨by omega, ?_⟩, ⟨by omega, ?_⟩, h⟩
    · rw [emod_zero_iff _ A (by omega)]
      exact ⟨w * p1 + za, by rw [Int.add_mul, Int.mul_assoc, ← hLA]; omega⟩
    · rw [emod_zero_iff _ B (by omega)]
      exact ⟨w * P1 + zb, by rw [Int.add_mul, Int.mul_assoc, ← hL]; omega⟩
theorem edgeP_dec (p o t : Int) : edgeP p o t ∨ ¬ edgeP p o t := Classical.em _
/-- the least gap -/
def gapZ (A ao B bo : Int) : Int := min (shR A ao B bo) ((Int.gcd A B : Int) - shR A ao B bo)
theorem gcd_swap (A B : Int) : Int.gcd B A = Int.gcd A B := Int.gcd_comm _ _
theorem shR_swap (A ao B bo : Int) (hA : 1 ≤ A) (hB : 1 ≤ B) : shR B bo A ao = if shR A ao B bo = 0 then 0 else (Int.gcd A B : Int) - shR A ao B bo := by
  obtain ⟨g1, -, -⟩ := gcdZ_bd A B hA hB
  unfold shR
  rw [gcd_swap]
  obtain ⟨g, hg⟩ : ∃ g : Int, (Int.gcd A B : Int) = g := ⟨_, rfl⟩
  rw [hg] at g1 ⊢
  have r0 := Int.emod_nonneg (bo - ao) (show g ≠ 0 by omega)
  have r1 := Int.emod_lt_of_pos (bo - ao) (show 0 < g by omega)
  have hdm := Int.emod_add_mul_ediv (bo - ao) g
  split
  · rename_i h
    rw [h] at hdm
    rw [show ao - bo = g * (-((bo - ao) / g)) by rw [Int.mul_neg]; omega]
    exact Int.mul_emod_right _ _
  · rw [show ao - bo = (g - (bo - ao) % g) + g * (-((bo - ao) / g) - 1) by rw [Int.mul_sub, Int.mul_neg]; omega, Int.add_mul_emod_self_left]
    exact Int.emod_eq_of_lt (by omega) (by omega)
theorem gap_bd (A ao B bo : Int) (hA : 1 ≤ A) (hB : 1 ≤ B) : 0 ≤ gapZ A ao B bo ∧ gapZ A ao B bo ≤ A ∧ (gapZ A ao B bo = 0 ↔ shR A ao B bo = 0) := by
  obtain ⟨g1, g2, g3⟩ := gcdZ_bd A B hA hB
  have r0 : 0 ≤ shR A ao B bo := Int.emod_nonneg _ (by omega)
  have r1 : shR A ao B bo < (Int.gcd A B : Int) := Int.emod_lt_of_pos _ (by omega)
  unfold gapZ
  omega
/-- no candidate is below the gap -/
theorem gap_le_x (A ao B bo t : Int) (hA : 1 ≤ A) (hB : 1 ≤ B) (ha : 0 ≤ ao) (hb : 0 ≤ bo) (ht : edgeP A ao t) : gapZ A ao B bo ≤ bo + befZ B bo t * B - t := by
  have h := (wait_ge A ao B bo t hA hB ha hb ht).1
  have : gapZ A ao B bo ≤ shR A ao B bo := by unfold gapZ; omega
  unfold shR at this
  omega
theorem gap_le_y (A ao B bo t : Int) (hA : 1 ≤ A) (hB : 1 ≤ B) (ha : 0 ≤ ao) (hb : 0 ≤ bo) (ht : edgeP B bo t) : gapZ A ao B bo ≤ ao + befZ A ao t * A - t := by
  have h := (wait_ge B bo A ao t hB hA hb ha ht).1
  have hs := shR_swap A ao B bo hA hB
  have : gapZ A ao B bo ≤ shR B bo A ao := by
    rw [hs]; unfold gapZ; split <;> omega
  unfold shR at this
  omega
/-- some candidate is the gap -/
theorem gap_at (A ao B bo : Int) (hA : 1 ≤ A) (hB : 1 ≤ B) (ha : 0 ≤ ao) (hb : 0 ≤ bo) :
    ∃ t, 0 ≤ t ∧ t < ao + bo + A + B + A * B + 1 ∧ ((edgeP A ao t ∧ bo + befZ B bo t * B - t = gapZ A ao B bo) ∨ (edgeP B bo t ∧ ao + befZ A ao t * A - t = gapZ A ao B bo)) := by
  have hs := shR_swap A ao B bo hA hB
  have r0 : 0 ≤ shR A ao B bo := Int.emod_nonneg _ (by have := (gcdZ_bd A B hA hB).1; omega)
  by_cases h : shR A ao B bo ≤ (Int.gcd A B : Int) - shR A ao B bo
  · obtain ⟨t, t1, t2, t3, t4⟩ := wait_eq A ao B bo hA hB ha hb
    refine ⟨t, t2, by omega, .inl ⟨t1, ?_⟩⟩
    rw [t4]; unfold gapZ
    show shR A ao B bo = _
    omega
  · obtain ⟨t, t1, t2, t3, t4⟩ := wait_eq B bo A ao hB hA hb ha
    refine ⟨t, t2, by rw [Int.mul_comm A B]; omega, .inr ⟨t1, ?_⟩⟩
    rw [t4]; unfold gapZ
    show shR B bo A ao = _
    have hg := (gcdZ_bd A B hA hB).1
    rw [hs]
    split
    · omega
    · omega
end Go.Proofs.Ytafecdmcbpnniaa
