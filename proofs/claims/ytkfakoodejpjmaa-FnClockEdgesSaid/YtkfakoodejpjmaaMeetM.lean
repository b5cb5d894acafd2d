/- Where clocks meet: mathematics. -/
import Derived.Test.YtkfakoodejpjmaaCk
namespace Go.Proofs.Ytkfakoodejpjmaa
set_option linter.unusedVariables false
/-- what the extended Euclid knows of both numbers -/
def BZ (A B f x a b : Int) : Prop := ∃ u v s : Int, (s = 1 ∨ s = -1) ∧ f = s * u ∧ x = -(s * v) ∧ 0 ≤ u ∧ 0 ≤ v ∧ u ≤ B ∧ v ≤ B ∧ v * a + u * b = B ∧ (∃ y, f * A + y * B = a) ∧ (∃ z, x * A + z * B = b) ∧ Int.gcd a b = Int.gcd A B ∧ 0 < a ∧ 0 ≤ b
theorem bz_start (A B : Int) (hA : 0 < A) (hB : 1 ≤ B) : BZ A B 1 0 A B :=
  ⟨1, 0, 1, .inl rfl, by omega, by omega, by omega, by omega, by omega, by omega, by omega, ⟨0, by omega⟩, ⟨1, by omega⟩, rfl, hA, by omega⟩
theorem bz_bd {A B f x a b : Int} (h : BZ A B f x a b) : -B ≤ f ∧ f ≤ B ∧ -B ≤ x ∧ x ≤ B ∧ 0 < a ∧ 0 ≤ b := by
  obtain ⟨u, v, s, hs, rfl, rfl, hu, hv, hu2, hv2, -, -, -, -, ha, hb⟩ := h
  rcases hs with rfl | rfl <;> refine ⟨by omega, by omega, by omega, by omega, ha, hb⟩
theorem bz_step {A B f x a b : Int} (h : BZ A B f x a b) (hb : 0 < b) : BZ A B x (f - a / b * x) b (a % b) ∧ -B ≤ a / b * x ∧ a / b * x ≤ B := by
  obtain ⟨u, v, s, hs, rfl, rfl, hu, hv, hu2, hv2, he, ⟨y, hy⟩, ⟨z, hz⟩, hg, ha, hb0⟩ := h
  have hq : 0 ≤ a / b := Int.ediv_nonneg (by omega) (by omega)
  have hr0 := Int.emod_nonneg a (show b ≠ 0 by omega)
  have hr1 := Int.emod_lt_of_pos a hb
  have hd := Int.emod_add_mul_ediv a b
  have hg2 : Int.gcd b (a % b) = Int.gcd a b := by
    obtain ⟨x', rfl⟩ := Int.eq_ofNat_of_zero_le (show 0 ≤ a by omega)
    obtain ⟨y', rfl⟩ := Int.eq_ofNat_of_zero_le hb0
    show Nat.gcd y' (x' % y') = Nat.gcd x' y'
    rw [Nat.gcd_comm x' y', Nat.gcd_rec y' x', Nat.gcd_comm]
  obtain ⟨q, hq2⟩ : ∃ q, a / b = q := ⟨_, rfl⟩
  obtain ⟨r, hr2⟩ : ∃ r, a % b = r := ⟨_, rfl⟩
  rw [hq2] at hq hd ⊢
  rw [hr2] at hr0 hr1 hd hg2 ⊢
  have hqv : 0 ≤ q * v := Int.mul_nonneg hq hv
  have hE : (u + q * v) * b + v * r = B := by
    rw [← he, ← hd, Int.add_mul, Int.mul_add, Int.mul_assoc q v b, Int.mul_comm v (b * q), Int.mul_comm b q, Int.mul_assoc q b v, Int.mul_comm b v]
    omega
  have hvr : 0 ≤ v * r := Int.mul_nonneg hv hr0
  have hle : u + q * v ≤ (u + q * v) * b := by
    have := Int.mul_le_mul_of_nonneg_left (show 1 ≤ b by omega) (show 0 ≤ u + q * v by omega)
    omega
  refine ⟨⟨v, u + q * v, -s, ?_, ?_, ?_, hv, by omega, hv2, by omega, hE, ⟨z, hz⟩, ⟨y - q * z, ?_⟩, by rw [hg2, hg], hb, hr0⟩, ?_, ?_⟩
  · rcases hs with rfl | rfl <;> omega
  · rw [Int.neg_mul]
  · rcases hs with rfl | rfl
    · rw [show q * -(1 * v) = -(q * v) by rw [Int.one_mul, Int.mul_neg]]; omega
    · rw [show q * -(-1 * v) = q * v by rw [Int.neg_mul, Int.one_mul, Int.neg_neg]]; omega
  · have e1 : (s * u - q * -(s * v)) * A = s * u * A - q * (-(s * v) * A) := by rw [Int.sub_mul, Int.mul_assoc q]
    have e2 : (y - q * z) * B = y * B - q * (z * B) := by rw [Int.sub_mul, Int.mul_assoc q]
    have e3 : q * b = q * (-(s * v) * A) + q * (z * B) := by rw [← hz, Int.mul_add]
    rw [Int.mul_comm b q] at hd
    rw [e1, e2]
    omega
  · rcases hs with rfl | rfl
    · rw [show q * -(1 * v) = -(q * v) by rw [Int.one_mul, Int.mul_neg]]; omega
    · rw [show q * -(-1 * v) = q * v by rw [Int.neg_mul, Int.one_mul, Int.neg_neg]]; omega
  · rcases hs with rfl | rfl
    · rw [show q * -(1 * v) = -(q * v) by rw [Int.one_mul, Int.mul_neg]]; omega
    · rw [show q * -(-1 * v) = q * v by rw [Int.neg_mul, Int.one_mul, Int.neg_neg]]; omega
theorem bz_end {A B f x a : Int} (h : BZ A B f x a 0) : a = (Int.gcd A B : Int) ∧ (∃ y, f * A + y * B = a) := by
  obtain ⟨u, v, s, hs, -, -, -, -, -, -, -, hy, -, hg, ha, -⟩ := h
  refine ⟨?_, hy⟩
  rw [← hg, Int.gcd_zero_right]; omega

/-- a clock has an edge at a moment -/
def edgeP (p o t : Int) : Prop := o ≤ t ∧ (t - o) % p = 0
theorem edgeP_iff (p o t : Int) (hp : 1 ≤ p) : edgeP p o t ↔ ∃ i : Int, 0 ≤ i ∧ t = o + i * p := by
  unfold edgeP
  constructor
  · rintro ⟨h1, h2⟩
    have h3 := Int.emod_add_mul_ediv (t - o) p
    refine ⟨(t - o) / p, Int.ediv_nonneg (by omega) (by omega), ?_⟩
    rw [Int.mul_comm]; omega
  · rintro ⟨i, hi, rfl⟩
    have h1 : 0 ≤ i * p := Int.mul_nonneg hi (by omega)
    refine ⟨by omega, ?_⟩
    rw [show o + i * p - o = i * p by omega]
    exact Int.mul_emod_left _ _
theorem emod_zero_iff (a p : Int) (hp : p ≠ 0) : a % p = 0 ↔ ∃ z, a = z * p := by
  constructor
  · intro h; obtain ⟨z, hz⟩ := Int.dvd_of_emod_eq_zero h; exact ⟨z, by rw [hz, Int.mul_comm]⟩
  · rintro ⟨z, rfl⟩; exact Int.mul_emod_left _ _
/-- both numbers in terms of their greatest common divisor -/
theorem gcd_parts (P p : Int) (hP : 1 ≤ P) (hp : 1 ≤ p) : ∃ g P1 p1 : Int, (Int.gcd P p : Int) = g ∧ 1 ≤ g ∧ P = g * P1 ∧ p = g * p1 ∧ 1 ≤ P1 ∧ 1 ≤ p1 ∧ Int.gcd P1 p1 = 1 := by
  have hg : 0 < Int.gcd P p := Int.gcd_pos_of_ne_zero_left _ (by omega)
  refine ⟨(Int.gcd P p : Int), P / (Int.gcd P p : Int), p / (Int.gcd P p : Int), rfl, by omega, ?_, ?_, ?_, ?_, ?_⟩
  · exact (Int.mul_ediv_cancel' (Int.gcd_dvd_left ..)).symm
  · exact (Int.mul_ediv_cancel' (Int.gcd_dvd_right ..)).symm
  · have h := Int.mul_ediv_cancel' (Int.gcd_dvd_left (a := P) (b := p))
    apply Decidable.byContradiction
    intro h2
    have : (Int.gcd P p : Int) * (P / (Int.gcd P p : Int)) ≤ 0 := Int.mul_nonpos_of_nonneg_of_nonpos (by omega) (by omega)
    omega
  · have h := Int.mul_ediv_cancel' (Int.gcd_dvd_right (a := P) (b := p))
    apply Decidable.byContradiction
    intro h2
    have : (Int.gcd P p : Int) * (p / (Int.gcd P p : Int)) ≤ 0 := Int.mul_nonpos_of_nonneg_of_nonpos (by omega) (by omega)
    omega
  · exact Int.gcd_ediv_gcd_ediv_gcd hg
/-- steps of P from O: two of them are alike for the other clock just if they are alike modulo the turns -/
theorem alike (P p P1 p1 g i j : Int) (hg : 1 ≤ g) (hP : P = g * P1) (hp : p = g * p1) (hp1 : 1 ≤ p1) (hc : Int.gcd P1 p1 = 1) :
    (i * P - j * P) % p = 0 ↔ (i - j) % p1 = 0 := by
  rw [emod_zero_iff _ p (by rw [hp]; intro h; rcases Int.mul_eq_zero.1 h with h | h <;> omega), emod_zero_iff _ p1 (by omega)]
  constructor
  · rintro ⟨z, hz⟩
    have h1 : g * ((i - j) * P1) = g * (z * p1) := by
      rw [show g * ((i - j) * P1) = i * P - j * P by rw [hP, ← Int.sub_mul, Int.mul_left_comm], hz, hp, Int.mul_left_comm]
    have h2 : (i - j) * P1 = z * p1 := Int.eq_of_mul_eq_mul_left (by omega) h1
    have h3 : p1 ∣ (i - j) * P1 := ⟨z, by rw [h2, Int.mul_comm]⟩
    have h4 : p1 ∣ (i - j) := by
      have h5 : p1.natAbs ∣ (i - j).natAbs * P1.natAbs := by rw [← Int.natAbs_mul]; exact Int.natAbs_dvd_natAbs.2 h3
      have h6 : Nat.Coprime p1.natAbs P1.natAbs := by rw [Nat.Coprime, Nat.gcd_comm]; exact hc
      exact Int.natAbs_dvd_natAbs.1 (h6.dvd_of_dvd_mul_right h5)
    obtain ⟨y, hy⟩ := h4
    exact ⟨y, by rw [hy, Int.mul_comm]⟩
  · rintro ⟨z, hz⟩
    refine ⟨z * P1, ?_⟩
    rw [← Int.sub_mul, hz, hP, hp, Int.mul_assoc, Int.mul_assoc, Int.mul_left_comm p1 g P1, Int.mul_comm p1 P1, Int.mul_left_comm P1 g p1]
/-- the edges of a clock from a moment on are those of the clock that begins there -/
theorem edge_from (p o m t : Int) (hp : 1 ≤ p) (ho : 0 ≤ o) (hm : 0 ≤ m) : (edgeP p o t ∧ m ≤ t) ↔ edgeP p (o + befZ p o m * p) t := by
  obtain ⟨b0, b1, b2, b3⟩ := befZ_bd p o m hp hm ho
  rw [edgeP_iff p o t hp, edgeP_iff p _ t hp]
  constructor
  · rintro ⟨⟨i, hi, rfl⟩, h⟩
    refine ⟨i - befZ p o m, ?_, by rw [Int.sub_mul]; omega⟩
    apply Decidable.byContradiction
    intro h2
    have h3 := b3 (by omega)
    have h4 : i * p ≤ (befZ p o m - 1) * p := Int.mul_le_mul_of_nonneg_right (by omega) (by omega)
    omega
  · rintro ⟨i, hi, rfl⟩
    have h1 : 0 ≤ i * p := Int.mul_nonneg hi (by omega)
    exact ⟨⟨befZ p o m + i, by omega, by rw [Int.add_mul]; omega⟩, by omega⟩
/-- no meeting if the distance is no multiple of the common divisor -/
theorem meet_none (P O p o t : Int) (hP : 1 ≤ P) (hp : 1 ≤ p) (h : ¬ (o - O) % (Int.gcd P p : Int) = 0) : ¬ (edgeP P O t ∧ edgeP p o t) := by
  rintro ⟨h1, h2⟩
  obtain ⟨i, _, h1⟩ := (edgeP_iff P O t hP).1 h1
  obtain ⟨j, _, h2⟩ := (edgeP_iff p o t hp).1 h2
  obtain ⟨g, P1, p1, hg, hg1, hP1, hp1, -⟩ := gcd_parts P p hP hp
  apply h
  rw [hg, emod_zero_iff _ g (by omega)]
  refine ⟨i * P1 - j * p1, ?_⟩
  have e1 : i * P = i * P1 * g := by rw [hP1, Int.mul_assoc, Int.mul_comm P1 g]
  have e2 : j * p = j * p1 * g := by rw [hp1, Int.mul_assoc, Int.mul_comm p1 g]
  rw [Int.sub_mul]
  omega
/-- where an index is right, it is right again after so many turns, and nowhere else -/
theorem meet_at (P O p o k t : Int) (hP : 1 ≤ P) (hp : 1 ≤ p) (hk : (O + k * P - o) % p = 0) (hk0 : 0 ≤ k) (hk1 : k < p / (Int.gcd P p : Int)) :
    (edgeP P O t ∧ edgeP p o t) ↔ (edgeP (P * (p / (Int.gcd P p : Int))) (O + k * P) t ∧ o ≤ t) := by
  obtain ⟨g, P1, p1, hg, hg1, hP1, hp1, hq1, hq2, hc⟩ := gcd_parts P p hP hp
  have ht : p / (Int.gcd P p : Int) = p1 := by rw [hg, hp1]; exact Int.mul_ediv_cancel_left _ (by omega)
  rw [ht] at hk1 ⊢
  have hL : 1 ≤ P * p1 := by
    have := Int.mul_pos (show 0 < P by omega) (show 0 < p1 by omega); omega
  rw [edgeP_iff P O t hP, edgeP_iff _ _ t hL]
  have hal := fun i => alike P p P1 p1 g i k hg1 hP1 hp1 hq2 hc
  have hkey : ∀ i : Int, (O + i * P - o) % p = 0 ↔ (i - k) % p1 = 0 := by
    intro i
    rw [← hal i]
    obtain ⟨z, hz⟩ := (emod_zero_iff _ p (by omega)).1 hk
    rw [emod_zero_iff _ p (by omega), emod_zero_iff _ p (by omega)]
    constructor
    · rintro ⟨y, hy⟩; exact ⟨y - z, by rw [Int.sub_mul]; omega⟩
    · rintro ⟨y, hy⟩; exact ⟨y + z, by rw [Int.add_mul]; omega⟩
  constructor
  · rintro ⟨⟨i, hi, rfl⟩, h1, h2⟩
    refine ⟨?_, h1⟩
    obtain ⟨z, hz⟩ := (emod_zero_iff _ p1 (by omega)).1 ((hkey i).1 h2)
    refine ⟨z, ?_, ?_⟩
    · apply Decidable.byContradiction
      intro hn
      have : z * p1 ≤ (-1) * p1 := Int.mul_le_mul_of_nonneg_right (by omega) (by omega)
      omega
    · have e : z * (P * p1) = (i - k) * P := by rw [hz, Int.mul_comm P p1, Int.mul_assoc]
      rw [e, Int.sub_mul]; omega
  · rintro ⟨⟨z, hz, rfl⟩, h1⟩
    have e : z * (P * p1) = z * p1 * P := by rw [Int.mul_comm P p1, Int.mul_assoc]
    have hzp : 0 ≤ z * p1 := Int.mul_nonneg hz (by omega)
    refine ⟨⟨k + z * p1, by omega, by rw [Int.add_mul, e]; omega⟩, h1, ?_⟩
    have := (hkey (k + z * p1)).2 (by rw [show k + z * p1 - k = z * p1 by omega]; exact Int.mul_emod_left _ _)
    rw [Int.add_mul, ← e] at this
    rw [show O + k * P + z * (P * p1) - o = O + (k * P + z * (P * p1)) - o by omega]
    exact this
/-- the index that Euclid's factor gives -/
theorem index_ok (P O p o f y g : Int) (hP : 1 ≤ P) (hp : 1 ≤ p) (hg : (Int.gcd P p : Int) = g) (hf : f * P + y * p = g) (hl : (o - O) % g = 0) :
    (O + ((o - O) / g * f) % (p / g) * P - o) % p = 0 ∧ 0 ≤ ((o - O) / g * f) % (p / g) ∧ ((o - O) / g * f) % (p / g) < p / g := by
  obtain ⟨g', P1, p1, hg', hg1, hP1, hp1, hq1, hq2, hc⟩ := gcd_parts P p hP hp
  obtain rfl : g = g' := hg.symm.trans hg'
  have ht : p / g = p1 := by rw [hp1]; exact Int.mul_ediv_cancel_left _ (by omega)
  rw [ht]
  have r0 := Int.emod_nonneg ((o - O) / g * f) (show p1 ≠ 0 by omega)
  have r1 := Int.emod_lt_of_pos ((o - O) / g * f) (show 0 < p1 by omega)
  refine ⟨?_, r0, r1⟩
  obtain ⟨l, hl2⟩ := (emod_zero_iff _ g (by omega)).1 hl
  have hl3 : (o - O) / g = l := by rw [hl2]; exact Int.mul_ediv_cancel _ (by omega)
  rw [hl3] at r0 r1 ⊢
  have hd := Int.emod_add_mul_ediv (l * f) p1
  rw [emod_zero_iff _ p (by omega)]
  obtain ⟨R, hR⟩ : ∃ R, l * f % p1 = R := ⟨_, rfl⟩
  obtain ⟨Q, hQ⟩ : ∃ Q, l * f / p1 = Q := ⟨_, rfl⟩
  rw [hR, hQ] at hd
  rw [hR]
  -- R P = l f P - p1 Q P = l (g - y p) - p1 Q P ; p1 P = p P1
  refine ⟨-(l * y) - Q * P1, ?_⟩
  have e1 : R * P = l * f * P - p1 * Q * P := by rw [← hd, Int.add_mul]; omega
  have e2 : l * f * P = l * g - l * y * p := by
    rw [Int.mul_assoc, show f * P = g - y * p by omega, Int.mul_sub, Int.mul_assoc]
  have e3 : p1 * Q * P = Q * P1 * p := by rw [hP1, hp1, Int.mul_comm p1 Q, Int.mul_assoc, Int.mul_assoc, Int.mul_left_comm p1 g P1, Int.mul_comm p1 P1, Int.mul_left_comm P1 g p1]
  rw [Int.sub_mul, Int.neg_mul, ← e3]
  omega
/-- a period behind the last moment does as well as any other -/
theorem cap_edge (P O t M : Int) (hP : 1 ≤ P) (hO : 0 ≤ O) (ht : t ≤ M) : edgeP P O t ↔ edgeP (min P (M + 1)) O t := by
  by_cases h : P ≤ M + 1
  · rw [show min P (M + 1) = P by omega]
  · have e : min P (M + 1) = M + 1 := by omega
    rw [e]
    unfold edgeP
    constructor
    · rintro ⟨h1, h2⟩
      rw [Int.emod_eq_of_lt (by omega) (by omega)] at h2
      exact ⟨h1, by rw [h2]; exact Int.zero_emod _⟩
    · rintro ⟨h1, h2⟩
      rw [Int.emod_eq_of_lt (by omega) (by omega)] at h2
      exact ⟨h1, by rw [h2]; exact Int.zero_emod _⟩

def lastM : Int := 1000000000000
/-- the first n clocks have an edge at a moment -/
def comE (F : List Int) (n : Nat) (t : Int) : Prop := ∀ k, k < n → edgeP (F.getD (k * 2) 0) (F.getD (k * 2 + 1) 0) t
theorem comE_succ (F : List Int) (n : Nat) (t p o : Int) (hp : F.getD (n * 2) 0 = p) (ho : F.getD (n * 2 + 1) 0 = o) : comE F (n + 1) t ↔ comE F n t ∧ edgeP p o t := by
  unfold comE
  constructor
  · intro h
    exact ⟨fun k hk => h k (by omega), by have := h n (by omega); rw [hp, ho] at this; exact this⟩
  · rintro ⟨h1, h2⟩ k hk
    by_cases e : k = n
    · rw [e, hp, ho]; exact h2
    · exact h1 k (by omega)
theorem comE_mono {F : List Int} {n m : Nat} {t : Int} (h : comE F m t) (hn : n ≤ m) : comE F n t := fun k hk => h k (by omega)
/-- the first meeting of n clocks is told by r and c -/
def MeetR (F : List Int) (n : Nat) (r : Int) (c : Bool) : Prop := (c = true ∧ 0 ≤ r ∧ r ≤ lastM ∧ comE F n r ∧ ∀ t, 0 ≤ t → comE F n t → r ≤ t) ∨ (c = false ∧ r = 0 ∧ ∀ t, 0 ≤ t → t ≤ lastM → ¬ comE F n t)
theorem meetR_one {F : List Int} {n : Nat} {r r' : Int} {c c' : Bool} (h : MeetR F n r c) (h' : MeetR F n r' c') : r = r' ∧ c = c' := by
  rcases h with ⟨rfl, a1, a2, a3, a4⟩ | ⟨rfl, rfl, a⟩ <;> rcases h' with ⟨rfl, b1, b2, b3, b4⟩ | ⟨rfl, rfl, b⟩
  · have := a4 r' b1 b3; have := b4 r a1 a3; exact ⟨by omega, rfl⟩
  · exact absurd a3 (b r a1 a2)
  · exact absurd b3 (a r' b1 b2)
  · exact ⟨rfl, rfl⟩
/-- the meetings of the first k clocks, up to the last moment, are the edges of one clock -/
def MI (F : List Int) (k : Nat) (P O : Int) : Prop := 1 ≤ P ∧ P ≤ lastM + 1 ∧ 0 ≤ O ∧ O ≤ lastM ∧ ∀ t, 0 ≤ t → t ≤ lastM → (comE F k t ↔ edgeP P O t)
theorem mi_start (F : List Int) : MI F 0 1 0 := by
  refine ⟨by omega, by unfold lastM; omega, by omega, by unfold lastM; omega, fun t ht _ => ?_⟩
  constructor
  · intro _; exact ⟨by omega, Int.emod_one _⟩
  · intro _ k hk; omega
theorem mi_none {F : List Int} {k : Nat} {P O p o : Int} (h : MI F k P O) (hp : F.getD (k * 2) 0 = p) (ho : F.getD (k * 2 + 1) 0 = o) (hp1 : 1 ≤ p) (hd : ¬ (o - O) % (Int.gcd P p : Int) = 0) :
    ∀ t, 0 ≤ t → t ≤ lastM → ¬ comE F (k + 1) t := by
  intro t h0 h1 hc
  obtain ⟨a1, _, _, _, a5⟩ := h
  rw [comE_succ F k t p o hp ho, a5 t h0 h1] at hc
  exact meet_none P O p o t a1 hp1 hd hc
theorem mi_next {F : List Int} {k : Nat} {P O p o f y : Int} (h : MI F k P O) (hp : F.getD (k * 2) 0 = p) (ho : F.getD (k * 2 + 1) 0 = o) (hp1 : 1 ≤ p) (ho0 : 0 ≤ o)
    (hf : f * P + y * p = (Int.gcd P p : Int)) (hd : (o - O) % (Int.gcd P p : Int) = 0) :
    ∀ t, 0 ≤ t → t ≤ lastM → (comE F (k + 1) t ↔ edgeP (min (P * (p / (Int.gcd P p : Int))) (lastM + 1)) (O + ((o - O) / (Int.gcd P p : Int) * f) % (p / (Int.gcd P p : Int)) * P + befZ (min (P * (p / (Int.gcd P p : Int))) (lastM + 1)) (O + ((o - O) / (Int.gcd P p : Int) * f) % (p / (Int.gcd P p : Int)) * P) o * min (P * (p / (Int.gcd P p : Int))) (lastM + 1)) t) := by
  obtain ⟨a1, a2, a3, a4, a5⟩ := h
  intro t h0 h1
  obtain ⟨i1, i2, i3⟩ := index_ok P O p o f y _ a1 hp1 rfl hf hd
  obtain ⟨g', P1, p1, hg', hg1, hP1, hp1', hq1, hq2, -⟩ := gcd_parts P p a1 hp1
  have ht : p / (Int.gcd P p : Int) = p1 := by rw [hg', hp1']; exact Int.mul_ediv_cancel_left _ (by omega)
  have hL : 1 ≤ P * (p / (Int.gcd P p : Int)) := by
    rw [ht]; have := Int.mul_pos (show 0 < P by omega) (show 0 < p1 by omega); omega
  have hO : 0 ≤ ((o - O) / (Int.gcd P p : Int) * f) % (p / (Int.gcd P p : Int)) * P := Int.mul_nonneg i2 (by omega)
  have hM : (0 : Int) ≤ lastM := by unfold lastM; omega
  rw [← edge_from _ _ o t (by omega) (by omega) ho0, ← cap_edge _ _ t lastM hL (by omega) h1, comE_succ F k t p o hp ho, a5 t h0 h1]
  exact meet_at P O p o _ t a1 hp1 i1 i2 i3
/-- the last clock's meetings tell the answer -/
theorem mi_end {F : List Int} {n : Nat} {P O : Int} (h : MI F n P O) : MeetR F n O true := by
  obtain ⟨a1, a2, a3, a4, a5⟩ := h
  refine .inl ⟨rfl, a3, a4, (a5 O a3 a4).2 ⟨by omega, by rw [Int.sub_self]; exact Int.zero_emod _⟩, fun t h0 h1 => ?_⟩
  by_cases hl : t ≤ lastM
  · exact ((a5 t h0 hl).1 h1).1
  · omega
theorem none_end {F : List Int} {n k : Nat} (hk : k ≤ n) (h : ∀ t, 0 ≤ t → t ≤ lastM → ¬ comE F k t) : MeetR F n 0 false :=
  .inr ⟨rfl, rfl, fun t h0 h1 h2 => h t h0 h1 (comE_mono h2 hk)⟩
/-- as MI, from the latest offset on, with the true period -/
def MS (F : List Int) (k : Nat) (L s m : Int) : Prop := 0 ≤ L ∧ L ≤ m ∧ m ≤ lastM ∧ 1 ≤ s ∧ s ≤ lastM ∧ ∀ t, L ≤ t → (comE F k t ↔ edgeP s m t)
theorem ms_start (F : List Int) (L : Int) (h0 : 0 ≤ L) (h1 : L ≤ lastM) : MS F 0 L 1 L := by
  refine ⟨h0, by omega, h1, by omega, by unfold lastM; omega, fun t ht => ?_⟩
  constructor
  · intro _; exact ⟨ht, Int.emod_one _⟩
  · intro _ k hk; omega
/-- the round's candidates up to the j-th one are no edges -/
def Tried (m s p o : Int) (j : Nat) : Prop := ∀ i : Nat, i < j → ¬ (m + (i : Int) * s - o) % p = 0
theorem tried_next {m s p o : Int} {j : Nat} (h : Tried m s p o j) (h2 : ¬ (m + (j : Int) * s - o) % p = 0) : Tried m s p o (j + 1) := by
  intro i hi
  by_cases e : i = j
  · rw [e]; exact h2
  · exact h i (by omega)
theorem rounds_pos (s p : Int) (hs : 1 ≤ s) (hp : 1 ≤ p) : 1 ≤ p / (Int.gcd s p : Int) ∧ p / (Int.gcd s p : Int) ≤ p ∧ 1 ≤ (Int.gcd s p : Int) := by
  obtain ⟨g', P1, p1, hg', hg1, hP1, hp1', hq1, hq2, -⟩ := gcd_parts s p hs hp
  have ht : p / (Int.gcd s p : Int) = p1 := by rw [hg', hp1']; exact Int.mul_ediv_cancel_left _ (by omega)
  rw [ht]
  have : 1 * p1 ≤ g' * p1 := Int.mul_le_mul_of_nonneg_right (by omega) (by omega)
  exact ⟨hq2, by omega, by omega⟩
theorem ms_hit {F : List Int} {k j : Nat} {L s m p o : Int} (h : MS F k L s m) (hp : F.getD (k * 2) 0 = p) (ho : F.getD (k * 2 + 1) 0 = o) (hp1 : 1 ≤ p) (hoL : o ≤ L)
    (hj : (j : Int) < p / (Int.gcd s p : Int)) (hz : (m + (j : Int) * s - o) % p = 0) :
    ∀ t, L ≤ t → (comE F (k + 1) t ↔ edgeP (s * (p / (Int.gcd s p : Int))) (m + (j : Int) * s) t) := by
  obtain ⟨a0, a1, a2, a3, a4, a5⟩ := h
  intro t ht
  rw [comE_succ F k t p o hp ho, a5 t ht, meet_at s m p o (j : Int) t a3 hp1 hz (by omega) hj]
  exact ⟨fun h => h.1, fun h => ⟨h, by omega⟩⟩
theorem ms_all {F : List Int} {k j : Nat} {L s m p o : Int} (h : MS F k L s m) (hp : F.getD (k * 2) 0 = p) (ho : F.getD (k * 2 + 1) 0 = o) (hp1 : 1 ≤ p)
    (hj : p / (Int.gcd s p : Int) ≤ (j : Int)) (hz : Tried m s p o j) : ∀ t, L ≤ t → ¬ comE F (k + 1) t := by
  obtain ⟨a0, a1, a2, a3, a4, a5⟩ := h
  intro t ht hc
  rw [comE_succ F k t p o hp ho, a5 t ht] at hc
  obtain ⟨h1, h2, h3⟩ := hc
  obtain ⟨i, hi, rfl⟩ := (edgeP_iff s m t a3).1 h1
  obtain ⟨g, P1, p1, hg, hg1, hP1, hp1', hq1, hq2, hc⟩ := gcd_parts s p a3 hp1
  have ht1 : p / (Int.gcd s p : Int) = p1 := by rw [hg, hp1']; exact Int.mul_ediv_cancel_left _ (by omega)
  rw [ht1] at hj
  have r0 := Int.emod_nonneg i (show p1 ≠ 0 by omega)
  have r1 := Int.emod_lt_of_pos i (show 0 < p1 by omega)
  have hd := Int.emod_add_mul_ediv i p1
  have hz2 := hz (i % p1).toNat (by omega)
  rw [Int.toNat_of_nonneg r0] at hz2
  apply hz2
  have hal := (alike s p P1 p1 g i (i % p1) hg1 hP1 hp1' hq2 hc).2 (by
    rw [show i - i % p1 = p1 * (i / p1) by omega]; exact Int.mul_emod_right _ _)
  obtain ⟨y, hy⟩ := (emod_zero_iff _ p (by omega)).1 hal
  obtain ⟨z, hz⟩ := (emod_zero_iff _ p (by omega)).1 h3
  rw [emod_zero_iff _ p (by omega)]
  exact ⟨z - y, by rw [Int.sub_mul]; omega⟩
theorem ms_late {F : List Int} {k j : Nat} {L s m p o : Int} (h : MS F k L s m) (hp : F.getD (k * 2) 0 = p) (ho : F.getD (k * 2 + 1) 0 = o)
    (hj : lastM < m + (j : Int) * s) (hz : Tried m s p o j) : ∀ t, L ≤ t → t ≤ lastM → ¬ comE F (k + 1) t := by
  obtain ⟨a0, a1, a2, a3, a4, a5⟩ := h
  intro t ht ht2 hc
  rw [comE_succ F k t p o hp ho, a5 t ht] at hc
  obtain ⟨h1, h2, h3⟩ := hc
  obtain ⟨i, hi, rfl⟩ := (edgeP_iff s m t a3).1 h1
  have hij : i < (j : Int) := by
    apply Decidable.byContradiction
    intro hn
    have : (j : Int) * s ≤ i * s := Int.mul_le_mul_of_nonneg_right (by omega) (by omega)
    omega
  have hz2 := hz i.toNat (by omega)
  rw [Int.toNat_of_nonneg hi] at hz2
  exact hz2 h3
/-- before the latest offset nothing meets -/
theorem com_lat {F : List Int} {n k : Nat} {t : Int} (h : comE F n t) (hk : k < n) : F.getD (k * 2 + 1) 0 ≤ t := (h k hk).1
def LatL (F : List Int) : Nat → Int
  | 0 => 0
  | k + 1 => max (LatL F k) (F.getD (k * 2 + 1) 0)
theorem lat_le (F : List Int) : ∀ (n k : Nat), k < n → F.getD (k * 2 + 1) 0 ≤ LatL F n
  | 0, k, h => by omega
  | n + 1, k, h => by
    rw [LatL]
    by_cases e : k = n
    · rw [e]; omega
    · have := lat_le F n k (by omega); omega
theorem lat_com (F : List Int) : ∀ (n : Nat) (t : Int), 0 ≤ t → comE F n t → LatL F n ≤ t
  | 0, t, h, _ => h
  | n + 1, t, h, hc => by
    rw [LatL]
    have h1 := lat_com F n t h (comE_mono hc (Nat.le_succ n))
    have h2 := com_lat hc (Nat.lt_succ_self n)
    omega
theorem lat_bd (F : List Int) (M : Int) : ∀ n, (∀ k, k < n → F.getD (k * 2 + 1) 0 ≤ M) → 0 ≤ M → 0 ≤ LatL F n ∧ LatL F n ≤ M
  | 0, _, h => ⟨Int.le_refl _, h⟩
  | n + 1, h, hM => by
    rw [LatL]
    have := lat_bd F M n (fun k hk => h k (by omega)) hM
    have := h n (by omega)
    omega
theorem ms_none {F : List Int} {n k : Nat} (hk : k ≤ n) (h : ∀ t, LatL F n ≤ t → t ≤ lastM → ¬ comE F k t) : MeetR F n 0 false :=
  .inr ⟨rfl, rfl, fun t h0 h1 h2 => h t (lat_com F n t h0 h2) h1 (comE_mono h2 hk)⟩
theorem ms_end {F : List Int} {n : Nat} {s m : Int} (hL : 0 ≤ LatL F n) (h1 : LatL F n ≤ m) (h2 : m ≤ lastM) (h : ∀ t, LatL F n ≤ t → (comE F n t ↔ edgeP s m t)) : MeetR F n m true := by
  refine .inl ⟨rfl, by omega, h2, (h m h1).2 ⟨by omega, by rw [Int.sub_self]; exact Int.zero_emod _⟩, fun t h0 h3 => ?_⟩
  exact ((h t (lat_com F n t h0 h3)).1 h3).1
/-- behind a great step, only the moment itself is left -/
theorem ms_only {F : List Int} {n k : Nat} {s m : Int} (hk : k ≤ n) (h1 : LatL F n ≤ m) (h2 : m ≤ lastM) (hs : lastM < s) (h : ∀ t, LatL F n ≤ t → (comE F k t ↔ edgeP s m t)) (hL : 0 ≤ LatL F n) :
    ∀ t, 0 ≤ t → t ≤ lastM → comE F n t → t = m := by
  intro t h0 h3 h4
  have h5 := (h t (lat_com F n t h0 h4)).1 (comE_mono h4 hk)
  obtain ⟨i, hi, e⟩ := (edgeP_iff s m t (by have : (0 : Int) ≤ lastM := by unfold lastM; omega
                                            omega)).1 h5
  by_cases hi0 : i = 0
  · rw [hi0] at e; omega
  · have : 1 * s ≤ i * s := Int.mul_le_mul_of_nonneg_right (by omega) (by omega)
    omega
/-- the rest of the clocks, behind k, have an edge at m -/
theorem ms_rest {F : List Int} {n k : Nat} {s m : Int} (hk : k ≤ n) (h1 : LatL F n ≤ m) (h2 : m ≤ lastM) (hs : lastM < s) (h : ∀ t, LatL F n ≤ t → (comE F k t ↔ edgeP s m t)) (hL : 0 ≤ LatL F n)
    (hall : ∀ j, k ≤ j → j < n → (m - F.getD (j * 2 + 1) 0) % F.getD (j * 2) 0 = 0) : MeetR F n m true := by
  have hc : comE F n m := by
    intro j hj
    by_cases e : j < k
    · exact (h m h1).2 ⟨by omega, by rw [Int.sub_self]; exact Int.zero_emod _⟩ j e
    · exact ⟨Int.le_trans (lat_le F n j hj) h1, hall j (by omega) hj⟩
  refine .inl ⟨rfl, by omega, h2, hc, fun t h0 h3 => ?_⟩
  by_cases hl : t ≤ lastM
  · have := ms_only hk h1 h2 hs h hL t h0 hl h3; omega
  · omega
theorem ms_not {F : List Int} {n k j : Nat} {s m : Int} (hk : k ≤ n) (h1 : LatL F n ≤ m) (h2 : m ≤ lastM) (hs : lastM < s) (h : ∀ t, LatL F n ≤ t → (comE F k t ↔ edgeP s m t)) (hL : 0 ≤ LatL F n)
    (hj : j < n) (hz : ¬ (m - F.getD (j * 2 + 1) 0) % F.getD (j * 2) 0 = 0) : MeetR F n 0 false := by
  refine .inr ⟨rfl, rfl, fun t h0 h3 h4 => ?_⟩
  have := ms_only hk h1 h2 hs h hL t h0 h3 h4
  rw [this] at h4
  exact hz (h4 j hj).2
end Go.Proofs.Ytkfakoodejpjmaa
