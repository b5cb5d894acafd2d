/- How long edges wait, and how many are near: mathematics. -/
import Derived.Test.YtafecdmcbpnniaaMtN
import Derived.Test.YtafecdmcbpnniaaNear
namespace Go.Proofs.Ytafecdmcbpnniaa
set_option linter.unusedVariables false
/-- no wait is longer than told -/
theorem wait_le (A ao B bo t : Int) (hA : 1 ≤ A) (hB : 1 ≤ B) (ha : 0 ≤ ao) (hb : 0 ≤ bo) (ht : edgeP A ao t) (hbt : bo ≤ t) :
    bo + befZ B bo t * B - t ≤ B - (Int.gcd A B : Int) + shR A ao B bo := by
  obtain ⟨h1, h2⟩ := wait_ge A ao B bo t hA hB ha hb ht
  obtain ⟨g1, g2, g3⟩ := gcdZ_bd A B hA hB
  obtain ⟨x, y, hx, hy⟩ := gcd_dvd_two A B hA hB
  obtain ⟨b0, b1, b2, b3⟩ := befZ_bd B bo t hB (by omega) hb
  have hlt : bo + befZ B bo t * B - t < B := by
    by_cases h : 0 < befZ B bo t
    · have := b3 h
      have e : (befZ B bo t - 1) * B = befZ B bo t * B - B := by rw [Int.sub_mul, Int.one_mul]
      omega
    · have : befZ B bo t = 0 := by omega
      rw [this]; omega
  have r1 : shR A ao B bo < (Int.gcd A B : Int) := Int.emod_lt_of_pos _ (by omega)
  change _ = shR A ao B bo at h2
  obtain ⟨W, hW⟩ : ∃ W, bo + befZ B bo t * B - t = W := ⟨_, rfl⟩
  rw [hW] at h1 h2 hlt ⊢
  obtain ⟨g, hg⟩ : ∃ g : Int, (Int.gcd A B : Int) = g := ⟨_, rfl⟩
  rw [hg] at g1 h2 hy r1 ⊢
  have hd := Int.emod_add_mul_ediv W g
  rw [h2] at hd
  obtain ⟨z, hz⟩ : ∃ z, W / g = z := ⟨_, rfl⟩
  rw [hz] at hd
  have hzy : z ≤ y - 1 := by
    apply Decidable.byContradiction
    intro hn
    have h3 : g * y ≤ g * z := Int.mul_le_mul_of_nonneg_left (by omega) (by omega)
    have h4 : 0 ≤ shR A ao B bo := by unfold shR; exact Int.emod_nonneg _ (by omega)
    rw [Int.mul_comm y g] at hy
    omega
  have h5 : g * z ≤ g * (y - 1) := Int.mul_le_mul_of_nonneg_left hzy (by omega)
  rw [Int.mul_sub, Int.mul_one, Int.mul_comm g y, ← hy] at h5
  omega
/-- the same edges again within each common period -/
theorem edge_again (A ao t s L x : Int) (hA : 1 ≤ A) (hL : L = x * A) (ht : edgeP A ao t) (hs : ao ≤ s) (he : (s - t) % L = 0) (hL0 : L ≠ 0) : edgeP A ao s := by
  obtain ⟨z, hz⟩ := (emod_zero_iff _ L hL0).1 he
  obtain ⟨y, hy⟩ := (emod_zero_iff _ A (by omega)).1 ht.2
  refine ⟨hs, ?_⟩
  rw [emod_zero_iff _ A (by omega)]
  exact ⟨z * x + y, by rw [Int.add_mul, Int.mul_assoc, ← hL]; omega⟩
theorem lcm_parts (A B : Int) (hA : 1 ≤ A) (hB : 1 ≤ B) : ∃ x y : Int, A / (Int.gcd A B : Int) * B = x * A ∧ A / (Int.gcd A B : Int) * B = y * B ∧ y = nearN A B ∧ 1 ≤ A / (Int.gcd A B : Int) * B := by
  obtain ⟨g, P1, p1, hg, hg1, hP1, hp1, hq1, hq2, hc⟩ := gcd_parts A B hA hB
  have hAg : A / (Int.gcd A B : Int) = P1 := by rw [hg, hP1]; exact Int.mul_ediv_cancel_left _ (by omega)
  refine ⟨p1, P1, ?_, ?_, ?_, ?_⟩
  · rw [hAg, hp1, hP1, Int.mul_left_comm, Int.mul_left_comm p1 g P1, Int.mul_comm P1 p1]
  · rw [hAg]
  · unfold nearN; exact hAg.symm
  · rw [hAg]
    have := Int.mul_le_mul hq1 hB (by omega) (by omega : (0 : Int) ≤ P1)
    omega
theorem wait_top (A ao B bo f : Int) (hA : 1 ≤ A) (hB : 1 ≤ B) (ha : 0 ≤ ao) (hb : 0 ≤ bo) (hfa : ao ≤ f) (hfb : bo + B ≤ f) :
    ∃ t, f ≤ t ∧ t < f + A / (Int.gcd A B : Int) * B ∧ edgeP A ao t ∧ bo + befZ B bo t * B - t = B - (Int.gcd A B : Int) + shR A ao B bo := by
  obtain ⟨g1, g2, g3⟩ := gcdZ_bd A B hA hB
  obtain ⟨x, y, hx, hy, -, hL1⟩ := lcm_parts A B hA hB
  obtain ⟨x', y', hx', hy'⟩ := gcd_dvd_two A B hA hB
  have r0 : 0 ≤ shR A ao B bo := Int.emod_nonneg _ (by omega)
  have r1 : shR A ao B bo < (Int.gcd A B : Int) := Int.emod_lt_of_pos _ (by omega)
  have hdm : shR A ao B bo + (Int.gcd A B : Int) * ((bo - ao) / (Int.gcd A B : Int)) = bo - ao := Int.emod_add_mul_ediv _ _
  obtain ⟨R, hR⟩ : ∃ R, shR A ao B bo = R := ⟨_, rfl⟩
  rw [hR] at r0 r1 hdm ⊢
  have hd : (bo + ((Int.gcd A B : Int) - R) - ao) % (Int.gcd A B : Int) = 0 := by
    rw [show bo + ((Int.gcd A B : Int) - R) - ao = (Int.gcd A B : Int) * ((bo - ao) / (Int.gcd A B : Int) + 1) by
      rw [Int.mul_add, Int.mul_one]; omega]
    exact Int.mul_emod_right _ _
  obtain ⟨u, u1, u2, u3, u4⟩ := meet_soon A ao B (bo + ((Int.gcd A B : Int) - R)) hA hB ha (by omega) hd
  obtain ⟨L, hL⟩ : ∃ L, A / (Int.gcd A B : Int) * B = L := ⟨_, rfl⟩
  rw [hL] at hx hy hL1 ⊢
  have m0 := Int.emod_nonneg (u - f) (show L ≠ 0 by omega)
  have m1 := Int.emod_lt_of_pos (u - f) (show 0 < L by omega)
  have hmm := Int.emod_add_mul_ediv (u - f) L
  obtain ⟨s, hs⟩ : ∃ s, f + (u - f) % L = s := ⟨_, rfl⟩
  have hsu : (s - u) % L = 0 := by
    rw [show s - u = L * (-((u - f) / L)) by rw [Int.mul_neg]; omega]
    exact Int.mul_emod_right _ _
  have e1 := edge_again A ao u s L x hA hx u1 (by omega) hsu (by omega)
  have e2 := edge_again B (bo + ((Int.gcd A B : Int) - R)) u s L y hB hy u2 (by omega) hsu (by omega)
  refine ⟨s, by omega, by omega, e1, ?_⟩
  obtain ⟨j, hj, hjs⟩ := (edgeP_iff _ _ _ hB).1 e2
  obtain ⟨n1, n2, n3⟩ := next_edge B bo s hB hb (by omega)
  have h5 := n3 (bo + (j + 1) * B) ((edgeP_iff _ _ _ hB).2 ⟨j + 1, by omega, rfl⟩) (by rw [Int.add_mul, Int.one_mul]; omega)
  rw [Int.add_mul, Int.one_mul] at h5
  obtain ⟨i, hi, hin⟩ := (edgeP_iff _ _ _ hB).1 n2
  have hij : j + 1 ≤ i := by
    apply Decidable.byContradiction
    intro hn
    have : i * B ≤ j * B := Int.mul_le_mul_of_nonneg_right (by omega) (by omega)
    omega
  have : (j + 1) * B ≤ i * B := Int.mul_le_mul_of_nonneg_right hij (by omega)
  rw [Int.add_mul, Int.one_mul] at this
  omega
/-- what the first loop knows -/
def MostI (A ao B bo lw : Int) (t : Int) (v : Int) : Prop := -1 ≤ v ∧ v ≤ lw ∧ ∀ s, 40 ≤ s → s < t → edgeP A ao s → bo + befZ B bo s * B - s ≤ v
theorem most_start (A ao B bo lw : Int) (h : 0 ≤ lw) : MostI A ao B bo lw 40 (-1) := ⟨by omega, by omega, fun s h1 h2 _ => by omega⟩
theorem most_skip {A ao B bo lw t v : Int} (h : MostI A ao B bo lw t v) (hn : ¬ edgeP A ao t) : MostI A ao B bo lw (t + 1) v :=
  ⟨h.1, h.2.1, fun s h1 h2 h3 => by
    by_cases e : s = t
    · rw [e] at h3; exact absurd h3 hn
    · exact h.2.2 s h1 (by omega) h3⟩
theorem most_up {A ao B bo lw t v : Int} (h : MostI A ao B bo lw t v) (hw : bo + befZ B bo t * B - t ≤ lw) (hv : v < bo + befZ B bo t * B - t) : MostI A ao B bo lw (t + 1) (bo + befZ B bo t * B - t) :=
  ⟨by have := h.1; omega, hw, fun s h1 h2 h3 => by
    by_cases e : s = t
    · rw [e]; omega
    · have := h.2.2 s h1 (by omega) h3; omega⟩
theorem most_keep {A ao B bo lw t v : Int} (h : MostI A ao B bo lw t v) (hv : ¬ v < bo + befZ B bo t * B - t) : MostI A ao B bo lw (t + 1) v :=
  ⟨h.1, h.2.1, fun s h1 h2 h3 => by
    by_cases e : s = t
    · rw [e]; omega
    · exact h.2.2 s h1 (by omega) h3⟩
theorem most_end {A ao B bo v : Int} (hA : 1 ≤ A) (hB : 1 ≤ B ∧ B ≤ 20) (ha : 0 ≤ ao ∧ ao ≤ 29) (hb : 0 ≤ bo ∧ bo ≤ 29) (h : MostI A ao B bo (B - (Int.gcd A B : Int) + shR A ao B bo) (40 + A / (Int.gcd A B : Int) * B) v) (hbB : bo + B ≤ 40) : v = B - (Int.gcd A B : Int) + shR A ao B bo := by
  obtain ⟨t, t1, t2, t3, t4⟩ := wait_top A ao B bo 40 hA hB.1 ha.1 hb.1 (by omega) hbB
  have := h.2.2 t t1 t2 t3
  have := h.2.1
  omega
/-- the wait's top again, where the other clock's first period does not fit: a common period later -/
theorem most_end2 {A ao B bo v : Int} (hA : 1 ≤ A ∧ A ≤ 20) (hB : 1 ≤ B ∧ B ≤ 20) (ha : 0 ≤ ao ∧ ao ≤ 29) (hb : 0 ≤ bo ∧ bo ≤ 29) (h : MostI A ao B bo (B - (Int.gcd A B : Int) + shR A ao B bo) (40 + A / (Int.gcd A B : Int) * B) v) : v = B - (Int.gcd A B : Int) + shR A ao B bo := by
  obtain ⟨x, y, hx, hy, -, hL1⟩ := lcm_parts A B hA.1 hB.1
  obtain ⟨L, hL⟩ : ∃ L, A / (Int.gcd A B : Int) * B = L := ⟨_, rfl⟩
  have hBL : B ≤ L := by
    rw [hL] at hy hL1
    have hy1 : 1 ≤ y := by
      apply Decidable.byContradiction
      intro hn
      have : y * B ≤ 0 * B := Int.mul_le_mul_of_nonneg_right (by omega) (by omega)
      omega
    have : 1 * B ≤ y * B := Int.mul_le_mul_of_nonneg_right hy1 (by omega)
    omega
  obtain ⟨t, t1, t2, t3, t4⟩ := wait_top A ao B bo (40 + L) hA.1 hB.1 ha.1 hb.1 (by omega) (by omega)
  rw [hL] at h hx hy hL1 t2
  -- t lies in the second window: the wait at t - L is the same
  have h1 : edgeP A ao (t - L) := edge_again A ao t (t - L) L x hA.1 hx t3 (by omega) (by rw [show t - L - t = L * (-1) by omega]; exact Int.mul_emod_right _ _) (by omega)
  have h2 := h.2.2 (t - L) (by omega) (by omega) h1
  have h3 := h.2.1
  -- the next edge behind t - L is the next one behind t, a common period sooner
  obtain ⟨n1, n2, n3⟩ := next_edge B bo t hB.1 hb.1 (by omega)
  obtain ⟨m1, m2, m3⟩ := next_edge B bo (t - L) hB.1 hb.1 (by omega)
  have h4 : edgeP B bo (bo + befZ B bo (t - L) * B + L) := edge_again B bo (bo + befZ B bo (t - L) * B) _ L y hB.1 hy m2 (by have := m2.1; omega) (by rw [show bo + befZ B bo (t - L) * B + L - (bo + befZ B bo (t - L) * B) = L * 1 by omega]; exact Int.mul_emod_right _ _) (by omega)
  have h5 := n3 _ h4 (by omega)
  omega
/-- how late a moment is behind the other clock's last edge says whether one is near -/
theorem close_iff (A ao t bf bh : Int) (hA : 1 ≤ A) (hbf : 0 ≤ bf) : (∃ x, t - bf ≤ x ∧ (x ≤ t ∨ x < t + bh) ∧ (x - ao) % A = 0) ↔ nearC A bf bh ((t - ao) % A) = true := by
  have l0 := Int.emod_nonneg (t - ao) (show A ≠ 0 by omega)
  have l1 := Int.emod_lt_of_pos (t - ao) (show 0 < A by omega)
  have hd := Int.emod_add_mul_ediv (t - ao) A
  obtain ⟨q, hq⟩ : ∃ q, (t - ao) / A = q := ⟨_, rfl⟩
  obtain ⟨l, hl⟩ : ∃ l, (t - ao) % A = l := ⟨_, rfl⟩
  rw [hq, hl] at hd
  rw [hl] at l0 l1 ⊢
  unfold nearC
  simp only [Bool.or_eq_true, Bool.and_eq_true, decide_eq_true_eq]
  constructor
  · rintro ⟨x, h1, h2, h3⟩
    obtain ⟨z, hz⟩ := (emod_zero_iff _ A (by omega)).1 h3
    by_cases hle : x ≤ t
    · left; left
      have hzq : z ≤ q := by
        apply Decidable.byContradiction
        intro hn
        have : (q + 1) * A ≤ z * A := Int.mul_le_mul_of_nonneg_right (by omega) (by omega)
        rw [Int.add_mul, Int.one_mul, Int.mul_comm q A] at this
        omega
      have : z * A ≤ q * A := Int.mul_le_mul_of_nonneg_right hzq (by omega)
      rw [Int.mul_comm q A] at this
      omega
    · left; right
      have hzq : q + 1 ≤ z := by
        apply Decidable.byContradiction
        intro hn
        have : z * A ≤ q * A := Int.mul_le_mul_of_nonneg_right (by omega) (by omega)
        rw [Int.mul_comm q A] at this
        omega
      have : (q + 1) * A ≤ z * A := Int.mul_le_mul_of_nonneg_right hzq (by omega)
      rw [Int.add_mul, Int.one_mul, Int.mul_comm q A] at this
      omega
  · have hlast : t - bf ≤ t - l → ∃ x, t - bf ≤ x ∧ (x ≤ t ∨ x < t + bh) ∧ (x - ao) % A = 0 := fun h => ⟨t - l, h, .inl (by omega), by rw [show t - l - ao = A * q by omega]; exact Int.mul_emod_right _ _⟩
    rintro ((h | h) | ⟨h, h'⟩)
    · exact hlast (by omega)
    · exact ⟨t - l + A, by omega, .inr (by omega), by rw [show t - l + A - ao = A * (q + 1) by rw [Int.mul_add, Int.mul_one]; omega]; exact Int.mul_emod_right _ _⟩
    · exact hlast (by omega)
/-- the same number are near, whichever edges of one common period are counted -/
theorem near_any (p q d d' bf bh : Int) (hp : 1 ≤ p) (hq : 1 ≤ q) (h0 : 0 ≤ bf) (h1 : 0 ≤ bh) (hd : d % (Int.gcd p q : Int) = d' % (Int.gcd p q : Int)) :
    cntN (fun k => nearC p bf bh (lateZ p d q k)) (nearN p q).toNat = cntN (fun k => nearC p bf bh (lateZ p d' q k)) (nearN p q).toNat := by
  obtain ⟨P, rfl⟩ := Int.eq_ofNat_of_zero_le (show 0 ≤ p by omega)
  obtain ⟨Q, rfl⟩ := Int.eq_ofNat_of_zero_le (show 0 ≤ q by omega)
  have hg : 0 < Nat.gcd P Q := Nat.gcd_pos_of_pos_left _ (by omega)
  have e1 : Nat.gcd P Q * (P / Nat.gcd P Q) = P := Nat.mul_div_cancel' (Nat.gcd_dvd_left _ _)
  have e2 : Nat.gcd P Q * (Q / Nat.gcd P Q) = Q := Nat.mul_div_cancel' (Nat.gcd_dvd_right _ _)
  have hN : 0 < P / Nat.gcd P Q := Nat.div_pos (Nat.le_of_dvd (by omega) (Nat.gcd_dvd_left _ _)) hg
  have hc : Nat.gcd (Q / Nat.gcd P Q) (P / Nat.gcd P Q) = 1 := by rw [Nat.gcd_comm]; exact Nat.coprime_div_gcd_div_gcd hg
  have h := near_main (Nat.gcd P Q) (P / Nat.gcd P Q) (Q / Nat.gcd P Q) d bf bh hg hN hc h0 h1
  have h' := near_main (Nat.gcd P Q) (P / Nat.gcd P Q) (Q / Nat.gcd P Q) d' bf bh hg hN hc h0 h1
  rw [e1, e2] at h h'
  have e3 : nearN (P : Int) (Q : Int) = ((P / Nat.gcd P Q : Nat) : Int) := by unfold nearN; rfl
  rw [e3, Int.toNat_natCast]
  have hd2 : d % ((Nat.gcd P Q : Nat) : Int) = d' % ((Nat.gcd P Q : Nat) : Int) := hd
  rw [hd2] at h
  have := h.trans h'.symm
  exact Int.ofNat.inj this
/-- the first edge of a clock from a moment on -/
def fstE (B bo f : Int) : Int := bo + befZ B bo f * B
/-- what the second loop knows: m edges were met, c of them are near -/
def CntI (A ao B bo bf bh : Int) (t : Int) (c : Int) : Prop := ∃ m : Nat, t ≤ fstE B bo 60 + (m : Int) * B ∧ fstE B bo 60 + (m : Int) * B < t + B ∧ c = ((cntN (fun k => nearC A bf bh (lateZ A (fstE B bo 60 - ao) B k)) m : Nat) : Int)
theorem fst_bd (B bo : Int) (hB : 1 ≤ B) (hb : 0 ≤ bo ∧ bo ≤ 29) : 60 ≤ fstE B bo 60 ∧ fstE B bo 60 < 60 + B := by
  obtain ⟨b0, b1, b2, b3⟩ := befZ_bd B bo 60 hB (by omega) hb.1
  unfold fstE
  refine ⟨b2, ?_⟩
  have hp : 0 < befZ B bo 60 := by
    apply Decidable.byContradiction
    intro hn
    have : befZ B bo 60 = 0 := by omega
    rw [this] at b2; omega
  have := b3 hp
  have e : (befZ B bo 60 - 1) * B = befZ B bo 60 * B - B := by rw [Int.sub_mul, Int.one_mul]
  omega
theorem cnt_start (A ao B bo bf bh : Int) (hB : 1 ≤ B) (hb : 0 ≤ bo ∧ bo ≤ 29) : CntI A ao B bo bf bh 60 0 := by
  obtain ⟨h1, h2⟩ := fst_bd B bo hB hb
  exact ⟨0, by omega, by omega, rfl⟩
theorem fst_mod (B bo : Int) (hB : 1 ≤ B) : ∃ z, fstE B bo 60 - bo = z * B := ⟨befZ B bo 60, by unfold fstE; omega⟩
theorem cnt_skip {A ao B bo bf bh t c : Int} (hB : 1 ≤ B) (h : CntI A ao B bo bf bh t c) (hn : ¬ (t - bo) % B = 0) : CntI A ao B bo bf bh (t + 1) c := by
  obtain ⟨m, h1, h2, h3⟩ := h
  obtain ⟨z, hz⟩ := fst_mod B bo hB
  refine ⟨m, ?_, by omega, h3⟩
  apply Decidable.byContradiction
  intro hh
  apply hn
  rw [emod_zero_iff _ B (by omega)]
  exact ⟨z + (m : Int), by rw [Int.add_mul]; omega⟩
theorem cnt_edge {A ao B bo bf bh t c : Int} (hB : 1 ≤ B) (h : CntI A ao B bo bf bh t c) (hz0 : (t - bo) % B = 0) : CntI A ao B bo bf bh (t + 1) (if nearC A bf bh ((t - ao) % A) = true then c + 1 else c) := by
  obtain ⟨m, h1, h2, h3⟩ := h
  obtain ⟨z, hz⟩ := fst_mod B bo hB
  obtain ⟨y, hy⟩ := (emod_zero_iff _ B (by omega)).1 hz0
  have ht : t = fstE B bo 60 + (m : Int) * B := by
    have e : fstE B bo 60 + (m : Int) * B - t = (z + (m : Int) - y) * B := by rw [Int.sub_mul, Int.add_mul]; omega
    have h5 : z + (m : Int) - y = 0 := by
      by_cases hp : 0 < z + (m : Int) - y
      · have : 1 * B ≤ (z + (m : Int) - y) * B := Int.mul_le_mul_of_nonneg_right (by omega) (by omega)
        omega
      · by_cases hneg : z + (m : Int) - y < 0
        · have : (z + (m : Int) - y) * B ≤ (-1) * B := Int.mul_le_mul_of_nonneg_right (by omega) (by omega)
          omega
        · omega
    rw [h5] at e; omega
  refine ⟨m + 1, ?_, ?_, ?_⟩
  · rw [Int.natCast_add, Int.add_mul]; omega
  · rw [Int.natCast_add, Int.add_mul]; omega
  · rw [cntN_succ]
    have hl : lateZ A (fstE B bo 60 - ao) B m = (t - ao) % A := by unfold lateZ; rw [ht]; congr 1; omega
    rw [hl]
    split
    · rw [h3]; omega
    · rw [h3]; omega
theorem cnt_end {A ao B bo bf bh c : Int} (hA : 1 ≤ A) (hB : 1 ≤ B) (hb : 0 ≤ bo ∧ bo ≤ 29) (h0 : 0 ≤ bf) (h1 : 0 ≤ bh) (h : CntI A ao B bo bf bh (60 + A / (Int.gcd A B : Int) * B) c) :
    c = ((nearK A ao B bo bf bh (nearN A B).toNat : Nat) : Int) := by
  obtain ⟨m, m1, m2, m3⟩ := h
  obtain ⟨x, y, hx, hy, hyn, hL1⟩ := lcm_parts A B hA hB
  obtain ⟨f1, f2⟩ := fst_bd B bo hB hb
  rw [hy] at m1 m2
  have hmy : (m : Int) = y := by
    by_cases h1 : (m : Int) < y
    · have : (m : Int) * B ≤ (y - 1) * B := Int.mul_le_mul_of_nonneg_right (by omega) (by omega)
      rw [Int.sub_mul, Int.one_mul] at this
      omega
    · by_cases h2 : y < (m : Int)
      · have : (y + 1) * B ≤ (m : Int) * B := Int.mul_le_mul_of_nonneg_right (by omega) (by omega)
        rw [Int.add_mul, Int.one_mul] at this
        omega
      · omega
  have hmn : m = (nearN A B).toNat := by rw [← hyn, ← hmy, Int.toNat_natCast]
  rw [m3, hmn]
  unfold nearK
  congr 1
  apply near_any A B _ _ bf bh hA hB h0 h1
  obtain ⟨x', y', hx', hy'⟩ := gcd_dvd_two A B hA hB
  have e : fstE B bo 60 - ao = (bo - ao) + (Int.gcd A B : Int) * (befZ B bo 60 * y') := by
    have e1 : befZ B bo 60 * B = (Int.gcd A B : Int) * (befZ B bo 60 * y') := by
      rw [Int.mul_left_comm, Int.mul_comm (Int.gcd A B : Int) y', ← hy']
    unfold fstE
    omega
  rw [e, Int.add_mul_emod_self_left]
end Go.Proofs.Ytafecdmcbpnniaa
