/- The product of two valid fractions is valid, and what both sides multiply is the same; the chance of failing with more stages. -/
import Derived.Test.YtomdoamfdidghaaMulSpec
namespace Go.Proofs.Ytomdoamfdidghaa
open Go.RowKit
set_option linter.unusedVariables false
theorem cop_mul (a b c e : Nat) (hb : 0 < b) (he : 0 < e) (h1 : Nat.gcd a b = 1) (h2 : Nat.gcd c e = 1) :
    Nat.gcd ((a / Nat.gcd a e) * (c / Nat.gcd c b)) ((b / Nat.gcd c b) * (e / Nat.gcd a e)) = 1 := by
  have p1 : 0 < Nat.gcd a e := Nat.gcd_pos_of_pos_right _ he
  have p2 : 0 < Nat.gcd c b := Nat.gcd_pos_of_pos_right _ hb
  have c1 : Nat.Coprime (a / Nat.gcd a e) (e / Nat.gcd a e) := Nat.coprime_div_gcd_div_gcd p1
  have c2 : Nat.Coprime (c / Nat.gcd c b) (b / Nat.gcd c b) := Nat.coprime_div_gcd_div_gcd p2
  have d1 : a / Nat.gcd a e ∣ a := Nat.div_dvd_of_dvd (Nat.gcd_dvd_left a e)
  have d2 : c / Nat.gcd c b ∣ c := Nat.div_dvd_of_dvd (Nat.gcd_dvd_left c b)
  have d3 : e / Nat.gcd a e ∣ e := Nat.div_dvd_of_dvd (Nat.gcd_dvd_right a e)
  have d4 : b / Nat.gcd c b ∣ b := Nat.div_dvd_of_dvd (Nat.gcd_dvd_right c b)
  have c3 : Nat.Coprime (a / Nat.gcd a e) (b / Nat.gcd c b) := Nat.Coprime.coprime_dvd_left d1 (Nat.Coprime.coprime_dvd_right d4 h1)
  have c4 : Nat.Coprime (c / Nat.gcd c b) (e / Nat.gcd a e) := Nat.Coprime.coprime_dvd_left d2 (Nat.Coprime.coprime_dvd_right d3 h2)
  exact Nat.Coprime.mul_left (Nat.Coprime.mul_right c3 c1) (Nat.Coprime.mul_right c2 c4)

def mulN (n d p q : Int) : Int := ovI (mS n d p q) (mA n d p q)
def mulD (n d p q : Int) : Int := ovI false (mM n d p q)
def mulC (n d p q : Int) : Bool := ovB (mA n d p q) && ovB (mM n d p q)
theorem mA_nat (n d p q : Int) (hd : 1 ≤ d) (hq : 1 ≤ q) : mA n d p q = (n.natAbs / Nat.gcd n.natAbs q.natAbs) * (p.natAbs / Nat.gcd p.natAbs d.natAbs) := by
  unfold mA szN
  rw [(mk_pos n q (by omega)).1, (mk_pos p d (by omega)).1, Int.natAbs_tdiv, Int.natAbs_tdiv, Int.natAbs_natCast, Int.natAbs_natCast]; rfl
theorem mM_nat (n d p q : Int) (hd : 1 ≤ d) (hq : 1 ≤ q) : mM n d p q = (d.natAbs / Nat.gcd p.natAbs d.natAbs) * (q.natAbs / Nat.gcd n.natAbs q.natAbs) := by
  obtain ⟨d', rfl⟩ := Int.eq_ofNat_of_zero_le (show 0 ≤ d by omega)
  obtain ⟨q', rfl⟩ := Int.eq_ofNat_of_zero_le (show 0 ≤ q by omega)
  unfold mM szN
  rw [(mk_pos n (q' : Int) (by omega)).2, (mk_pos p (d' : Int) (by omega)).2, ← Int.natCast_ediv, ← Int.natCast_ediv, Int.natAbs_natCast, Int.natAbs_natCast]; rfl
theorem mul_valid (n d p q : Int) (hf : fracB n d = true) (hg : fracB p q = true) (hc : mulC n d p q = true) : fracB (mulN n d p q) (mulD n d p q) = true := by
  unfold fracB at hf hg
  rw [decide_eq_true_eq] at hf hg
  obtain ⟨f1, f2, f3, f4, f5⟩ := hf
  obtain ⟨g1, g2, g3, g4, g5⟩ := hg
  unfold mulC ovB at hc
  rw [Bool.and_eq_true, decide_eq_true_eq, decide_eq_true_eq] at hc
  obtain ⟨h1, h2⟩ := hc
  have hcop := cop_mul n.natAbs d.natAbs p.natAbs q.natAbs (by omega) (by omega) f5 g5
  rw [← mA_nat n d p q f1 g1, ← mM_nat n d p q f1 g1] at hcop
  have hm0 : mM n d p q ≠ 0 := by
    rw [mM_nat n d p q f1 g1]
    have p1 : 0 < d.natAbs / Nat.gcd p.natAbs d.natAbs := Nat.div_pos (Nat.le_of_dvd (by omega) (Nat.gcd_dvd_right _ _)) (Nat.gcd_pos_of_pos_right _ (by omega))
    have p2 : 0 < q.natAbs / Nat.gcd n.natAbs q.natAbs := Nat.div_pos (Nat.le_of_dvd (by omega) (Nat.gcd_dvd_right _ _)) (Nat.gcd_pos_of_pos_right _ (by omega))
    exact Nat.ne_of_gt (Nat.mul_pos p1 p2)
  unfold mulN mulD ovI
  rw [if_pos h1, if_pos h2]
  generalize mA n d p q = X at *
  generalize mM n d p q = Y at *
  unfold fracB sgI
  rw [decide_eq_true_eq]
  cases mS n d p q <;> simp [Int.gcd, hcop] <;> omega

theorem fmul_any (n d p q : Int) (hf : fracB n d = true) (hg : fracB p q = true) (N D : Int) (c : Bool) (hN : N = if mulC n d p q then mulN n d p q else 0) (hD : D = if mulC n d p q then mulD n d p q else 0) (hc : c = mulC n d p q) :
    (∀ w, Calls Try.prog 30 #[.agg #[.int .i64 n, .int .i64 d], .agg #[.int .i64 p, .int .i64 q]] w fun e w' => e = .returned (.tuple #[.agg #[.int .i64 N, .int .i64 D], .bool c]) ∧ Below w.heap.size w w') ∧ (∀ w, Calls Try.prog 33 #[.agg #[.int .i64 n, .int .i64 d], .agg #[.int .i64 p, .int .i64 q]] w fun e w' => e = .returned (.tuple #[.agg #[.int .i64 N, .int .i64 D], .bool c]) ∧ Below w.heap.size w w') := by
  subst hN hD hc
  have hf1 : 1 ≤ d ∧ d ≤ 1000000000000000000 ∧ -1000000000000000000 ≤ n ∧ n ≤ 1000000000000000000 := by
    simp [fracB] at hf; omega
  have hg1 : 1 ≤ q ∧ q ≤ 1000000000000000000 ∧ -1000000000000000000 ≤ p ∧ p ≤ 1000000000000000000 := by
    simp [fracB] at hg; omega
  have b1 := mk_bd n q (by omega) (by omega) (by omega) (by omega)
  have b2 := mk_bd p d (by omega) (by omega) (by omega) (by omega)
  have M1 := Lib.hid (fun w => l01FMake_any n q w (by omega) (by omega) (by omega) (by omega) (by omega))
  have M2 := Lib.hid (fun w => l01FMake_any p d w (by omega) (by omega) (by omega) (by omega) (by omega))
  cases h1 : ovB (mA n d p q) with
  | false =>
    rw [show mulC n d p q = false from by unfold mulC; rw [h1]; rfl]
    cases h2 : ovB (mM n d p q) with
    | false => exact ⟨fun w => fmulX_ff n d p q _ _ _ _ w b1 b2 M1 M2 h1 h2, fun w => implMul_ff n d p q w hf hg h1 h2⟩
    | true => exact ⟨fun w => fmulX_ft n d p q _ _ _ _ w b1 b2 M1 M2 h1 h2, fun w => implMul_ft n d p q w hf hg h1 h2⟩
  | true =>
    cases h2 : ovB (mM n d p q) with
    | false =>
      rw [show mulC n d p q = false from by unfold mulC; rw [h1, h2]; rfl]
      exact ⟨fun w => fmulX_tf n d p q _ _ _ _ w b1 b2 M1 M2 h1 h2, fun w => implMul_tf n d p q w hf hg h1 h2⟩
    | true =>
      rw [show mulC n d p q = true from by unfold mulC; rw [h1, h2]; rfl]
      have hI : ∀ w, _ := fun w => implMul_t n d p q w hf hg (by rw [h1, h2]; rfl)
      unfold mulN mulD
      rw [if_pos rfl, if_pos rfl]
      cases h3 : mS n d p q with
      | false =>
        rw [h3] at hI
        exact ⟨fun w => fmul_t0 n d p q _ _ _ _ w b1 b2 M1 M2 h1 h2 h3, hI⟩
      | true =>
        rw [h3] at hI
        exact ⟨fun w => fmul_tt n d p q _ _ _ _ w b1 b2 M1 M2 h1 h2 h3, hI⟩
/-- the powers of a fraction, as far as they are fractions -/
def powL (p q : Int) : Nat → Option (Int × Int)
  | 0 => some (1, 1)
  | k + 1 => match powL p q k with
    | none => none
    | some (a, b) => if mulC a b p q then some (mulN a b p q, mulD a b p q) else none
theorem powL_none (p q : Int) : ∀ (j s : Nat), j ≤ s → powL p q j = none → powL p q s = none
  | j, 0, hj, h => by rwa [show j = 0 by omega] at h
  | j, s + 1, hj, h => by
    by_cases e : j = s + 1
    · rwa [e] at h
    · rw [powL, powL_none p q j s (by omega) h]
theorem powL_step (p q : Int) (k : Nat) (a b : Int) (h : powL p q k = some (a, b)) : powL p q (k + 1) = if mulC a b p q then some (mulN a b p q, mulD a b p q) else none := by
  rw [powL, h]
def Pow (p q : Int) (s : Nat) (R Q : Int) (c : Bool) : Prop := (powL p q s = some (R, Q) ∧ c = true) ∨ (powL p q s = none ∧ R = 0 ∧ Q = 0 ∧ c = false)
theorem pow_ex (p q : Int) (s : Nat) : ∃ R Q c, Pow p q s R Q c := by
  cases h : powL p q s with
  | none => exact ⟨0, 0, false, .inr ⟨h, rfl, rfl, rfl⟩⟩
  | some x => exact ⟨x.1, x.2, true, .inl ⟨h, rfl⟩⟩
theorem frac_one : fracB 1 1 = true := by decide
end Go.Proofs.Ytomdoamfdidghaa
