/- The maths of a sum of two fractions. -/
namespace Go.Proofs.Ytomdoamfdidghaa
set_option linter.unusedVariables false
theorem add_den (d q C S : Nat) (hS : S ∣ C) (hC : C ∣ q) : d / C * q / S = d / C * (q / S) := Nat.mul_div_assoc _ (Nat.dvd_trans hS hC)
theorem add_zero (n d p q : Nat) (hn : Nat.gcd n d = 1) (hp : Nat.gcd p q = 1) (hd : 0 < d) (hq : 0 < q) (h : n * (q / Nat.gcd d q) = p * (d / Nat.gcd d q)) : d / Nat.gcd d q = 1 ∧ q / Nat.gcd d q = 1 := by
  have hg : 0 < Nat.gcd d q := Nat.gcd_pos_of_pos_left _ hd
  have hc : Nat.Coprime (d / Nat.gcd d q) (q / Nat.gcd d q) := Nat.coprime_div_gcd_div_gcd hg
  have hdd : d / Nat.gcd d q ∣ d := Nat.div_dvd_of_dvd (Nat.gcd_dvd_left d q)
  have hqd : q / Nat.gcd d q ∣ q := Nat.div_dvd_of_dvd (Nat.gcd_dvd_right d q)
  have e1 : d / Nat.gcd d q ∣ n := hc.dvd_of_dvd_mul_right (by rw [h]; exact Nat.dvd_mul_left _ _)
  have e2 : q / Nat.gcd d q ∣ p := hc.symm.dvd_of_dvd_mul_right (by rw [← h]; exact Nat.dvd_mul_left _ _)
  have f1 : d / Nat.gcd d q ∣ Nat.gcd n d := Nat.dvd_gcd e1 hdd
  have f2 : q / Nat.gcd d q ∣ Nat.gcd p q := Nat.dvd_gcd e2 hqd
  rw [hn] at f1
  rw [hp] at f2
  exact ⟨Nat.dvd_one.1 f1, Nat.dvd_one.1 f2⟩
/-- a wide sum with signs: its sign and its size -/
def plS (n m : Bool) (A B : Nat) : Bool := if n = m then n else if A < B then m else n
def plT (n m : Bool) (A B : Nat) : Nat := if n = m then A + B else if A < B then B - A else A - B
theorem plT_zero {n m : Bool} {A B : Nat} (h : plT n m A B = 0) : A = B := by
  unfold plT at h
  split at h
  · omega
  · split at h <;> omega
theorem plT_lt (n m : Bool) (A B : Nat) : plT n m A B ≤ A + B := by
  unfold plT
  split
  · omega
  · split <;> omega
/-- the parts of a sum -/
def adC (d q : Nat) : Nat := Nat.gcd d q
def adA (n d q : Nat) : Nat := n * (q / adC d q)
def adT (s t : Bool) (n d p q : Nat) : Nat := plT s t (adA n d q) (adA p q d)
def adS (s t : Bool) (n d p q : Nat) : Nat := Nat.gcd (adT s t n d p q % adC d q) (adC d q)
theorem adC_comm (d q : Nat) : adC d q = adC q d := Nat.gcd_comm d q
theorem adC_pos (d q : Nat) (hd : 0 < d) : 0 < adC d q := Nat.gcd_pos_of_pos_left _ hd
theorem adS_pos (s t : Bool) (n d p q : Nat) (hd : 0 < d) : 0 < adS s t n d p q := Nat.gcd_pos_of_pos_right _ (adC_pos d q hd)
theorem adS_dvd (s t : Bool) (n d p q : Nat) : adS s t n d p q ∣ adC d q := Nat.gcd_dvd_right _ _
theorem ad_den (s t : Bool) (n d p q : Nat) : d / adC d q * q / adS s t n d p q = d / adC d q * (q / adS s t n d p q) := add_den d q _ _ (adS_dvd ..) (Nat.gcd_dvd_right d q)
theorem ad_zero (s t : Bool) (n d p q : Nat) (hn : Nat.gcd n d = 1) (hp : Nat.gcd p q = 1) (hd : 0 < d) (hq : 0 < q) (h : adT s t n d p q / adS s t n d p q = 0) : d / adC d q * q / adS s t n d p q = 1 := by
  have hS : adS s t n d p q ∣ adT s t n d p q := by
    have h1 : adS s t n d p q ∣ adT s t n d p q % adC d q := Nat.gcd_dvd_left _ _
    have h2 := adS_dvd s t n d p q
    exact (Nat.dvd_mod_iff h2).1 h1
  have hT : adT s t n d p q = 0 := by
    have hp := adS_pos s t n d p q hd
    obtain ⟨k, hk⟩ := hS
    rw [hk, Nat.mul_div_cancel_left _ hp] at h
    rw [hk, h, Nat.mul_zero]
  have hAB := plT_zero hT
  unfold adA at hAB
  rw [adC_comm q d] at hAB
  obtain ⟨e1, e2⟩ := add_zero n d p q hn hp hd hq hAB
  have eS : adS s t n d p q = adC d q := by unfold adS; rw [hT, Nat.zero_mod, Nat.gcd_zero_left]
  rw [eS]
  unfold adC
  rw [e1, Nat.one_mul, e2]
theorem adA_le (n d q : Nat) (hn : n ≤ 1000000000000000000) (hq : q ≤ 1000000000000000000) : adA n d q ≤ 1000000000000000000 * 1000000000000000000 := Nat.mul_le_mul hn (Nat.le_trans (Nat.div_le_self _ _) hq)
theorem adT_lt (s t : Bool) (n d p q : Nat) (hn : n ≤ 1000000000000000000) (hd : d ≤ 1000000000000000000) (hp : p ≤ 1000000000000000000) (hq : q ≤ 1000000000000000000) : adT s t n d p q < 340282366920938463463374607431768211456 := by
  have h1 := adA_le n d q hn hq
  have h2 := adA_le p q d hp hd
  have := plT_lt s t (adA n d q) (adA p q d)
  unfold adT; omega
end Go.Proofs.Ytomdoamfdidghaa
