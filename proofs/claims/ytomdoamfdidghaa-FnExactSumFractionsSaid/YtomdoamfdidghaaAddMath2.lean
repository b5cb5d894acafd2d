/- A sum of two fractions in lowest terms is in lowest terms. -/
import Derived.Test.YtomdoamfdidghaaAddMath
namespace Go.Proofs.Ytomdoamfdidghaa
set_option linter.unusedVariables false
theorem cop_of (A B F T : Nat) (hA : Nat.Coprime A F) (hB : F ∣ B) (hT : T = A + B ∨ A = T + B ∨ B = T + A) : Nat.Coprime T F := by
  have g1 : Nat.gcd T F ∣ F := Nat.gcd_dvd_right _ _
  have g2 : Nat.gcd T F ∣ T := Nat.gcd_dvd_left _ _
  have g3 : Nat.gcd T F ∣ B := Nat.dvd_trans g1 hB
  have g4 : Nat.gcd T F ∣ A := by
    rcases hT with h | h | h
    · exact (Nat.dvd_add_iff_left g3).2 (h ▸ g2)
    · rw [h]; exact Nat.dvd_add g2 g3
    · exact (Nat.dvd_add_iff_right g2).2 (h ▸ g3)
  exact Nat.dvd_one.1 (hA ▸ Nat.dvd_gcd g4 g1)
theorem plT_or (s t : Bool) (A B : Nat) : plT s t A B = A + B ∨ A = plT s t A B + B ∨ B = plT s t A B + A := by
  unfold plT
  split
  · exact .inl rfl
  · split <;> omega
theorem div_three (f C S : Nat) (hS : 0 < S) (hC : 0 < C) (h1 : C ∣ f) (h2 : S ∣ C) : f / S = f / C * (C / S) := by
  obtain ⟨k, rfl⟩ := h1
  obtain ⟨m, rfl⟩ := h2
  rw [Nat.mul_div_cancel_left _ hC, Nat.mul_div_cancel_left _ hS, Nat.mul_assoc, Nat.mul_div_cancel_left _ hS, Nat.mul_comm]
theorem add_cop (s t : Bool) (a b e f : Nat) (hn : Nat.gcd a b = 1) (hp : Nat.gcd e f = 1) (hb : 0 < b) (hf : 0 < f) :
    Nat.gcd (adT s t a b e f / adS s t a b e f) (b / adC b f * (f / adS s t a b e f)) = 1 ∧ 0 < b / adC b f * (f / adS s t a b e f) := by
  have hC := adC_pos b f hb
  have hS := adS_pos s t a b e f hb
  have hSC := adS_dvd s t a b e f
  have hCb : adC b f ∣ b := Nat.gcd_dvd_left b f
  have hCf : adC b f ∣ f := Nat.gcd_dvd_right b f
  have hFG : Nat.Coprime (b / adC b f) (f / adC b f) := Nat.coprime_div_gcd_div_gcd hC
  have hFb : b / adC b f ∣ b := Nat.div_dvd_of_dvd hCb
  have hGf : f / adC b f ∣ f := Nat.div_dvd_of_dvd hCf
  have hor := plT_or s t (adA a b f) (adA e f b)
  have eA : adA a b f = a * (f / adC b f) := rfl
  have eB : adA e f b = e * (b / adC b f) := by unfold adA; rw [adC_comm f b]
  have hTF : Nat.Coprime (adT s t a b e f) (b / adC b f) := by
    refine cop_of (adA a b f) (adA e f b) _ _ ?_ ?_ hor
    · rw [eA]; exact Nat.Coprime.mul_left (Nat.Coprime.coprime_dvd_right hFb hn) hFG.symm
    · rw [eB]; exact Nat.dvd_mul_left _ _
  have hTG : Nat.Coprime (adT s t a b e f) (f / adC b f) := by
    refine cop_of (adA e f b) (adA a b f) _ _ ?_ ?_ ?_
    · rw [eB]; exact Nat.Coprime.mul_left (Nat.Coprime.coprime_dvd_right hGf hp) hFG
    · rw [eA]; exact Nat.dvd_mul_left _ _
    · unfold adT; rcases hor with h | h | h
      · left; omega
      · right; right; exact h
      · right; left; exact h
  have eS : adS s t a b e f = Nat.gcd (adC b f) (adT s t a b e f) := by unfold adS; rw [← Nat.gcd_rec]
  have hST : adS s t a b e f ∣ adT s t a b e f := by rw [eS]; exact Nat.gcd_dvd_right _ _
  have hTC : Nat.Coprime (adT s t a b e f / adS s t a b e f) (adC b f / adS s t a b e f) := by
    have h := Nat.coprime_div_gcd_div_gcd (m := adC b f) (n := adT s t a b e f) (by rw [← eS]; exact hS)
    rw [← eS] at h
    exact h.symm
  have hd : adT s t a b e f / adS s t a b e f ∣ adT s t a b e f := Nat.div_dvd_of_dvd hST
  have ef : f / adS s t a b e f = f / adC b f * (adC b f / adS s t a b e f) := div_three _ _ _ hS hC hCf hSC
  refine ⟨?_, ?_⟩
  · rw [ef]
    exact Nat.Coprime.mul_right (Nat.Coprime.coprime_dvd_left hd hTF) (Nat.Coprime.mul_right (Nat.Coprime.coprime_dvd_left hd hTG) hTC)
  · have p1 : 0 < b / adC b f := Nat.div_pos (Nat.le_of_dvd hb hCb) hC
    have p2 : 0 < f / adS s t a b e f := Nat.div_pos (Nat.le_of_dvd hf (Nat.dvd_trans hSC hCf)) hS
    exact Nat.mul_pos p1 p2
end Go.Proofs.Ytomdoamfdidghaa
