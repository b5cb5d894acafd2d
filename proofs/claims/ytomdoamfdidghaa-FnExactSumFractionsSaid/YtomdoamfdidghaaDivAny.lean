/- Dividing two words by one: the contracts of math/bits.Div64 and Rem64 at whatever numbers. -/
import Derived.Test.YtomdoamfdidghaaDiv64
namespace Go.Proofs.Ytomdoamfdidghaa
open Go.RowKit

theorem bitLenAux_bd (f x : Nat) (h : x < 2 ^ f) : x < 2 ^ Lib.bitLenAux f x ∧ (0 < x → 2 ^ Lib.bitLenAux f x ≤ 2 * x) ∧ (0 < x → 1 ≤ Lib.bitLenAux f x) ∧ Lib.bitLenAux f x ≤ f := by
  induction f generalizing x with
  | zero => simp at h; subst h; simp [Lib.bitLenAux]
  | succ f ih =>
    rw [Nat.pow_succ] at h
    obtain ⟨i1, i2, i3, i4⟩ := ih (x / 2) (by omega)
    by_cases h0 : x = 0
    · subst h0; simp [Lib.bitLenAux]
    · have e : Lib.bitLenAux (f + 1) x = Lib.bitLenAux f (x / 2) + 1 := by
        show (if x = 0 then 0 else 1 + Lib.bitLenAux f (x / 2)) = _
        rw [if_neg h0]; omega
      rw [e, Nat.pow_succ]
      refine ⟨by omega, fun _ => ?_, fun _ => by omega, by omega⟩
      by_cases h1 : x = 1
      · subst h1
        have : Lib.bitLenAux f (1 / 2) = 0 := by cases f <;> simp [Lib.bitLenAux]
        rw [this]; omega
      · have := i2 (by omega); omega

theorem or_add (a b s : Nat) (ha : a % 2 ^ s = 0) (hb : b < 2 ^ s) : a ||| b = a + b := by
  obtain ⟨k, rfl⟩ := Nat.dvd_of_mod_eq_zero ha
  have h := Nat.shiftLeft_add_eq_or_of_lt hb k
  rw [Nat.shiftLeft_eq, Nat.mul_comm] at h
  exact h.symm

theorem div64_any (hi lo y : Nat) (w : World) (hy : hi < y) (hy2 : y < 18446744073709551616) (hlo : lo < 18446744073709551616) :
    Calls Try.prog 60 #[.int .u64 hi, .int .u64 lo, .int .u64 y] w fun e w' => e = .returned (.tuple #[.int .u64 (((hi * 18446744073709551616 + lo) / y : Nat) : Int), .int .u64 (((hi * 18446744073709551616 + lo) % y : Nat) : Int)]) ∧ ∃ q, w' = w.drewN q := by
  by_cases hz : hi = 0
  · subst hz
    have := div64_zero lo y w (by omega) hlo
    simpa using this
  have hb := bitLenAux_bd 64 y (by omega)
  obtain ⟨b1, b2, b3, b4⟩ := hb
  have b2 := b2 (by omega)
  have b3 := b3 (by omega)
  obtain ⟨s, hs⟩ : ∃ s, Lib.bitLen y + s = 64 := ⟨64 - Lib.bitLen y, by have : Lib.bitLen y ≤ 64 := b4; omega⟩
  have hs1 : Lib.bitLenAux 64 y + s = 64 := hs
  have hs2 : s ≤ 63 := by omega
  have hp : 2 ^ Lib.bitLenAux 64 y * 2 ^ s = 18446744073709551616 := by rw [← Nat.pow_add, hs1]
  have hP : 0 < 2 ^ s := Nat.pow_pos (by omega)
  have hPs : 2 ^ s * 2 ^ (64 - s) = 18446744073709551616 := by rw [← Nat.pow_add, show s + (64 - s) = 64 from by omega]
  have hQ : 0 < 2 ^ (64 - s) := Nat.pow_pos (by omega)
  generalize hB : 2 ^ Lib.bitLenAux 64 y = B at *
  have lz : ∀ w, Calls Try.prog 61 #[.int .u64 (y : Int)] w fun e w' => e = .returned (.int .i64 (s : Int)) ∧ w = w' := fun w =>
    (Try.bits_LeadingZeros64 (y : Int) w (by omega) (by omega)).mono fun e w' h => ⟨by rw [h.1, Int.toNat_natCast]; congr 2; omega, h.2.symm⟩
  obtain ⟨P, hPe⟩ : ∃ P, 2 ^ s = P := ⟨_, rfl⟩
  obtain ⟨T, hTe⟩ : ∃ T, 2 ^ (64 - s) = T := ⟨_, rfl⟩
  have hPi : ((2 : Int) ^ s) = (P : Int) := by rw [← hPe]; simp
  have hTi : ((2 : Int) ^ (64 - s)) = (T : Int) := by rw [← hTe]; simp
  rw [hPe] at hp hP hPs
  rw [hTe] at hPs hQ
  -- the divisor, moved to the left
  have Y1 : y * P < 18446744073709551616 := by
    have := Nat.mul_lt_mul_of_pos_right b1 hP
    omega
  have Y2 : 9223372036854775808 ≤ y * P := by
    have := Nat.mul_le_mul_right P b2
    rw [Nat.mul_assoc] at this
    omega
  generalize hY : y * P = Y at *
  -- the high word, moved to the left
  have H1 : hi * P + P ≤ Y := by
    rw [← hY]
    have : (hi + 1) * P ≤ y * P := Nat.mul_le_mul_right P (by omega)
    rw [Nat.add_mul, Nat.one_mul] at this
    exact this
  have H2 : (hi * P) % 2 ^ s = 0 := by rw [hPe]; exact Nat.mul_mod_left _ _
  have L1 : lo / T < P := by
    rw [Nat.div_lt_iff_lt_mul hQ, hPs]; exact hlo
  have U1 : hi * P ||| lo / T = hi * P + lo / T := or_add _ _ s H2 (by rw [hPe]; exact L1)
  have V1 : lo * P = lo / T * 18446744073709551616 + lo * P % 18446744073709551616 := by
    have h := Nat.div_add_mod lo T
    have h2 : lo * P = lo / T * 18446744073709551616 + lo % T * P := by
      have : (T * (lo / T) + lo % T) * P = lo / T * (P * T) + lo % T * P := by grind
      rw [h, hPs] at this
      exact this
    have h3 : lo % T * P < 18446744073709551616 := by
      have : lo % T * P < T * P := Nat.mul_lt_mul_of_pos_right (Nat.mod_lt _ hQ) hP
      rw [Nat.mul_comm T P, hPs] at this
      exact this
    omega
  have W1 : (hi * 18446744073709551616 + lo) * P = (hi * P + lo / T) * 18446744073709551616 + lo * P % 18446744073709551616 := by
    rw [Nat.add_mul, V1]
    have : hi * 18446744073709551616 * P = hi * P * 18446744073709551616 := by rw [Nat.mul_assoc, Nat.mul_comm 18446744073709551616 P, ← Nat.mul_assoc]
    omega
  generalize hH : hi * P = H at *
  generalize hL : lo / T = L at *
  have Ult : H + L < Y := by omega
  have Vlt : lo * P % 18446744073709551616 < 18446744073709551616 := Nat.mod_lt _ (by omega)
  have hVi : IntKind.u64.wrap ((lo : Int) * 2 ^ s) = ((lo * P % 18446744073709551616 : Nat) : Int) := by
    rw [hPi, IntKind.wrap_u64]; simp
  have hYi : IntKind.u64.wrap ((y : Int) * 2 ^ s) = (Y : Int) := by
    rw [hPi, ← Int.natCast_mul, hY]; exact wrap_nat _ Y1
  have hHi : IntKind.u64.wrap ((hi : Int) * 2 ^ s) = (H : Int) := by
    rw [hPi, ← Int.natCast_mul, hH]; exact wrap_nat _ (by omega)
  have hLi : (lo : Int) / 2 ^ (64 - s) = (L : Int) := by rw [hTi, ← hL]; simp
  generalize hV : lo * P % 18446744073709551616 = V at *
  obtain ⟨U, hU⟩ : ∃ U, H + L = U := ⟨_, rfl⟩
  have hUi : bits .or .u64 (H : Int) (L : Int) = (U : Int) := by rw [u64_or_nat _ _ (by omega) (by omega), U1, hU]
  rw [hU] at Ult W1
  clear U1 H2 hp b1 b2 b3 b4 hTi hPs hQ hB H1 L1 hU
  -- half words
  have y1e : Y / 4294967296 * 4294967296 + Y % 4294967296 = Y := by omega
  have v1e : V = V / 4294967296 * 4294967296 + V % 4294967296 := by omega
  have m32 : (4294967295 : Nat) = 2 ^ 32 - 1 := by decide
  have hYl : bits .and .u64 (Y : Int) 4294967295 = ((Y % 4294967296 : Nat) : Int) := by
    rw [show (4294967295 : Int) = ((4294967295 : Nat) : Int) from rfl, u64_and_nat _ _ Y1 (by omega), m32, Nat.and_two_pow_sub_one_eq_mod]
  have hVl : bits .and .u64 (V : Int) 4294967295 = ((V % 4294967296 : Nat) : Int) := by
    rw [show (4294967295 : Int) = ((4294967295 : Nat) : Int) from rfl, u64_and_nat _ _ Vlt (by omega), m32, Nat.and_two_pow_sub_one_eq_mod]
  have hYh : (Y : Int) / 4294967296 = ((Y / 4294967296 : Nat) : Int) := by simp
  have hVh : (V : Int) / 4294967296 = ((V / 4294967296 : Nat) : Int) := by simp
  have y1lo : 2147483648 ≤ Y / 4294967296 := by omega
  have y1hi : Y / 4294967296 < 4294967296 := by omega
  have y0hi : Y % 4294967296 < 4294967296 := by omega
  have v1hi : V / 4294967296 < 4294967296 := by omega
  have v0hi : V % 4294967296 < 4294967296 := by omega
  have two := two_halves U V Y (by omega) (V / 4294967296) (V % 4294967296) v1e
  have sc := div_scaled (hi * 18446744073709551616 + lo) y s
  rw [hPe, W1, hY] at sc
  rw [sc.1] at two
  have q1lt : (U * 4294967296 + V / 4294967296) / Y < 4294967296 := by
    have := half_q_lt (Y / 4294967296) (Y % 4294967296) U (V / 4294967296) (by omega) v1hi
    rwa [y1e] at this
  have r1lt : (U * 4294967296 + V / 4294967296) % Y < Y := Nat.mod_lt _ (by omega)
  have r1e := Nat.div_add_mod (U * 4294967296 + V / 4294967296) Y
  have q0lt : ((U * 4294967296 + V / 4294967296) % Y * 4294967296 + V % 4294967296) / Y < 4294967296 := by
    have := half_q_lt (Y / 4294967296) (Y % 4294967296) ((U * 4294967296 + V / 4294967296) % Y) (V % 4294967296) (by omega) v0hi
    rwa [y1e] at this
  have r0e := Nat.div_add_mod ((U * 4294967296 + V / 4294967296) % Y * 4294967296 + V % 4294967296) Y
  have r0lt : ((U * 4294967296 + V / 4294967296) % Y * 4294967296 + V % 4294967296) % Y < Y := Nat.mod_lt _ (by omega)
  obtain ⟨Q1, hq1⟩ : ∃ Q1, (U * 4294967296 + V / 4294967296) / Y = Q1 := ⟨_, rfl⟩
  obtain ⟨R1, hr1⟩ : ∃ R1, (U * 4294967296 + V / 4294967296) % Y = R1 := ⟨_, rfl⟩
  rw [hq1, hr1] at two r1e
  rw [hq1] at q1lt
  rw [hr1] at r1lt q0lt r0lt r0e
  obtain ⟨Q0, hq0⟩ : ∃ Q0, (R1 * 4294967296 + V % 4294967296) / Y = Q0 := ⟨_, rfl⟩
  obtain ⟨R0, hr0⟩ : ∃ R0, (R1 * 4294967296 + V % 4294967296) % Y = R0 := ⟨_, rfl⟩
  rw [hq0, hr0] at two r0e
  rw [hq0] at q0lt
  rw [hr0] at r0lt
  have p1e : Y * Q1 = Q1 * Y := Nat.mul_comm _ _
  have p0e : Y * Q0 = Q0 * Y := Nat.mul_comm _ _
  have d1 := Nat.div_mul_le_self U (Y / 4294967296)
  have d1' : U - U / (Y / 4294967296) * (Y / 4294967296) < Y / 4294967296 := by
    have h1 := Nat.div_add_mod U (Y / 4294967296)
    have h2 := Nat.mod_lt U (show 0 < Y / 4294967296 by omega)
    rw [Nat.mul_comm] at h1; omega
  have d0 := Nat.div_mul_le_self R1 (Y / 4294967296)
  have d0' : R1 - R1 / (Y / 4294967296) * (Y / 4294967296) < Y / 4294967296 := by
    have h1 := Nat.div_add_mod R1 (Y / 4294967296)
    have h2 := Nat.mod_lt R1 (show 0 < Y / 4294967296 by omega)
    rw [Nat.mul_comm] at h1; omega
  have i1 := half_start (Y / 4294967296) (Y % 4294967296) U (V / 4294967296) (by omega) v1hi
  have i0 := half_start (Y / 4294967296) (Y % 4294967296) R1 (V % 4294967296) (by omega) v0hi
  have du : U / (Y / 4294967296) ≤ U := Nat.div_le_self _ _
  have dr : R1 / (Y / 4294967296) ≤ R1 := Nat.div_le_self _ _
  have fin := div64_raw hi lo y s Y (Y / 4294967296) (Y % 4294967296) H L U V (V / 4294967296) (V % 4294967296) (U / (Y / 4294967296)) (U - U / (Y / 4294967296) * (Y / 4294967296)) (U / (Y / 4294967296) * (Y / 4294967296))
    (U * 4294967296 % 18446744073709551616) ((U * 4294967296 + V / 4294967296) % 18446744073709551616) (Q1 * Y % 18446744073709551616) R1 (R1 / (Y / 4294967296)) (R1 / (Y / 4294967296) * (Y / 4294967296)) (R1 - R1 / (Y / 4294967296) * (Y / 4294967296))
    Q1 Q0 (R1 * 4294967296 % 18446744073709551616) ((R1 * 4294967296 + V % 4294967296) % 18446744073709551616) (Q0 * Y % 18446744073709551616) (R0 / P) (Q1 * 4294967296) (Q1 * 4294967296 + Q0) w (by omega) hy (Lib.hid lz) hs2
    y1lo y1hi y0hi v1hi v0hi hYi hYh hYl hHi hLi hUi hVi hVh hVl
    (by rw [← Int.natCast_ediv]; exact wrap_nat _ (by omega)) (wm _ _ (by omega)) (by rw [← Int.ofNat_sub d1]; exact wrap_nat _ (by omega))
    (by rw [IntKind.wrap_u64]; omega) (by rw [IntKind.wrap_u64]; omega) (by rw [IntKind.wrap_u64, ← Int.natCast_mul]; omega) (by rw [IntKind.wrap_u64]; omega)
    (by rw [← Int.natCast_ediv]; exact wrap_nat _ (by omega)) (wm _ _ (by omega)) (by rw [← Int.ofNat_sub d0]; exact wrap_nat _ (by omega))
    (by rw [IntKind.wrap_u64]; omega) (by rw [IntKind.wrap_u64]; omega) (by rw [IntKind.wrap_u64, ← Int.natCast_mul]; omega) (by rw [hPi, IntKind.wrap_u64, Int.natCast_ediv]; congr 1; omega)
    (by rw [show (Q1 : Int) * 4294967296 = ((Q1 * 4294967296 : Nat) : Int) from by simp]; exact wrap_nat _ (by omega)) (wa _ _ (by omega))
    (Lib.hid (by omega)) (Lib.hid (by omega)) (Lib.hid (by omega)) (Lib.hid (by omega)) (Lib.hid i1) (Lib.hid i0) (Lib.hid (by rw [y1e]; exact hq1)) (Lib.hid (by rw [y1e]; exact hq0))
  have e1 : Q1 * 4294967296 + Q0 = (hi * 18446744073709551616 + lo) / y := two.1
  have e2 : R0 / P = (hi * 18446744073709551616 + lo) % y := by rw [two.2]; exact sc.2
  rw [← e1, ← e2]
  exact fin.mono fun e w' h => ⟨h.1, 0, h.2.symm⟩
end Go.Proofs.Ytomdoamfdidghaa
