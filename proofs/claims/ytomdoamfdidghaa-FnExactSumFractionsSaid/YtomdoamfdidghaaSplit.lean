/- Dividing a number of two words by one bit after another, on the side of the model. -/
import Derived.Test.YtomdoamfdidghaaWide
import Derived.Test.YtomdoamfdidghaaPair
import Derived.Test.YtomdoamfdidghaaBits
import Derived.LoopTactic
import Derived.Laws.ShiftsVarLaws
import Derived.IntWalk
namespace Go.Proofs.Ytomdoamfdidghaa
open Go.RowKit
set_option linter.unusedVariables false

theorem split_top (a i : Nat) : a / 2 ^ i = 2 * (a / 2 ^ (i + 1)) + a / 2 ^ i % 2 := by
  rw [Nat.pow_succ, ← Nat.div_div_eq_div_mul]; omega
theorem split_ge (t d b : Nat) (hd : 0 < d) (h : d ≤ 2 * (t % d) + b) (hb : b < 2) : (2 * t + b) / d = 2 * (t / d) + 1 ∧ (2 * t + b) % d = 2 * (t % d) + b - d := by
  have hm := Nat.mod_lt t hd
  have e : 2 * t + b = d * (2 * (t / d) + 1) + (2 * (t % d) + b - d) := by
    have := Nat.div_add_mod t d
    rw [Nat.mul_add, ← Nat.mul_assoc, Nat.mul_comm d 2, Nat.mul_assoc]
    omega
  have hlt : 2 * (t % d) + b - d < d := by omega
  rw [e]
  exact ⟨by rw [Nat.mul_add_div hd, Nat.div_eq_of_lt hlt, Nat.add_zero], by rw [Nat.mul_add_mod, Nat.mod_eq_of_lt hlt]⟩
theorem split_lt (t d b : Nat) (hd : 0 < d) (h : 2 * (t % d) + b < d) : (2 * t + b) / d = 2 * (t / d) ∧ (2 * t + b) % d = 2 * (t % d) + b := by
  have e : 2 * t + b = d * (2 * (t / d)) + (2 * (t % d) + b) := by
    have := Nat.div_add_mod t d
    rw [← Nat.mul_assoc, Nat.mul_comm d 2, Nat.mul_assoc]
    omega
  rw [e]
  exact ⟨by rw [Nat.mul_add_div hd, Nat.div_eq_of_lt h, Nat.add_zero], by rw [Nat.mul_add_mod, Nat.mod_eq_of_lt h]⟩
theorem bit_lo (T i : Nat) (h : i < 64) : T % 18446744073709551616 / 2 ^ i % 2 = T / 2 ^ i % 2 := by
  have e : (T % 2 ^ 64).testBit i = T.testBit i := by rw [Nat.testBit_mod_two_pow]; simp [h]
  rw [Nat.testBit_eq_decide_div_mod_eq, Nat.testBit_eq_decide_div_mod_eq, decide_eq_decide] at e
  have a := Nat.mod_lt (T % 2 ^ 64 / 2 ^ i) (show 0 < 2 by decide)
  have b := Nat.mod_lt (T / 2 ^ i) (show 0 < 2 by decide)
  show T % 2 ^ 64 / 2 ^ i % 2 = _
  omega
theorem bit_hi (T i : Nat) (h : 64 ≤ i) : T / 18446744073709551616 / 2 ^ (i - 64) % 2 = T / 2 ^ i % 2 := by
  rw [Nat.div_div_eq_div_mul, show 18446744073709551616 * 2 ^ (i - 64) = 2 ^ i by
    rw [show (18446744073709551616 : Nat) = 2 ^ 64 by decide, ← Nat.pow_add]; congr 1; omega]
theorem ofInt_u64 (a : Nat) (ha : a < 18446744073709551616) : (BitVec.ofInt 64 (a : Int)).toNat = a := by
  rw [BitVec.ofInt_natCast, BitVec.toNat_ofNat]; exact Nat.mod_eq_of_lt (by omega)
theorem wrap_u64_nat (n : Nat) (h : n < 18446744073709551616) : IntKind.u64.wrap (n : Int) = (n : Int) := IntWalk.u64_in _ (by omega)
theorem and1_u64 (a : Nat) (ha : a < 18446744073709551616) : bits .and .u64 (a : Int) 1 = ((a % 2 : Nat) : Int) := by
  show IntKind.u64.wrap ((BitVec.ofInt 64 (a : Int) &&& BitVec.ofInt 64 ((1 : Nat) : Int)).toNat : Int) = _
  rw [BitVec.toNat_and, ofInt_u64 a ha, ofInt_u64 1 (by omega), Nat.and_one_is_mod]
  exact wrap_u64_nat _ (by omega)
theorem or_u64 (a b : Nat) (ha : a < 18446744073709551616) (ha2 : a % 2 = 0) (hb : b < 2) : bits .or .u64 (a : Int) (b : Int) = ((a + b : Nat) : Int) := by
  show IntKind.u64.wrap ((BitVec.ofInt 64 (a : Int) ||| BitVec.ofInt 64 (b : Int)).toNat : Int) = _
  rw [BitVec.toNat_or, ofInt_u64 a ha, ofInt_u64 b (by omega)]
  have e : a ||| b = a + b := by
    have h := Nat.shiftLeft_add_eq_or_of_lt (b := b) (i := 1) (by omega) (a / 2)
    rw [Nat.shiftLeft_eq, show a / 2 * 2 ^ 1 = a by omega] at h
    exact h.symm
  rw [e]
  exact wrap_u64_nat _ (by omega)
theorem words_dbl (Q : Nat) (h : Q < 170141183460469231731687303715884105728) : hiW Q * 2 < 18446744073709551616 ∧ hiW (2 * Q) = hiW Q * 2 + loW Q / 9223372036854775808 ∧ loW (2 * Q) = loW Q * 2 % 18446744073709551616 ∧ loW Q / 9223372036854775808 < 2 ∧ loW (2 * Q) % 2 = 0 ∧ loW (2 * Q) < 18446744073709551616 ∧ hiW (2 * Q + 1) = hiW (2 * Q) ∧ loW (2 * Q + 1) = loW (2 * Q) + 1 := by
  unfold hiW loW; omega
theorem div_small (T i d : Nat) (hT : T < 340282366920938463463374607431768211456) (hd : 0 < d) : T / 2 ^ (i + 1) / d < 170141183460469231731687303715884105728 := by
  have h1 : T / 2 ^ (i + 1) ≤ T / 2 := by
    rw [Nat.pow_succ, Nat.mul_comm, ← Nat.div_div_eq_div_mul]; exact Nat.div_le_self _ _
  have h2 := Nat.div_le_self (T / 2 ^ (i + 1)) d
  omega

set_option maxHeartbeats 4000000 in
set_option maxRecDepth 100000 in
theorem specSplit (T d : Nat) (w : World) (hT : T < 340282366920938463463374607431768211456) (hd : 0 < d) (hd2 : d ≤ 1000000000000000000) :
    Calls Try.prog 54 #[.agg #[.int .u64 (hiW T : Int), .int .u64 (loW T : Int)], .int .i64 (d : Int)] w fun e w' => e = .returned (.tuple #[.agg #[.int .u64 (hiW (T / d) : Int), .int .u64 (loW (T / d) : Int)], .int .i64 ((T % d : Nat) : Int)]) ∧ Below w.heap.size w w' := by
  obtain ⟨hT1, hhi⟩ : ∃ h, hiW T = h := ⟨_, rfl⟩
  obtain ⟨lo, hlo⟩ : ∃ h, loW T = h := ⟨_, rfl⟩
  have hlo2 : lo < 18446744073709551616 := by rw [← hlo]; unfold loW; omega
  have hhi2 : hT1 < 18446744073709551616 := by rw [← hhi]; unfold hiW; omega
  have HHI := Lib.hid hhi
  have HLO := Lib.hid hlo
  rw [hhi, hlo]
  have hdw : IntKind.u64.wrap (d : Int) = (d : Int) := wrap_u64_nat _ (by omega)
  have HA0 := Lib.hid (((At2.new w (.int .u64 (hT1 : Int)) (.int .u64 (lo : Int)) 71).alloc (.cells #[.int .u64 0, .int .u64 0] 71)).alloc (.cells #[.int .u64 0, .int .u64 0] 71))
  have HR0 := Lib.hid ((At2.new (w.alloc (.cells #[.int .u64 (hT1 : Int), .int .u64 (lo : Int)] 71)) (.int .u64 0) (.int .u64 0) 71).alloc (.cells #[.int .u64 0, .int .u64 0] 71))
  have HQ0 := Lib.hid (At2.new ((w.alloc (.cells #[.int .u64 (hT1 : Int), .int .u64 (lo : Int)] 71)).alloc (.cells #[.int .u64 0, .int .u64 0] 71)) (.int .u64 0) (.int .u64 0) 71)
  simp only [World.size_alloc] at HR0 HQ0
  clear hhi hlo
  go_enter Try.func54, Try.ntmps54
  go_wp2
  go_loopw [7, 8] (fun r iv wr => ∃ j : Nat, j ≤ 128 ∧ iv = .int .i64 ((j : Int) - 1) ∧ r = .int .u64 ((T / 2 ^ j % d : Nat) : Int) ∧ At2 wr w.heap.size (.int .u64 (hT1 : Int)) (.int .u64 (lo : Int)) ∧ At2 wr (w.heap.size + 1) (.int .u64 0) (.int .u64 0) ∧ At2 wr (w.heap.size + 1 + 1) (.int .u64 (hiW (T / 2 ^ j / d) : Int)) (.int .u64 (loW (T / 2 ^ j / d) : Int)) ∧ Below w.heap.size w wr) (fun _ iv _ => (intOf iv + 1).toNat)
  case atStart =>
    have hz : T / 2 ^ 128 = 0 := Nat.div_eq_of_lt (by omega)
    refine ⟨128, Nat.le_refl _, rfl, by rw [hz]; simp, HA0.out, HR0.out, by rw [hz]; simpa [hiW, loW] using HQ0.out, (((Below.refl _ _).alloc (Nat.le_refl _) _).alloc (by simp) _).alloc (by simp; omega) _⟩
  case round =>
    obtain ⟨j, hj, rfl, rfl, hA, hR, hQ, hB⟩ := hrel
    by_cases hlt : 1 ≤ j
    · obtain ⟨i, hji⟩ : ∃ i : Nat, j = i + 1 := ⟨j - 1, by omega⟩
      have hij : (j : Int) - 1 = (i : Int) := by omega
      have hi127 : i ≤ 127 := by omega
      have hsp := split_top T i
      rw [← hji] at hsp
      have hQb := div_small T i d hT hd
      rw [← hji] at hQb
      obtain ⟨V, hV⟩ : ∃ V, T / 2 ^ j = V := ⟨_, rfl⟩
      rw [hV] at hsp hQb hQ ⊢
      have hrd := Nat.mod_lt V hd
      obtain ⟨Q, hQe⟩ : ∃ Q, V / d = Q := ⟨_, rfl⟩
      obtain ⟨r, hre⟩ : ∃ r, V % d = r := ⟨_, rfl⟩
      rw [hQe] at hQb hQ
      rw [hre] at hrd ⊢
      obtain ⟨b, hb⟩ : ∃ b, T / 2 ^ i % 2 = b := ⟨_, rfl⟩
      have hb2 : b < 2 := by omega
      rw [hb] at hsp
      obtain ⟨g1, g2, g3, g4, g5, g6, g7, g8⟩ := words_dbl Q hQb
      obtain ⟨c0, c1, _, _⟩ := hA
      obtain ⟨q0, q1, q2, q3⟩ := hQ
      obtain ⟨m, hm⟩ : ∃ m, i % 64 = m := ⟨_, rfl⟩
      have hm2 : m < 64 := by omega
      have wr1 : (i : Int) % 64 = (m : Int) := by omega
      have wr0 : IntKind.i64.wrap ((i : Int).tmod 64) = (m : Int) := by rw [Int.tmod_eq_emod_of_nonneg (by omega), IntWalk.i64_in _ (by omega)]; exact wr1
      have wu : IntKind.u64.wrap (m : Int) = (m : Int) := wrap_u64_nat _ (by omega)
      have hl0 : lo / 2 ^ m < 18446744073709551616 := Nat.lt_of_le_of_lt (Nat.div_le_self _ _) hlo2
      obtain ⟨z0, hz0⟩ : ∃ z, lo / 2 ^ m % 2 = z := ⟨_, rfl⟩
      have ha0 : bits .and .u64 ((lo : Int) / 2 ^ m) 1 = (z0 : Int) := by
        have h := and1_u64 (lo / 2 ^ m) hl0
        rwa [hz0, Int.natCast_ediv, Int.natCast_pow] at h
      obtain ⟨x, hx⟩ : ∃ x, 2 * r + b = x := ⟨_, rfl⟩
      have hxb : x ≤ 2000000000000000001 := by omega
      have addb : IntKind.u64.wrap (2 * (r : Int) + (b : Int)) = (x : Int) := by rw [IntWalk.u64_in _ (by omega)]; omega
      obtain ⟨H2, hH2⟩ : ∃ x, hiW (2 * Q) = x := ⟨_, rfl⟩
      obtain ⟨L2, hL2⟩ : ∃ x, loW (2 * Q) = x := ⟨_, rfl⟩
      obtain ⟨L3, hL3⟩ : ∃ x, loW (2 * Q + 1) = x := ⟨_, rfl⟩
      rw [hL2] at g3 g5 g6 g8
      rw [hH2] at g2 g7
      rw [hL3] at g8
      obtain ⟨hq2, hq2e⟩ : ∃ x, hiW Q * 2 = x := ⟨_, rfl⟩
      have hwh : IntKind.u64.wrap ((hiW Q : Int) * 2) = (hq2 : Int) := by rw [IntWalk.u64_in _ (by omega)]; omega
      have hor : bits .or .u64 (hq2 : Int) ((loW Q : Int) / 9223372036854775808) = (H2 : Int) := by
        have h := or_u64 hq2 (loW Q / 9223372036854775808) (by omega) (by omega) g4
        rw [← hq2e, ← g2, hq2e] at h
        simpa using h
      have hlw : IntKind.u64.wrap ((loW Q : Int) * 2) = (L2 : Int) := by
        simp only [IntKind.wrap, IntKind.bits, IntKind.signed]; simp; omega
      have hor1 : bits .or .u64 (L2 : Int) 1 = (L3 : Int) := by
        have h := or_u64 L2 1 g6 g5 (by omega)
        rw [← g8] at h
        simpa using h
      have hA' : At2 wr w.heap.size (.int .u64 (hT1 : Int)) (.int .u64 (lo : Int)) := ⟨c0, c1, by assumption, by assumption⟩
      have hQ' : At2 wr (w.heap.size + 1 + 1) (.int .u64 (hiW Q : Int)) (.int .u64 (loW Q : Int)) := ⟨q0, q1, q2, q3⟩
      have HQ1 := Lib.hid ((hQ'.set0 (.int .u64 (H2 : Int))).set1 (.int .u64 (L2 : Int)))
      have HQ2 := Lib.hid (((hQ'.set0 (.int .u64 (H2 : Int))).set1 (.int .u64 (L2 : Int))).set1 (.int .u64 (L3 : Int)))
      have HA1 := Lib.hid ((hA'.set_ne (g' := w.heap.size + 1 + 1) (by omega) 0 (.int .u64 (H2 : Int))).set_ne (g' := w.heap.size + 1 + 1) (by omega) 1 (.int .u64 (L2 : Int)))
      have HA2 := Lib.hid (((hA'.set_ne (g' := w.heap.size + 1 + 1) (by omega) 0 (.int .u64 (H2 : Int))).set_ne (g' := w.heap.size + 1 + 1) (by omega) 1 (.int .u64 (L2 : Int))).set_ne (g' := w.heap.size + 1 + 1) (by omega) 1 (.int .u64 (L3 : Int)))
      have HR1 := Lib.hid ((hR.set_ne (g' := w.heap.size + 1 + 1) (by omega) 0 (.int .u64 (H2 : Int))).set_ne (g' := w.heap.size + 1 + 1) (by omega) 1 (.int .u64 (L2 : Int)))
      have HR2 := Lib.hid (((hR.set_ne (g' := w.heap.size + 1 + 1) (by omega) 0 (.int .u64 (H2 : Int))).set_ne (g' := w.heap.size + 1 + 1) (by omega) 1 (.int .u64 (L2 : Int))).set_ne (g' := w.heap.size + 1 + 1) (by omega) 1 (.int .u64 (L3 : Int)))
      have HB1 := Lib.hid ((hB.setCell (p := ⟨w.heap.size + 1 + 1, 0, none⟩) (by dsimp only; omega) (.int .u64 (H2 : Int))).setCell (p := ⟨w.heap.size + 1 + 1, 1, none⟩) (by dsimp only; omega) (.int .u64 (L2 : Int)))
      have HB2 := Lib.hid (((hB.setCell (p := ⟨w.heap.size + 1 + 1, 0, none⟩) (by dsimp only; omega) (.int .u64 (H2 : Int))).setCell (p := ⟨w.heap.size + 1 + 1, 1, none⟩) (by dsimp only; omega) (.int .u64 (L2 : Int))).setCell (p := ⟨w.heap.size + 1 + 1, 1, none⟩) (by dsimp only; omega) (.int .u64 (L3 : Int)))
      have hnew : (d ≤ x → T / 2 ^ i % d = x - d ∧ hiW (T / 2 ^ i / d) = H2 ∧ loW (T / 2 ^ i / d) = L3) ∧ (¬ d ≤ x → T / 2 ^ i % d = x ∧ hiW (T / 2 ^ i / d) = H2 ∧ loW (T / 2 ^ i / d) = L2) := by
        refine ⟨fun h => ?_, fun h => ?_⟩
        · obtain ⟨s1, s2⟩ := split_ge V d b hd (by rw [hre]; omega) hb2
          rw [hQe] at s1; rw [hre] at s2
          rw [hsp, s1, s2]
          exact ⟨by omega, g7, hL3⟩
        · obtain ⟨s1, s2⟩ := split_lt V d b hd (by rw [hre]; omega)
          rw [hQe] at s1; rw [hre] at s2
          rw [hsp, s1, s2]
          exact ⟨by omega, hH2, hL2⟩
      have HNEW := Lib.hid hnew
      have HJI := Lib.hid hji
      have bits1 : (64 ≤ i → bits .and .u64 ((hT1 : Int) / 2 ^ (i - 64)) 1 = (b : Int)) ∧ (i < 64 → (z0 : Int) = (b : Int)) := by
        refine ⟨fun h => ?_, fun h => ?_⟩
        · have e := and1_u64 (hT1 / 2 ^ (i - 64)) (Nat.lt_of_le_of_lt (Nat.div_le_self _ _) hhi2)
          have e2 : hT1 / 2 ^ (i - 64) % 2 = b := by rw [← HHI.out]; unfold hiW; rw [bit_hi T i h]; exact hb
          rw [e2, Int.natCast_ediv, Int.natCast_pow] at e
          simpa using e
        · have e2 : lo / 2 ^ m % 2 = b := by rw [← hm, Nat.mod_eq_of_lt h, ← HLO.out]; unfold loW; rw [bit_lo T i h]; exact hb
          omega
      obtain ⟨bh, bl⟩ := bits1
      clear hsp hQb hV hQe hre hb g2 g3 g4 g5 g7 g8 hH2 hL2 hL3 hnew hQ' hA' hR hB hz0 hm hji hl0 hx g1 hq2e
      by_cases h64 : 64 ≤ i
      · have bb := bh h64
        clear bh bl
        by_cases hge : d ≤ x
        · obtain ⟨nw1, nw2, nw3⟩ := HNEW.out.1 hge
          have cmp : decide ((d : Int) ≤ (x : Int)) = true := by simp; omega
          have sub1 : IntKind.u64.wrap ((x : Int) - (d : Int)) = ((x - d : Nat) : Int) := by rw [IntWalk.u64_in _ (by omega)]; omega
          go_wp2
          go_roundw
          case rel => exact ⟨i, by have := HJI.out; omega, rfl, by rw [nw1], HA2.out, HR2.out, by rw [nw2, nw3]; exact HQ2.out, HB2.out⟩
          case measure => have := HJI.out; simp [intOf]; omega
        · obtain ⟨nw1, nw2, nw3⟩ := HNEW.out.2 hge
          have cmp : decide ((d : Int) ≤ (x : Int)) = false := by simp; omega
          go_wp2
          go_roundw
          case rel => exact ⟨i, by have := HJI.out; omega, rfl, by rw [nw1], HA1.out, HR1.out, by rw [nw2, nw3]; exact HQ1.out, HB1.out⟩
          case measure => have := HJI.out; simp [intOf]; omega
      · have bb := bl (by omega)
        clear bh bl
        rw [bb] at ha0
        by_cases hge : d ≤ x
        · obtain ⟨nw1, nw2, nw3⟩ := HNEW.out.1 hge
          have cmp : decide ((d : Int) ≤ (x : Int)) = true := by simp; omega
          have sub1 : IntKind.u64.wrap ((x : Int) - (d : Int)) = ((x - d : Nat) : Int) := by rw [IntWalk.u64_in _ (by omega)]; omega
          go_wp2
          go_roundw
          case rel => exact ⟨i, by have := HJI.out; omega, rfl, by rw [nw1], HA2.out, HR2.out, by rw [nw2, nw3]; exact HQ2.out, HB2.out⟩
          case measure => have := HJI.out; simp [intOf]; omega
        · obtain ⟨nw1, nw2, nw3⟩ := HNEW.out.2 hge
          have cmp : decide ((d : Int) ≤ (x : Int)) = false := by simp; omega
          go_wp2
          go_roundw
          case rel => exact ⟨i, by have := HJI.out; omega, rfl, by rw [nw1], HA1.out, HR1.out, by rw [nw2, nw3]; exact HQ1.out, HB1.out⟩
          case measure => have := HJI.out; simp [intOf]; omega
    · obtain rfl : j = 0 := by omega
      simp only [Nat.pow_zero, Nat.div_one] at hQ ⊢
      obtain ⟨q0, q1, q2, q3⟩ := hQ
      obtain ⟨t0, t1, _, _⟩ := (hR.set0 (.int .u64 (hiW (T / d) : Int))).set1 (.int .u64 (loW (T / d) : Int))
      obtain ⟨r0, r1, r2, r3⟩ := hR
      have hrd := Nat.mod_lt T hd
      have hrc : IntKind.i64.wrap ((T % d : Nat) : Int) = ((T % d : Nat) : Int) := IntWalk.i64_in _ (by omega)
      obtain ⟨R, hRe⟩ : ∃ R, T % d = R := ⟨_, rfl⟩
      rw [hRe] at hrc ⊢
      have HB := Lib.hid ((hB.setCell (p := ⟨w.heap.size + 1, 0, none⟩) (by dsimp only; omega) (.int .u64 (hiW (T / d) : Int))).setCell (p := ⟨w.heap.size + 1, 1, none⟩) (by dsimp only; omega) (.int .u64 (loW (T / d) : Int)))
      clear hB
      go_wp2
      refine bodyPost_ret (v := .tuple #[.agg #[.int .u64 (hiW (T / d) : Int), .int .u64 (loW (T / d) : Int)], .int .i64 (R : Int)]) (by simp [results, Try.results54, go_sem, t0, t1]) rfl ⟨by rw [hRe], HB.out⟩
end Go.Proofs.Ytomdoamfdidghaa
