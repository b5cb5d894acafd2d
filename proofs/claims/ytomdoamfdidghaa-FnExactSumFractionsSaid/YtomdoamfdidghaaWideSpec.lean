/- The sum and the difference of two wide numbers on the side of the model, and the remainder of one on the side of the program. -/
import Derived.Test.YtomdoamfdidghaaWide
import Derived.Test.YtomdoamfdidghaaPair
import Derived.Test.YtomdoamfdidghaaDivAny
import Derived.IntWalk
namespace Go.Proofs.Ytomdoamfdidghaa
open Go.RowKit
set_option linter.unusedVariables false

abbrev TWD : Nat := 71
theorem wsum (A B : Nat) (h : A + B < 340282366920938463463374607431768211456) : IntKind.u64.wrap ((hiW A : Int) + (hiW B : Int)) = ((hiW A + hiW B : Nat) : Int) ∧ IntKind.u64.wrap ((loW A : Int) + (loW B : Int)) = (((loW A + loW B) % 18446744073709551616 : Nat) : Int) ∧ hiW A + hiW B < 18446744073709551616 := by
  unfold hiW loW
  refine ⟨IntWalk.u64_in _ (by omega), ?_, by omega⟩
  simp only [IntKind.wrap, IntKind.bits, IntKind.signed]; simp
set_option maxRecDepth 100000 in
theorem specPlus (A B : Nat) (w : World) (h : A + B < 340282366920938463463374607431768211456) :
    Calls Try.prog 51 #[.agg #[.int .u64 (hiW A : Int), .int .u64 (loW A : Int)], .agg #[.int .u64 (hiW B : Int), .int .u64 (loW B : Int)]] w fun e w' => e = .returned (.agg #[.int .u64 (hiW (A + B) : Int), .int .u64 (loW (A + B) : Int)]) ∧ Below w.heap.size w w' := by
  obtain ⟨s1, s2, s3⟩ := wsum A B h
  have hlo : loW A < 18446744073709551616 ∧ loW B < 18446744073709551616 := by unfold loW; omega
  have hsum : (loW A + loW B) % 18446744073709551616 = loW (A + B) := by unfold loW; omega
  rw [hsum] at s2
  have hcase : (loW (A + B) < loW A ∧ hiW (A + B) = hiW A + hiW B + 1) ∨ (¬ loW (A + B) < loW A ∧ hiW (A + B) = hiW A + hiW B) := by unfold loW hiW; omega
  have hh2 : hiW (A + B) < 18446744073709551616 := by unfold hiW; omega
  obtain ⟨a, ha⟩ : ∃ x, hiW A = x := ⟨_, rfl⟩
  obtain ⟨a', ha'⟩ : ∃ x, loW A = x := ⟨_, rfl⟩
  obtain ⟨b, hb⟩ : ∃ x, hiW B = x := ⟨_, rfl⟩
  obtain ⟨b', hb'⟩ : ∃ x, loW B = x := ⟨_, rfl⟩
  obtain ⟨H, hH⟩ : ∃ x, hiW (A + B) = x := ⟨_, rfl⟩
  obtain ⟨L, hL⟩ : ∃ x, loW (A + B) = x := ⟨_, rfl⟩
  obtain ⟨S, hS⟩ : ∃ x, a + b = x := ⟨_, rfl⟩
  rw [ha, hb] at s1 s3
  rw [ha', hb', hL] at s2
  rw [ha, ha', hb, hH, hL] at hcase
  rw [hH] at hh2
  rw [ha, ha', hb, hb', hH, hL]
  rw [hS] at s1 s3 hcase
  have e1 : IntKind.u64.wrap ((S : Int) + 1) = ((S + 1 : Nat) : Int) ∨ S + 1 = 18446744073709551616 := by
    by_cases hS1 : S + 1 < 18446744073709551616
    · left; rw [IntWalk.u64_in _ (by omega)]; simp
    · right; omega
  have hR := At2.new (((w.alloc (.cells #[.int .u64 (a : Int), .int .u64 (a' : Int)] TWD)).alloc (.cells #[.int .u64 (b : Int), .int .u64 (b' : Int)] TWD))) (.int .u64 0) (.int .u64 0) TWD
  clear ha ha' hb hb' hH hL hS hsum hlo
  rcases hcase with ⟨c1, c2⟩ | ⟨c1, c2⟩
  · have hd : decide ((L : Int) < (a' : Int)) = true := by simp; omega
    have e2 : IntKind.u64.wrap ((S : Int) + 1) = (H : Int) := by rw [IntWalk.u64_in _ (by omega)]; omega
    clear c2 e1
    go_enter Try.func51, Try.ntmps51
    go_wp2
    refine bodyPost_ret (v := .agg #[.int .u64 (H : Int), .int .u64 (L : Int)]) (by simp [results, Try.results51, go_sem]) rfl ⟨rfl, ?_⟩
    (repeat' (first | exact Below.refl _ _ | (refine Below.setCell ?_ ?_ _) | (refine Below.alloc ?_ ?_ _))) <;> (first | (simp; done) | (simp; omega) | omega)
  · have hd : decide ((L : Int) < (a' : Int)) = false := by simp; omega
    subst c2
    clear e1
    go_enter Try.func51, Try.ntmps51
    go_wp2
    refine bodyPost_ret (v := .agg #[.int .u64 (H : Int), .int .u64 (L : Int)]) (by simp [results, Try.results51, go_sem]) rfl ⟨rfl, ?_⟩
    (repeat' (first | exact Below.refl _ _ | (refine Below.setCell ?_ ?_ _) | (refine Below.alloc ?_ ?_ _))) <;> (first | (simp; done) | (simp; omega) | omega)

theorem wdiff (A B : Nat) (h : B ≤ A) (hA : A < 340282366920938463463374607431768211456) : IntKind.u64.wrap ((hiW A : Int) - (hiW B : Int)) = ((hiW A - hiW B : Nat) : Int) ∧ IntKind.u64.wrap ((loW A : Int) - (loW B : Int)) = ((loW (A - B) : Nat) : Int) := by
  unfold hiW loW
  refine ⟨by rw [IntWalk.u64_in _ (by omega)]; omega, ?_⟩
  simp only [IntKind.wrap, IntKind.bits, IntKind.signed]; simp; omega
set_option maxRecDepth 100000 in
theorem specMinus (A B : Nat) (w : World) (h : B ≤ A) (hA : A < 340282366920938463463374607431768211456) :
    Calls Try.prog 53 #[.agg #[.int .u64 (hiW A : Int), .int .u64 (loW A : Int)], .agg #[.int .u64 (hiW B : Int), .int .u64 (loW B : Int)]] w fun e w' => e = .returned (.agg #[.int .u64 (hiW (A - B) : Int), .int .u64 (loW (A - B) : Int)]) ∧ Below w.heap.size w w' := by
  obtain ⟨s1, s2⟩ := wdiff A B h hA
  have hcase : (loW A < loW B ∧ hiW (A - B) + 1 = hiW A - hiW B) ∨ (¬ loW A < loW B ∧ hiW (A - B) = hiW A - hiW B) := by unfold loW hiW; omega
  have hSb : hiW A - hiW B < 18446744073709551616 := by unfold hiW; omega
  obtain ⟨a, ha⟩ : ∃ x, hiW A = x := ⟨_, rfl⟩
  obtain ⟨a', ha'⟩ : ∃ x, loW A = x := ⟨_, rfl⟩
  obtain ⟨b, hb⟩ : ∃ x, hiW B = x := ⟨_, rfl⟩
  obtain ⟨b', hb'⟩ : ∃ x, loW B = x := ⟨_, rfl⟩
  obtain ⟨H, hH⟩ : ∃ x, hiW (A - B) = x := ⟨_, rfl⟩
  obtain ⟨L, hL⟩ : ∃ x, loW (A - B) = x := ⟨_, rfl⟩
  obtain ⟨S, hS⟩ : ∃ x, a - b = x := ⟨_, rfl⟩
  rw [ha, hb, hS] at s1
  rw [ha', hb', hL] at s2
  rw [ha, ha', hb, hb', hH, hS] at hcase
  rw [ha, hb, hS] at hSb
  rw [ha, ha', hb, hb', hH, hL]
  clear ha ha' hb hb' hH hL hS
  rcases hcase with ⟨c1, c2⟩ | ⟨c1, c2⟩
  · have hd : decide ((a' : Int) < (b' : Int)) = true := by simp; omega
    have e2 : IntKind.u64.wrap ((S : Int) - 1) = (H : Int) := by rw [IntWalk.u64_in _ (by omega)]; omega
    clear c2
    go_enter Try.func53, Try.ntmps53
    go_wp2
    refine bodyPost_ret (v := .agg #[.int .u64 (H : Int), .int .u64 (L : Int)]) (by simp [results, Try.results53, go_sem]) rfl ⟨rfl, ?_⟩
    (repeat' (first | exact Below.refl _ _ | (refine Below.setCell ?_ ?_ _) | (refine Below.alloc ?_ ?_ _))) <;> (first | (simp; done) | (simp; omega) | omega)
  · have hd : decide ((a' : Int) < (b' : Int)) = false := by simp; omega
    subst c2
    go_enter Try.func53, Try.ntmps53
    go_wp2
    refine bodyPost_ret (v := .agg #[.int .u64 (H : Int), .int .u64 (L : Int)]) (by simp [results, Try.results53, go_sem]) rfl ⟨rfl, ?_⟩
    (repeat' (first | exact Below.refl _ _ | (refine Below.setCell ?_ ?_ _) | (refine Below.alloc ?_ ?_ _))) <;> (first | (simp; done) | (simp; omega) | omega)

set_option maxRecDepth 100000 in
theorem rem64_any (hi lo y : Nat) (w : World) (hy : 0 < y) (hy2 : y < 18446744073709551616) (hlo : lo < 18446744073709551616) :
    Calls Try.prog 59 #[.int .u64 hi, .int .u64 lo, .int .u64 y] w fun e w' => e = .returned (.int .u64 (((hi * 18446744073709551616 + lo) % y : Nat) : Int)) ∧ ∃ q, w' = w.drewN q := by
  obtain ⟨m, hm⟩ : ∃ m, hi % y = m := ⟨_, rfl⟩
  have hmy : m < y := by rw [← hm]; exact Nat.mod_lt _ hy
  have z1 : ((y : Int) == 0) = false := by simp; omega
  have z2 : ¬ (y : Int) = 0 := by omega
  have w1 : (hi : Int) % (y : Int) = (m : Int) := by rw [← Int.natCast_emod, hm]
  have w0 : IntKind.u64.wrap ((hi : Int).tmod (y : Int)) = (m : Int) := by rw [Int.tmod_eq_emod_of_nonneg (by omega), w1]; exact IntWalk.u64_in _ (by omega)
  have w2 : IntKind.u64.wrap (m : Int) = (m : Int) := IntWalk.u64_in _ (by omega)
  have hr : (hi * 18446744073709551616 + lo) % y = (m * 18446744073709551616 + lo) % y := by
    rw [← hm, Nat.add_mod, Nat.mul_mod, ← Nat.mod_mod hi y, ← Nat.mul_mod, ← Nat.add_mod, Nat.mod_mod]
  have HR := Lib.hid hr
  have HD := Lib.hid (fun w => div64_any m lo y w hmy hy2 hlo)
  clear hm hr
  go_enter Try.func59, Try.ntmps59
  go_wp2_with fail
  refine (HD.out _).mono ?_; rintro e w' ⟨rfl, q, rfl⟩
  go_wp2
  go_ret
  exact ⟨by rw [HR.out]; simp, _, rfl⟩
set_option maxRecDepth 100000 in
theorem rest_any (neg : Bool) (T d : Nat) (w : World) (hT : T < 340282366920938463463374607431768211456) (hd : 0 < d) (hd2 : d ≤ 1000000000000000000) :
    Calls Try.prog 38 #[.agg #[.bool neg, .int .u64 (hiW T : Int), .int .u64 (loW T : Int)], .int .i64 (d : Int)] w fun e w' => e = .returned (.int .i64 ((T % d : Nat) : Int)) ∧ Below w.heap.size w w' := by
  have hdw : IntKind.u64.wrap (d : Int) = (d : Int) := IntWalk.u64_in _ (by omega)
  have hrt := Nat.mod_lt T hd
  have e : hiW T * 18446744073709551616 + loW T = T := by unfold hiW loW; omega
  have HD := Lib.hid (fun w => rem64_any (hiW T) (loW T) d w hd (by omega) (by unfold loW; omega))
  rw [e] at HD
  obtain ⟨R, hR⟩ : ∃ R, T % d = R := ⟨_, rfl⟩
  rw [hR] at HD hrt ⊢
  have hw : IntKind.i64.wrap (R : Int) = (R : Int) := IntWalk.i64_in _ (by omega)
  clear e hR
  go_enter Try.func38, Try.ntmps38
  go_wp2_with fail
  refine (HD.out _).mono ?_; rintro e w' ⟨rfl, q, rfl⟩
  go_wp2
  go_ret
  exact ⟨rfl, by
    have hb := (Below.refl w.heap.size w).alloc (Nat.le_refl _) (.cells #[.bool neg, .int .u64 (hiW T : Int), .int .u64 (loW T : Int)] 56)
    exact ⟨hb.os, hb.tape, hb.output, hb.size, hb.block⟩⟩
end Go.Proofs.Ytomdoamfdidghaa
