/- The ticks in which a signal goes up: both sides of SampleUps, and the law's walk. -/
import Derived.Test.YtkipgeecibimoaaAccG
import Derived.Test.YtkipgeecibimoaaCmpSpec
import Derived.Test.YtkipgeecibimoaaBytes
import Derived.BigQuiet
import Derived.Deep.QuietTactic
namespace Go.Proofs.Ytkipgeecibimoaa
open Go.RowKit
set_option linter.unusedVariables false
set_option linter.unusedSimpArgs false

theorem below_drwS {B : Nat} {a w : World} (h : Below B a w) (n : Nat) : Below B a (w.drewN n) := ⟨h.os, h.tape, h.output, h.size, h.block⟩
def smallB (n d : Int) : Bool := fracB n d && decide ((0 ≤ n ∧ n ≤ 1000000) ∧ d ≤ 1000000)
theorem small_parts {n d : Int} (h : smallB n d = true) : ∃ N D : Nat, n = (N : Int) ∧ d = (D : Int) ∧ N ≤ 1000000 ∧ 1 ≤ D ∧ D ≤ 1000000 := by
  unfold smallB fracB at h
  simp only [Bool.and_eq_true, decide_eq_true_eq] at h
  obtain ⟨⟨f1, -⟩, ⟨g1, g2⟩, g3⟩ := h
  obtain ⟨N, rfl⟩ := Int.eq_ofNat_of_zero_le g1
  obtain ⟨D, rfl⟩ := Int.eq_ofNat_of_zero_le (show 0 ≤ d by omega)
  exact ⟨N, D, rfl, rfl, by omega, by omega, by omega⟩
theorem accT_hit (s m p t : Nat) (L R : List UInt8) (ht : 0 < t) (h : L ++ accL s m p t = R) (hm : m ≤ p + s) : (L ++ [49]) ++ accL s m (p + s - m) (t - 1) = R := by
  obtain ⟨u, rfl⟩ : ∃ u, t = u + 1 := ⟨t - 1, by omega⟩
  rw [← h, accL, if_pos hm]; simp
theorem accT_miss (s m p t : Nat) (L R : List UInt8) (ht : 0 < t) (h : L ++ accL s m p t = R) (hm : ¬ m ≤ p + s) : (L ++ [48]) ++ accL s m (p + s) (t - 1) = R := by
  obtain ⟨u, rfl⟩ : ∃ u, t = u + 1 := ⟨t - 1, by omega⟩
  rw [← h, accL, if_neg hm]; simp
theorem accT_over (s m p t : Nat) (L R : List UInt8) (ht : ¬ 0 < t) (h : L ++ accL s m p t = R) : L = R := by
  obtain rfl : t = 0 := by omega
  rw [← h, accL]; simp
theorem mul_wrap (a b : Nat) (ha : a ≤ 1000000) (hb : b ≤ 1000000) : IntKind.i64.wrap ((a : Int) * (b : Int)) = ((a * b : Nat) : Int) := by
  have h : a * b ≤ 1000000 * 1000000 := Nat.mul_le_mul ha hb
  rw [IntWalk.i64_in _ (by rw [← Int.natCast_mul]; omega)]
  exact (Int.natCast_mul a b).symm

theorem isSignalPart_any (n d : Int) (b : Bool) (w : World) (h : smallB n d = b) :
    Calls Try.prog 73 #[.agg #[.int .i64 n, .int .i64 d]] w fun e w' => e = .returned (.bool b) ∧ Below w.heap.size w w' := by
  cases hf : fracB n d with
  | false =>
    have hb : b = false := by rw [← h]; simp [smallB, hf]
    subst hb
    have HF := Lib.hid hf
    clear h hf
    go_enter Try.func73, Try.ntmps73
    go_wp2_with fail
    refine (implValid_bc n d false _ HF.out).mono ?_; rintro e w1 ⟨rfl, hb1⟩
    go_wp2
    go_ret
    exact ⟨rfl, ((Below.refl _ _).alloc (Nat.le_refl _) _).trans (hb1.mono (by simp))⟩
  | true =>
    have HF := Lib.hid hf
    by_cases k1 : 0 ≤ n ∧ n ≤ 1000000
    · have hb : b = decide (d ≤ 1000000) := by rw [← h]; simp [smallB, hf, k1]
      subst hb
      clear h hf
      go_enter Try.func73, Try.ntmps73
      go_wp2_with fail
      refine (implValid_bc n d true _ HF.out).mono ?_; rintro e w1 ⟨rfl, hb1⟩
      have j0 := cell_kept hb1 (a := ⟨w.heap.size, 0, none⟩) (v := .int .i64 n) (by simp [go_sem])
      have j1 := cell_kept hb1 (a := ⟨w.heap.size, 1, none⟩) (v := .int .i64 d) (by simp [go_sem])
      have HB1 := Lib.hid (((Below.refl w.heap.size w).alloc (Nat.le_refl _) _).trans (hb1.mono (by simp)))
      clear hb1
      go_wp2_with fail
      refine (within_i64_t _ _ _ _ k1.1 k1.2).mono ?_; rintro e w' ⟨rfl, rfl⟩
      go_wp2
      go_ret
      exact ⟨rfl, HB1.out⟩
    · have hb : b = false := by rw [← h]; simp only [smallB, hf, Bool.true_and]; exact decide_eq_false (fun x => k1 x.1)
      subst hb
      clear h hf
      go_enter Try.func73, Try.ntmps73
      go_wp2_with fail
      refine (implValid_bc n d true _ HF.out).mono ?_; rintro e w1 ⟨rfl, hb1⟩
      have j0 := cell_kept hb1 (a := ⟨w.heap.size, 0, none⟩) (v := .int .i64 n) (by simp [go_sem])
      have j1 := cell_kept hb1 (a := ⟨w.heap.size, 1, none⟩) (v := .int .i64 d) (by simp [go_sem])
      have HB1 := Lib.hid (((Below.refl w.heap.size w).alloc (Nat.le_refl _) _).trans (hb1.mono (by simp)))
      clear hb1
      go_wp2_with fail
      refine (within_i64_f _ _ _ _ (by omega)).mono ?_; rintro e w' ⟨rfl, rfl⟩
      go_wp2
      go_ret
      exact ⟨rfl, HB1.out⟩
theorem fcmp_st (N D P Q F S : Nat) (w : World) (n1 : N ≤ 1000000) (d0 : 1 ≤ D) (d1 : D ≤ 1000000) (p1 : P ≤ 1000000) (q0 : 1 ≤ Q) (q1 : Q ≤ 1000000) (eS : N * Q = S) (eF : P * D = F) (h4 : F < S) :
    Calls Try.prog 135 #[.agg #[.int .i64 (P : Int), .int .i64 (Q : Int)], .agg #[.int .i64 (N : Int), .int .i64 (D : Int)]] w fun e w' => e = .returned (.int .i64 (-1)) ∧ Below w.heap.size w w' := by
  refine (fcmp_pos (P : Int) (N : Int) Q D w (by omega) (by omega) (by omega) (by omega) (by omega) (by omega) (by omega) (by omega) true false (by simp [eF, eS, h4]) (by simp [eF, eS]; omega)).mono ?_
  rintro e w' ⟨rfl, hb⟩
  exact ⟨rfl, hb⟩
theorem fcmp_sf (N D P Q F S : Nat) (w : World) (n1 : N ≤ 1000000) (d0 : 1 ≤ D) (d1 : D ≤ 1000000) (p1 : P ≤ 1000000) (q0 : 1 ≤ Q) (q1 : Q ≤ 1000000) (eS : N * Q = S) (eF : P * D = F) (h4 : ¬ F < S) :
    Calls Try.prog 135 #[.agg #[.int .i64 (P : Int), .int .i64 (Q : Int)], .agg #[.int .i64 (N : Int), .int .i64 (D : Int)]] w fun e w' => (∃ v : Int, e = .returned (.int .i64 v) ∧ decide (0 ≤ v) = true ∧ ¬ v < 0) ∧ Below w.heap.size w w' := by
  refine (fcmp_pos (P : Int) (N : Int) Q D w (by omega) (by omega) (by omega) (by omega) (by omega) (by omega) (by omega) (by omega) false (decide (S < F)) (by simp [eF, eS]; omega) (by simp [eF, eS])).mono ?_
  rintro e w' ⟨rfl, hb⟩
  refine ⟨⟨_, rfl, ?_, ?_⟩, hb⟩
  · by_cases k : S < F <;> simp [k]
  · by_cases k : S < F <;> simp [k]

set_option maxHeartbeats 2000000 in
set_option maxRecDepth 100000 in
theorem implSmp_f1 (n d p q T : Int) (w : World) (h1 : smallB n d = false) :
    Calls Try.prog 23 #[.agg #[.int .i64 n, .int .i64 d], .agg #[.int .i64 p, .int .i64 q], .int .i64 T] w fun e w' => e = .returned (.tuple #[.string ⟨#[]⟩, .bool false]) ∧ Below w.heap.size w w' := by
  have HA := Lib.hid h1
  clear h1
  go_enter Try.func23, Try.ntmps23
  go_wp2_with fail
  refine (isSignalPart_any n d false _ HA.out).mono ?_; rintro e w1 ⟨rfl, b1⟩
  have j0 := cell_kept b1 (a := ⟨w.heap.size, 0, none⟩) (v := .int .i64 n) (by simp [go_sem])
  have j1 := cell_kept b1 (a := ⟨w.heap.size, 1, none⟩) (v := .int .i64 d) (by simp [go_sem])
  have j2 := cell_kept b1 (a := ⟨w.heap.size + 1, 0, none⟩) (v := .int .i64 p) (by simp [go_sem])
  have j3 := cell_kept b1 (a := ⟨w.heap.size + 1, 1, none⟩) (v := .int .i64 q) (by simp [go_sem])
  have HB1 := Lib.hid ((((Below.refl w.heap.size w).alloc (Nat.le_refl _) _).alloc (by simp) _).trans (b1.mono (by first | (simp; done) | (simp; omega))))
  clear b1
  go_wp2
  go_ret2
  exact ⟨rfl, HB1.out⟩
set_option maxHeartbeats 2000000 in
set_option maxRecDepth 100000 in
theorem implSmp_f2 (n d p q T : Int) (w : World) (h1 : smallB n d = true) (h2 : smallB p q = false) :
    Calls Try.prog 23 #[.agg #[.int .i64 n, .int .i64 d], .agg #[.int .i64 p, .int .i64 q], .int .i64 T] w fun e w' => e = .returned (.tuple #[.string ⟨#[]⟩, .bool false]) ∧ Below w.heap.size w w' := by
  have HA := Lib.hid h1
  have HC := Lib.hid h2
  clear h1 h2
  go_enter Try.func23, Try.ntmps23
  go_wp2_with fail
  refine (isSignalPart_any n d true _ HA.out).mono ?_; rintro e w1 ⟨rfl, b1⟩
  have j0 := cell_kept b1 (a := ⟨w.heap.size, 0, none⟩) (v := .int .i64 n) (by simp [go_sem])
  have j1 := cell_kept b1 (a := ⟨w.heap.size, 1, none⟩) (v := .int .i64 d) (by simp [go_sem])
  have j2 := cell_kept b1 (a := ⟨w.heap.size + 1, 0, none⟩) (v := .int .i64 p) (by simp [go_sem])
  have j3 := cell_kept b1 (a := ⟨w.heap.size + 1, 1, none⟩) (v := .int .i64 q) (by simp [go_sem])
  have HB1 := Lib.hid ((((Below.refl w.heap.size w).alloc (Nat.le_refl _) _).alloc (by simp) _).trans (b1.mono (by first | (simp; done) | (simp; omega))))
  clear b1
  go_wp2_with fail
  refine (isSignalPart_any p q false _ HC.out).mono ?_; rintro e w2 ⟨rfl, b2⟩
  have k0 := cell_kept b2 j0
  have k1 := cell_kept b2 j1
  have k2 := cell_kept b2 j2
  have k3 := cell_kept b2 j3
  have HB2 := Lib.hid (HB1.out.trans (b2.mono HB1.out.size))
  clear b2 j0 j1 j2 j3
  go_wp2
  go_ret2
  exact ⟨rfl, HB2.out⟩
set_option maxHeartbeats 2000000 in
set_option maxRecDepth 100000 in
theorem implSmp_f5 (N D P Q : Nat) (T : Int) (F S O : Nat) (w : World) (h1 : smallB (N : Int) (D : Int) = true) (h2 : smallB (P : Int) (Q : Int) = true) (n1 : N ≤ 1000000) (d0 : 1 ≤ D) (d1 : D ≤ 1000000) (p1 : P ≤ 1000000) (q0 : 1 ≤ Q) (q1 : Q ≤ 1000000) (eS : N * Q = S) (eF : P * D = F) (eO : D * Q = O) (h5 : T < 0 ∨ 400 < T) :
    Calls Try.prog 23 #[.agg #[.int .i64 (N : Int), .int .i64 (D : Int)], .agg #[.int .i64 (P : Int), .int .i64 (Q : Int)], .int .i64 T] w fun e w' => e = .returned (.tuple #[.string ⟨#[]⟩, .bool false]) ∧ Below w.heap.size w w' := by
  have HA := Lib.hid h1
  have HC := Lib.hid h2
  clear h1 h2
  go_enter Try.func23, Try.ntmps23
  go_wp2_with fail
  refine (isSignalPart_any (N : Int) (D : Int) true _ HA.out).mono ?_; rintro e w1 ⟨rfl, b1⟩
  have j0 := cell_kept b1 (a := ⟨w.heap.size, 0, none⟩) (v := .int .i64 (N : Int)) (by simp [go_sem])
  have j1 := cell_kept b1 (a := ⟨w.heap.size, 1, none⟩) (v := .int .i64 (D : Int)) (by simp [go_sem])
  have j2 := cell_kept b1 (a := ⟨w.heap.size + 1, 0, none⟩) (v := .int .i64 (P : Int)) (by simp [go_sem])
  have j3 := cell_kept b1 (a := ⟨w.heap.size + 1, 1, none⟩) (v := .int .i64 (Q : Int)) (by simp [go_sem])
  have HB1 := Lib.hid ((((Below.refl w.heap.size w).alloc (Nat.le_refl _) _).alloc (by simp) _).trans (b1.mono (by first | (simp; done) | (simp; omega))))
  clear b1
  go_wp2_with fail
  refine (isSignalPart_any (P : Int) (Q : Int) true _ HC.out).mono ?_; rintro e w2 ⟨rfl, b2⟩
  have k0 := cell_kept b2 j0
  have k1 := cell_kept b2 j1
  have k2 := cell_kept b2 j2
  have k3 := cell_kept b2 j3
  have HB2 := Lib.hid (HB1.out.trans (b2.mono HB1.out.size))
  clear b2 j0 j1 j2 j3
  go_wp2_with fail
  refine (within_i64_f _ _ _ _ (by omega)).mono ?_; rintro e w' ⟨rfl, rfl⟩
  go_wp2
  go_ret2
  exact ⟨rfl, HB2.out⟩
set_option maxHeartbeats 2000000 in
set_option maxRecDepth 100000 in
theorem implSmp_f3 (N D P Q : Nat) (T : Int) (F S O : Nat) (w : World) (h1 : smallB (N : Int) (D : Int) = true) (h2 : smallB (P : Int) (Q : Int) = true) (n1 : N ≤ 1000000) (d0 : 1 ≤ D) (d1 : D ≤ 1000000) (p1 : P ≤ 1000000) (q0 : 1 ≤ Q) (q1 : Q ≤ 1000000) (eS : N * Q = S) (eF : P * D = F) (eO : D * Q = O) (h3 : S < O) (h5 : 0 ≤ T ∧ T ≤ 400) :
    Calls Try.prog 23 #[.agg #[.int .i64 (N : Int), .int .i64 (D : Int)], .agg #[.int .i64 (P : Int), .int .i64 (Q : Int)], .int .i64 T] w fun e w' => e = .returned (.tuple #[.string ⟨#[]⟩, .bool false]) ∧ Below w.heap.size w w' := by
  have wS := mul_wrap N Q n1 q1
  have wO := mul_wrap D Q d1 q1
  have wF := mul_wrap P D p1 d1
  rw [eS] at wS
  rw [eO] at wO
  rw [eF] at wF
  have kd : decide ((S : Int) < (O : Int)) = true := by simp; omega
  have kd2 : (S : Int) < (O : Int) := by omega
  have HA := Lib.hid h1
  have HC := Lib.hid h2
  clear h1 h2
  go_enter Try.func23, Try.ntmps23
  go_wp2_with fail
  refine (isSignalPart_any (N : Int) (D : Int) true _ HA.out).mono ?_; rintro e w1 ⟨rfl, b1⟩
  have j0 := cell_kept b1 (a := ⟨w.heap.size, 0, none⟩) (v := .int .i64 (N : Int)) (by simp [go_sem])
  have j1 := cell_kept b1 (a := ⟨w.heap.size, 1, none⟩) (v := .int .i64 (D : Int)) (by simp [go_sem])
  have j2 := cell_kept b1 (a := ⟨w.heap.size + 1, 0, none⟩) (v := .int .i64 (P : Int)) (by simp [go_sem])
  have j3 := cell_kept b1 (a := ⟨w.heap.size + 1, 1, none⟩) (v := .int .i64 (Q : Int)) (by simp [go_sem])
  have HB1 := Lib.hid ((((Below.refl w.heap.size w).alloc (Nat.le_refl _) _).alloc (by simp) _).trans (b1.mono (by first | (simp; done) | (simp; omega))))
  clear b1
  go_wp2_with fail
  refine (isSignalPart_any (P : Int) (Q : Int) true _ HC.out).mono ?_; rintro e w2 ⟨rfl, b2⟩
  have k0 := cell_kept b2 j0
  have k1 := cell_kept b2 j1
  have k2 := cell_kept b2 j2
  have k3 := cell_kept b2 j3
  have HB2 := Lib.hid (HB1.out.trans (b2.mono HB1.out.size))
  clear b2 j0 j1 j2 j3
  go_wp2_with fail
  refine (within_i64_t _ _ _ _ (by omega) (by omega)).mono ?_; rintro e w' ⟨rfl, rfl⟩
  go_wp2
  go_region
  all_goals
    go_wp2
    go_ret2
    exact ⟨rfl, below_drwS HB2.out _⟩
set_option maxHeartbeats 2000000 in
set_option maxRecDepth 100000 in
theorem implSmp_f4 (N D P Q : Nat) (T : Int) (F S O : Nat) (w : World) (h1 : smallB (N : Int) (D : Int) = true) (h2 : smallB (P : Int) (Q : Int) = true) (n1 : N ≤ 1000000) (d0 : 1 ≤ D) (d1 : D ≤ 1000000) (p1 : P ≤ 1000000) (q0 : 1 ≤ Q) (q1 : Q ≤ 1000000) (eS : N * Q = S) (eF : P * D = F) (eO : D * Q = O) (h3 : ¬ S < O) (h4 : ¬ F < S) (h5 : 0 ≤ T ∧ T ≤ 400) :
    Calls Try.prog 23 #[.agg #[.int .i64 (N : Int), .int .i64 (D : Int)], .agg #[.int .i64 (P : Int), .int .i64 (Q : Int)], .int .i64 T] w fun e w' => e = .returned (.tuple #[.string ⟨#[]⟩, .bool false]) ∧ Below w.heap.size w w' := by
  have wS := mul_wrap N Q n1 q1
  have wO := mul_wrap D Q d1 q1
  have wF := mul_wrap P D p1 d1
  rw [eS] at wS
  rw [eO] at wO
  rw [eF] at wF
  have kd : decide ((S : Int) < (O : Int)) = false := by simp; omega
  have kd2 : ¬ (S : Int) < (O : Int) := by omega
  have ke : decide ((S : Int) ≤ (F : Int)) = true := by simp; omega
  have ke2 : (S : Int) ≤ (F : Int) := by omega
  have HA := Lib.hid h1
  have HC := Lib.hid h2
  clear h1 h2
  go_enter Try.func23, Try.ntmps23
  go_wp2_with fail
  refine (isSignalPart_any (N : Int) (D : Int) true _ HA.out).mono ?_; rintro e w1 ⟨rfl, b1⟩
  have j0 := cell_kept b1 (a := ⟨w.heap.size, 0, none⟩) (v := .int .i64 (N : Int)) (by simp [go_sem])
  have j1 := cell_kept b1 (a := ⟨w.heap.size, 1, none⟩) (v := .int .i64 (D : Int)) (by simp [go_sem])
  have j2 := cell_kept b1 (a := ⟨w.heap.size + 1, 0, none⟩) (v := .int .i64 (P : Int)) (by simp [go_sem])
  have j3 := cell_kept b1 (a := ⟨w.heap.size + 1, 1, none⟩) (v := .int .i64 (Q : Int)) (by simp [go_sem])
  have HB1 := Lib.hid ((((Below.refl w.heap.size w).alloc (Nat.le_refl _) _).alloc (by simp) _).trans (b1.mono (by first | (simp; done) | (simp; omega))))
  clear b1
  go_wp2_with fail
  refine (isSignalPart_any (P : Int) (Q : Int) true _ HC.out).mono ?_; rintro e w2 ⟨rfl, b2⟩
  have k0 := cell_kept b2 j0
  have k1 := cell_kept b2 j1
  have k2 := cell_kept b2 j2
  have k3 := cell_kept b2 j3
  have HB2 := Lib.hid (HB1.out.trans (b2.mono HB1.out.size))
  clear b2 j0 j1 j2 j3
  go_wp2_with fail
  refine (within_i64_t _ _ _ _ (by omega) (by omega)).mono ?_; rintro e w' ⟨rfl, rfl⟩
  go_wp2
  go_region
  all_goals
    go_wp2
    go_ret2
    exact ⟨rfl, below_drwS HB2.out _⟩
set_option maxHeartbeats 2000000 in
set_option maxRecDepth 100000 in
theorem implSmp_t (N D P Q T : Nat) (F S O : Nat) (w : World) (h1 : smallB (N : Int) (D : Int) = true) (h2 : smallB (P : Int) (Q : Int) = true) (n1 : N ≤ 1000000) (d0 : 1 ≤ D) (d1 : D ≤ 1000000) (p1 : P ≤ 1000000) (q0 : 1 ≤ Q) (q1 : Q ≤ 1000000) (eS : N * Q = S) (eF : P * D = F) (eO : D * Q = O) (h3 : ¬ N < D) (h4 : F < S) (hOS : O ≤ S) (hO : 1 ≤ O) (hS : S ≤ 1000000000000) (h5 : T ≤ 400) :
    Calls Try.prog 23 #[.agg #[.int .i64 (N : Int), .int .i64 (D : Int)], .agg #[.int .i64 (P : Int), .int .i64 (Q : Int)], .int .i64 (T : Int)] w fun e w' => e = .returned (.tuple #[.string ⟨(accL O S (S - 1 - F) T).toArray⟩, .bool true]) ∧ Below w.heap.size w w' := by
  have wS := mul_wrap N Q n1 q1
  have wO := mul_wrap D Q d1 q1
  have wF := mul_wrap P D p1 d1
  rw [eS] at wS
  rw [eO] at wO
  rw [eF] at wF
  have kd : decide ((S : Int) < (O : Int)) = false := by simp; omega
  have kd2 : ¬ (S : Int) < (O : Int) := by omega
  have ke : decide ((S : Int) ≤ (F : Int)) = false := by simp; omega
  have ke2 : ¬ (S : Int) ≤ (F : Int) := by omega
  have wa : IntKind.i64.wrap ((S : Int) - 1) = ((S - 1 : Nat) : Int) := by rw [IntWalk.i64_in _ (by omega)]; omega
  have wb : IntKind.i64.wrap (((S - 1 : Nat) : Int) - (F : Int)) = ((S - 1 - F : Nat) : Int) := by rw [IntWalk.i64_in _ (by omega)]; omega
  have HA := Lib.hid h1
  have HC := Lib.hid h2
  clear h1 h2
  go_enter Try.func23, Try.ntmps23
  go_wp2_with fail
  refine (isSignalPart_any (N : Int) (D : Int) true _ HA.out).mono ?_; rintro e w1 ⟨rfl, b1⟩
  have j0 := cell_kept b1 (a := ⟨w.heap.size, 0, none⟩) (v := .int .i64 (N : Int)) (by simp [go_sem])
  have j1 := cell_kept b1 (a := ⟨w.heap.size, 1, none⟩) (v := .int .i64 (D : Int)) (by simp [go_sem])
  have j2 := cell_kept b1 (a := ⟨w.heap.size + 1, 0, none⟩) (v := .int .i64 (P : Int)) (by simp [go_sem])
  have j3 := cell_kept b1 (a := ⟨w.heap.size + 1, 1, none⟩) (v := .int .i64 (Q : Int)) (by simp [go_sem])
  have HB1 := Lib.hid ((((Below.refl w.heap.size w).alloc (Nat.le_refl _) _).alloc (by simp) _).trans (b1.mono (by first | (simp; done) | (simp; omega))))
  clear b1
  go_wp2_with fail
  refine (isSignalPart_any (P : Int) (Q : Int) true _ HC.out).mono ?_; rintro e w2 ⟨rfl, b2⟩
  have k0 := cell_kept b2 j0
  have k1 := cell_kept b2 j1
  have k2 := cell_kept b2 j2
  have k3 := cell_kept b2 j3
  have HB2 := Lib.hid (HB1.out.trans (b2.mono HB1.out.size))
  clear b2 j0 j1 j2 j3
  go_wp2_with fail
  refine (within_i64_t _ _ _ _ (by omega) (by omega)).mono ?_; rintro e w' ⟨rfl, rfl⟩
  go_wp2
  go_region
  all_goals
    go_wp2_with fail
    refine (accWave O S (S - 1 - F) T _ hOS hS (by omega) h5).mono ?_; rintro e w4 ⟨rfl, b4⟩
    go_wp2
    go_ret2
    exact ⟨rfl, HB2.out.trans ((show Below w2.heap.size w2 w4 from ⟨b4.os, b4.tape, b4.output, b4.size, b4.block⟩).mono HB2.out.size)⟩
end Go.Proofs.Ytkipgeecibimoaa
