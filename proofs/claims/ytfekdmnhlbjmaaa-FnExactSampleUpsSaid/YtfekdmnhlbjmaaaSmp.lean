/- The ticks in which a signal goes up: both sides of SampleUps, and the law's walk. -/
import Derived.Test.YtfekdmnhlbjmaaaAccG
import Derived.Test.YtfekdmnhlbjmaaaCmpSpec
import Derived.Test.YtfekdmnhlbjmaaaBytes
import Derived.BigQuiet
import Derived.Deep.QuietTactic
namespace Go.Proofs.Ytfekdmnhlbjmaaa
open Go.RowKit
set_option linter.unusedVariables false
set_option linter.unusedSimpArgs false

theorem below_drwS {B : Nat} {a w : World} (h : Below B a w) (n : Nat) : Below B a (w.drewN n) := ⟨h.os, h.tape, h.output, h.size, h.block⟩
def smallB (n d : Int) : Bool := fracB n d && decide ((0 ≤ n ∧ n ≤ 1000000) ∧ d ≤ 1000000)
theorem small_parts {n d : Int} (h : smallB n d = true) : ∃ N D : Nat, n = (N : Int) ∧ d = (D : Int) ∧ N ≤ 1000000 ∧ 1 ≤ D ∧ D ≤ 1000000 := by
  unfold smallB fracB at h
  simp only [Bool.and_eq_true, decide_eq_true_eq] at h
  obtain ⟨⟨f1, -⟩, ⟨g1, g2⟩, g3⟩ := h
  obtain ⟨N, rfl⟩ := Int.eq_ofNat_of_zero_le g1
  obtain ⟨D, rfl⟩ := Int.eq_ofNat_of_zero_le (show 0 ≤ d by omega)
  exact ⟨N, D, rfl, rfl, by omega, by omega, by omega⟩
theorem accT_hit (s m p t : Nat) (L R : List UInt8) (ht : 0 < t) (h : L ++ accL s m p t = R) (hm : m ≤ p + s) : (L ++ [49]) ++ accL s m (p + s - m) (t - 1) = R := by
  obtain ⟨u, rfl⟩ : ∃ u, t = u + 1 := ⟨t - 1, by omega⟩
  rw [← h, accL, if_pos hm]; simp
theorem accT_miss (s m p t : Nat) (L R : List UInt8) (ht : 0 < t) (h : L ++ accL s m p t = R) (hm : ¬ m ≤ p + s) : (L ++ [48]) ++ accL s m (p + s) (t - 1) = R := by
  obtain ⟨u, rfl⟩ : ∃ u, t = u + 1 := ⟨t - 1, by omega⟩
  rw [← h, accL, if_neg hm]; simp
theorem accT_over (s m p t : Nat) (L R : List UInt8) (ht : ¬ 0 < t) (h : L ++ accL s m p t = R) : L = R := by
  obtain rfl : t = 0 := by omega
  rw [← h, accL]; simp
theorem mul_wrap (a b : Nat) (ha : a ≤ 1000000) (hb : b ≤ 1000000) : IntKind.i64.wrap ((a : Int) * (b : Int)) = ((a * b : Nat) : Int) := by
  have h : a * b ≤ 1000000 * 1000000 := Nat.mul_le_mul ha hb
  rw [IntWalk.i64_in _ (by rw [← Int.natCast_mul]; omega)]
  exact (Int.natCast_mul a b).symm

theorem l09Small_any (n d : Int) (b : Bool) (w : World) (h : smallB n d = b) :
    Calls Try.prog 42 #[.agg #[.int .i64 n, .int .i64 d]] w fun e w' => e = .returned (.bool b) ∧ Below w.heap.size w w' := by
  cases hf : fracB n d with
  | false =>
    have hb : b = false := by rw [← h]; simp [smallB, hf]
    subst hb
    have HF := Lib.hid hf
    clear h hf
    go_enter Try.func42, Try.ntmps42
    go_wp2_with fail
    refine (l01FIs_bc n d false _ HF.out).mono ?_; rintro e w1 ⟨rfl, hb1⟩
    go_wp2
    go_ret
    exact ⟨rfl, ((Below.refl _ _).alloc (Nat.le_refl _) _).trans (hb1.mono (by simp))⟩
  | true =>
    have HF := Lib.hid hf
    by_cases k1 : 0 ≤ n ∧ n ≤ 1000000
    · have hb : b = decide (d ≤ 1000000) := by rw [← h]; simp [smallB, hf, k1]
      subst hb
      clear h hf
      go_enter Try.func42, Try.ntmps42
      go_wp2_with fail
      refine (l01FIs_bc n d true _ HF.out).mono ?_; rintro e w1 ⟨rfl, hb1⟩
      have j0 := cell_kept hb1 (a := ⟨w.heap.size, 0, none⟩) (v := .int .i64 n) (by simp [go_sem])
      have j1 := cell_kept hb1 (a := ⟨w.heap.size, 1, none⟩) (v := .int .i64 d) (by simp [go_sem])
      have HB1 := Lib.hid (((Below.refl w.heap.size w).alloc (Nat.le_refl _) _).trans (hb1.mono (by simp)))
      clear hb1
      go_wp2_with fail
      refine (l00In_t _ _ _ _ k1.1 k1.2).mono ?_; rintro e w' ⟨rfl, rfl⟩
      go_wp2
      go_ret
      exact ⟨rfl, HB1.out⟩
    · have hb : b = false := by rw [← h]; simp only [smallB, hf, Bool.true_and]; exact decide_eq_false (fun x => k1 x.1)
      subst hb
      clear h hf
      go_enter Try.func42, Try.ntmps42
      go_wp2_with fail
      refine (l01FIs_bc n d true _ HF.out).mono ?_; rintro e w1 ⟨rfl, hb1⟩
      have j0 := cell_kept hb1 (a := ⟨w.heap.size, 0, none⟩) (v := .int .i64 n) (by simp [go_sem])
      have j1 := cell_kept hb1 (a := ⟨w.heap.size, 1, none⟩) (v := .int .i64 d) (by simp [go_sem])
      have HB1 := Lib.hid (((Below.refl w.heap.size w).alloc (Nat.le_refl _) _).trans (hb1.mono (by simp)))
      clear hb1
      go_wp2_with fail
      refine (l00In_f _ _ _ _ (by omega)).mono ?_; rintro e w' ⟨rfl, rfl⟩
      go_wp2
      go_ret
      exact ⟨rfl, HB1.out⟩
theorem isSignalPart_any (n d : Int) (b : Bool) (w : World) (h : smallB n d = b) :
    Calls Try.prog 44 #[.agg #[.int .i64 n, .int .i64 d]] w fun e w' => e = .returned (.bool b) ∧ Below w.heap.size w w' := by
  cases hf : fracB n d with
  | false =>
    have hb : b = false := by rw [← h]; simp [smallB, hf]
    subst hb
    have HF := Lib.hid hf
    clear h hf
    go_enter Try.func44, Try.ntmps44
    go_wp2_with fail
    refine (implValid_bc n d false _ HF.out).mono ?_; rintro e w1 ⟨rfl, hb1⟩
    go_wp2
    go_ret
    exact ⟨rfl, ((Below.refl _ _).alloc (Nat.le_refl _) _).trans (hb1.mono (by simp))⟩
  | true =>
    have HF := Lib.hid hf
    by_cases k1 : 0 ≤ n ∧ n ≤ 1000000
    · have hb : b = decide (d ≤ 1000000) := by rw [← h]; simp [smallB, hf, k1]
      subst hb
      clear h hf
      go_enter Try.func44, Try.ntmps44
      go_wp2_with fail
      refine (implValid_bc n d true _ HF.out).mono ?_; rintro e w1 ⟨rfl, hb1⟩
      have j0 := cell_kept hb1 (a := ⟨w.heap.size, 0, none⟩) (v := .int .i64 n) (by simp [go_sem])
      have j1 := cell_kept hb1 (a := ⟨w.heap.size, 1, none⟩) (v := .int .i64 d) (by simp [go_sem])
      have HB1 := Lib.hid (((Below.refl w.heap.size w).alloc (Nat.le_refl _) _).trans (hb1.mono (by simp)))
      clear hb1
      go_wp2_with fail
      refine (within_i64_t _ _ _ _ k1.1 k1.2).mono ?_; rintro e w' ⟨rfl, rfl⟩
      go_wp2
      go_ret
      exact ⟨rfl, HB1.out⟩
    · have hb : b = false := by rw [← h]; simp only [smallB, hf, Bool.true_and]; exact decide_eq_false (fun x => k1 x.1)
      subst hb
      clear h hf
      go_enter Try.func44, Try.ntmps44
      go_wp2_with fail
      refine (implValid_bc n d true _ HF.out).mono ?_; rintro e w1 ⟨rfl, hb1⟩
      have j0 := cell_kept hb1 (a := ⟨w.heap.size, 0, none⟩) (v := .int .i64 n) (by simp [go_sem])
      have j1 := cell_kept hb1 (a := ⟨w.heap.size, 1, none⟩) (v := .int .i64 d) (by simp [go_sem])
      have HB1 := Lib.hid (((Below.refl w.heap.size w).alloc (Nat.le_refl _) _).trans (hb1.mono (by simp)))
      clear hb1
      go_wp2_with fail
      refine (within_i64_f _ _ _ _ (by omega)).mono ?_; rintro e w' ⟨rfl, rfl⟩
      go_wp2
      go_ret
      exact ⟨rfl, HB1.out⟩
theorem fcmp_st (N D P Q F S : Nat) (w : World) (n1 : N ≤ 1000000) (d0 : 1 ≤ D) (d1 : D ≤ 1000000) (p1 : P ≤ 1000000) (q0 : 1 ≤ Q) (q1 : Q ≤ 1000000) (eS : N * Q = S) (eF : P * D = F) (h4 : F < S) :
    Calls Try.prog 43 #[.agg #[.int .i64 (P : Int), .int .i64 (Q : Int)], .agg #[.int .i64 (N : Int), .int .i64 (D : Int)]] w fun e w' => e = .returned (.int .i64 (-1)) ∧ Below w.heap.size w w' := by
  refine (fcmp_pos (P : Int) (N : Int) Q D w (by omega) (by omega) (by omega) (by omega) (by omega) (by omega) (by omega) (by omega) true false (by simp [eF, eS, h4]) (by simp [eF, eS]; omega)).mono ?_
  rintro e w' ⟨rfl, hb⟩
  exact ⟨rfl, hb⟩
theorem fcmp_sf (N D P Q F S : Nat) (w : World) (n1 : N ≤ 1000000) (d0 : 1 ≤ D) (d1 : D ≤ 1000000) (p1 : P ≤ 1000000) (q0 : 1 ≤ Q) (q1 : Q ≤ 1000000) (eS : N * Q = S) (eF : P * D = F) (h4 : ¬ F < S) :
    Calls Try.prog 43 #[.agg #[.int .i64 (P : Int), .int .i64 (Q : Int)], .agg #[.int .i64 (N : Int), .int .i64 (D : Int)]] w fun e w' => (∃ v : Int, e = .returned (.int .i64 v) ∧ decide (0 ≤ v) = true ∧ ¬ v < 0) ∧ Below w.heap.size w w' := by
  refine (fcmp_pos (P : Int) (N : Int) Q D w (by omega) (by omega) (by omega) (by omega) (by omega) (by omega) (by omega) (by omega) false (decide (S < F)) (by simp [eF, eS]; omega) (by simp [eF, eS])).mono ?_
  rintro e w' ⟨rfl, hb⟩
  refine ⟨⟨_, rfl, ?_, ?_⟩, hb⟩
  · by_cases k : S < F <;> simp [k]
  · by_cases k : S < F <;> simp [k]

set_option maxHeartbeats 2000000 in
set_option maxRecDepth 100000 in
theorem specSmp_f1 (n d p q T : Int) (w : World) (h1 : smallB n d = false) :
    Calls Try.prog 18 #[.agg #[.int .i64 n, .int .i64 d], .agg #[.int .i64 p, .int .i64 q], .int .i64 T] w fun e w' => e = .returned (.tuple #[.string ⟨#[]⟩, .bool false]) ∧ Below w.heap.size w w' := by
  have HA := Lib.hid h1
  clear h1
  go_enter Try.func18, Try.ntmps18
  go_wp2_with fail
  refine (l09Small_any n d false _ HA.out).mono ?_; rintro e w1 ⟨rfl, b1⟩
  have j0 := cell_kept b1 (a := ⟨w.heap.size, 0, none⟩) (v := .int .i64 n) (by simp [go_sem])
  have j1 := cell_kept b1 (a := ⟨w.heap.size, 1, none⟩) (v := .int .i64 d) (by simp [go_sem])
  have j2 := cell_kept b1 (a := ⟨w.heap.size + 1, 0, none⟩) (v := .int .i64 p) (by simp [go_sem])
  have j3 := cell_kept b1 (a := ⟨w.heap.size + 1, 1, none⟩) (v := .int .i64 q) (by simp [go_sem])
  have HB1 := Lib.hid ((((Below.refl w.heap.size w).alloc (Nat.le_refl _) _).alloc (by simp) _).trans (b1.mono (by first | (simp; done) | (simp; omega))))
  clear b1
  go_wp2
  go_ret2
  exact ⟨rfl, HB1.out⟩
set_option maxHeartbeats 2000000 in
set_option maxRecDepth 100000 in
theorem specSmp_f2 (n d p q T : Int) (w : World) (h1 : smallB n d = true) (h2 : smallB p q = false) :
    Calls Try.prog 18 #[.agg #[.int .i64 n, .int .i64 d], .agg #[.int .i64 p, .int .i64 q], .int .i64 T] w fun e w' => e = .returned (.tuple #[.string ⟨#[]⟩, .bool false]) ∧ Below w.heap.size w w' := by
  have HA := Lib.hid h1
  have HC := Lib.hid h2
  clear h1 h2
  go_enter Try.func18, Try.ntmps18
  go_wp2_with fail
  refine (l09Small_any n d true _ HA.out).mono ?_; rintro e w1 ⟨rfl, b1⟩
  have j0 := cell_kept b1 (a := ⟨w.heap.size, 0, none⟩) (v := .int .i64 n) (by simp [go_sem])
  have j1 := cell_kept b1 (a := ⟨w.heap.size, 1, none⟩) (v := .int .i64 d) (by simp [go_sem])
  have j2 := cell_kept b1 (a := ⟨w.heap.size + 1, 0, none⟩) (v := .int .i64 p) (by simp [go_sem])
  have j3 := cell_kept b1 (a := ⟨w.heap.size + 1, 1, none⟩) (v := .int .i64 q) (by simp [go_sem])
  have HB1 := Lib.hid ((((Below.refl w.heap.size w).alloc (Nat.le_refl _) _).alloc (by simp) _).trans (b1.mono (by first | (simp; done) | (simp; omega))))
  clear b1
  go_wp2_with fail
  refine (l09Small_any p q false _ HC.out).mono ?_; rintro e w2 ⟨rfl, b2⟩
  have k0 := cell_kept b2 j0
  have k1 := cell_kept b2 j1
  have k2 := cell_kept b2 j2
  have k3 := cell_kept b2 j3
  have HB2 := Lib.hid (HB1.out.trans (b2.mono HB1.out.size))
  clear b2 j0 j1 j2 j3
  go_wp2
  go_ret2
  exact ⟨rfl, HB2.out⟩
set_option maxHeartbeats 2000000 in
set_option maxRecDepth 100000 in
theorem implSmp_f1 (n d p q T : Int) (w : World) (h1 : smallB n d = false) :
    Calls Try.prog 20 #[.agg #[.int .i64 n, .int .i64 d], .agg #[.int .i64 p, .int .i64 q], .int .i64 T] w fun e w' => e = .returned (.tuple #[.string ⟨#[]⟩, .bool false]) ∧ Below w.heap.size w w' := by
  have HA := Lib.hid h1
  clear h1
  go_enter Try.func20, Try.ntmps20
  go_wp2_with fail
  refine (isSignalPart_any n d false _ HA.out).mono ?_; rintro e w1 ⟨rfl, b1⟩
  have j0 := cell_kept b1 (a := ⟨w.heap.size, 0, none⟩) (v := .int .i64 n) (by simp [go_sem])
  have j1 := cell_kept b1 (a := ⟨w.heap.size, 1, none⟩) (v := .int .i64 d) (by simp [go_sem])
  have j2 := cell_kept b1 (a := ⟨w.heap.size + 1, 0, none⟩) (v := .int .i64 p) (by simp [go_sem])
  have j3 := cell_kept b1 (a := ⟨w.heap.size + 1, 1, none⟩) (v := .int .i64 q) (by simp [go_sem])
  have HB1 := Lib.hid ((((Below.refl w.heap.size w).alloc (Nat.le_refl _) _).alloc (by simp) _).trans (b1.mono (by first | (simp; done) | (simp; omega))))
  clear b1
  go_wp2
  go_ret2
  exact ⟨rfl, HB1.out⟩
set_option maxHeartbeats 2000000 in
set_option maxRecDepth 100000 in
theorem implSmp_f2 (n d p q T : Int) (w : World) (h1 : smallB n d = true) (h2 : smallB p q = false) :
    Calls Try.prog 20 #[.agg #[.int .i64 n, .int .i64 d], .agg #[.int .i64 p, .int .i64 q], .int .i64 T] w fun e w' => e = .returned (.tuple #[.string ⟨#[]⟩, .bool false]) ∧ Below w.heap.size w w' := by
  have HA := Lib.hid h1
  have HC := Lib.hid h2
  clear h1 h2
  go_enter Try.func20, Try.ntmps20
  go_wp2_with fail
  refine (isSignalPart_any n d true _ HA.out).mono ?_; rintro e w1 ⟨rfl, b1⟩
  have j0 := cell_kept b1 (a := ⟨w.heap.size, 0, none⟩) (v := .int .i64 n) (by simp [go_sem])
  have j1 := cell_kept b1 (a := ⟨w.heap.size, 1, none⟩) (v := .int .i64 d) (by simp [go_sem])
  have j2 := cell_kept b1 (a := ⟨w.heap.size + 1, 0, none⟩) (v := .int .i64 p) (by simp [go_sem])
  have j3 := cell_kept b1 (a := ⟨w.heap.size + 1, 1, none⟩) (v := .int .i64 q) (by simp [go_sem])
  have HB1 := Lib.hid ((((Below.refl w.heap.size w).alloc (Nat.le_refl _) _).alloc (by simp) _).trans (b1.mono (by first | (simp; done) | (simp; omega))))
  clear b1
  go_wp2_with fail
  refine (isSignalPart_any p q false _ HC.out).mono ?_; rintro e w2 ⟨rfl, b2⟩
  have k0 := cell_kept b2 j0
  have k1 := cell_kept b2 j1
  have k2 := cell_kept b2 j2
  have k3 := cell_kept b2 j3
  have HB2 := Lib.hid (HB1.out.trans (b2.mono HB1.out.size))
  clear b2 j0 j1 j2 j3
  go_wp2
  go_ret2
  exact ⟨rfl, HB2.out⟩
set_option maxHeartbeats 2000000 in
set_option maxRecDepth 100000 in
theorem specSmp_f3 (N D P Q : Nat) (T : Int) (F S O : Nat) (w : World) (h1 : smallB (N : Int) (D : Int) = true) (h2 : smallB (P : Int) (Q : Int) = true) (n1 : N ≤ 1000000) (d0 : 1 ≤ D) (d1 : D ≤ 1000000) (p1 : P ≤ 1000000) (q0 : 1 ≤ Q) (q1 : Q ≤ 1000000) (eS : N * Q = S) (eF : P * D = F) (eO : D * Q = O) (h3 : N < D) :
    Calls Try.prog 18 #[.agg #[.int .i64 (N : Int), .int .i64 (D : Int)], .agg #[.int .i64 (P : Int), .int .i64 (Q : Int)], .int .i64 T] w fun e w' => e = .returned (.tuple #[.string ⟨#[]⟩, .bool false]) ∧ Below w.heap.size w w' := by
  have kd : decide ((N : Int) < (D : Int)) = true := by simp; omega
  have kd2 : (N : Int) < (D : Int) := by omega
  have HA := Lib.hid h1
  have HC := Lib.hid h2
  clear h1 h2
  go_enter Try.func18, Try.ntmps18
  go_wp2_with fail
  refine (l09Small_any (N : Int) (D : Int) true _ HA.out).mono ?_; rintro e w1 ⟨rfl, b1⟩
  have j0 := cell_kept b1 (a := ⟨w.heap.size, 0, none⟩) (v := .int .i64 (N : Int)) (by simp [go_sem])
  have j1 := cell_kept b1 (a := ⟨w.heap.size, 1, none⟩) (v := .int .i64 (D : Int)) (by simp [go_sem])
  have j2 := cell_kept b1 (a := ⟨w.heap.size + 1, 0, none⟩) (v := .int .i64 (P : Int)) (by simp [go_sem])
  have j3 := cell_kept b1 (a := ⟨w.heap.size + 1, 1, none⟩) (v := .int .i64 (Q : Int)) (by simp [go_sem])
  have HB1 := Lib.hid ((((Below.refl w.heap.size w).alloc (Nat.le_refl _) _).alloc (by simp) _).trans (b1.mono (by first | (simp; done) | (simp; omega))))
  clear b1
  go_wp2_with fail
  refine (l09Small_any (P : Int) (Q : Int) true _ HC.out).mono ?_; rintro e w2 ⟨rfl, b2⟩
  have k0 := cell_kept b2 j0
  have k1 := cell_kept b2 j1
  have k2 := cell_kept b2 j2
  have k3 := cell_kept b2 j3
  have HB2 := Lib.hid (HB1.out.trans (b2.mono HB1.out.size))
  clear b2 j0 j1 j2 j3
  go_wp2
  go_ret2
  exact ⟨rfl, HB2.out⟩
set_option maxHeartbeats 2000000 in
set_option maxRecDepth 100000 in
theorem specSmp_f4 (N D P Q : Nat) (T : Int) (F S O : Nat) (w : World) (h1 : smallB (N : Int) (D : Int) = true) (h2 : smallB (P : Int) (Q : Int) = true) (n1 : N ≤ 1000000) (d0 : 1 ≤ D) (d1 : D ≤ 1000000) (p1 : P ≤ 1000000) (q0 : 1 ≤ Q) (q1 : Q ≤ 1000000) (eS : N * Q = S) (eF : P * D = F) (eO : D * Q = O) (h3 : ¬ N < D) (h4 : ¬ F < S) :
    Calls Try.prog 18 #[.agg #[.int .i64 (N : Int), .int .i64 (D : Int)], .agg #[.int .i64 (P : Int), .int .i64 (Q : Int)], .int .i64 T] w fun e w' => e = .returned (.tuple #[.string ⟨#[]⟩, .bool false]) ∧ Below w.heap.size w w' := by
  have kd : decide ((N : Int) < (D : Int)) = false := by simp; omega
  have kd2 : ¬ (N : Int) < (D : Int) := by omega
  have HA := Lib.hid h1
  have HC := Lib.hid h2
  clear h1 h2
  go_enter Try.func18, Try.ntmps18
  go_wp2_with fail
  refine (l09Small_any (N : Int) (D : Int) true _ HA.out).mono ?_; rintro e w1 ⟨rfl, b1⟩
  have j0 := cell_kept b1 (a := ⟨w.heap.size, 0, none⟩) (v := .int .i64 (N : Int)) (by simp [go_sem])
  have j1 := cell_kept b1 (a := ⟨w.heap.size, 1, none⟩) (v := .int .i64 (D : Int)) (by simp [go_sem])
  have j2 := cell_kept b1 (a := ⟨w.heap.size + 1, 0, none⟩) (v := .int .i64 (P : Int)) (by simp [go_sem])
  have j3 := cell_kept b1 (a := ⟨w.heap.size + 1, 1, none⟩) (v := .int .i64 (Q : Int)) (by simp [go_sem])
  have HB1 := Lib.hid ((((Below.refl w.heap.size w).alloc (Nat.le_refl _) _).alloc (by simp) _).trans (b1.mono (by first | (simp; done) | (simp; omega))))
  clear b1
  go_wp2_with fail
  refine (l09Small_any (P : Int) (Q : Int) true _ HC.out).mono ?_; rintro e w2 ⟨rfl, b2⟩
  have k0 := cell_kept b2 j0
  have k1 := cell_kept b2 j1
  have k2 := cell_kept b2 j2
  have k3 := cell_kept b2 j3
  have HB2 := Lib.hid (HB1.out.trans (b2.mono HB1.out.size))
  clear b2 j0 j1 j2 j3
  go_wp2_with fail
  refine (fcmp_sf N D P Q F S _ n1 d0 d1 p1 q0 q1 eS eF h4).mono ?_; rintro e w3 ⟨⟨v, rfl, hv1, hv2⟩, b3⟩
  have m0 := cell_kept b3 k0
  have m1 := cell_kept b3 k1
  have m2 := cell_kept b3 k2
  have m3 := cell_kept b3 k3
  have HB3 := Lib.hid (HB2.out.trans (b3.mono HB2.out.size))
  clear b3 k0 k1 k2 k3
  go_wp2
  go_ret2
  exact ⟨rfl, HB3.out⟩
set_option maxHeartbeats 2000000 in
set_option maxRecDepth 100000 in
theorem specSmp_f5 (N D P Q : Nat) (T : Int) (F S O : Nat) (w : World) (h1 : smallB (N : Int) (D : Int) = true) (h2 : smallB (P : Int) (Q : Int) = true) (n1 : N ≤ 1000000) (d0 : 1 ≤ D) (d1 : D ≤ 1000000) (p1 : P ≤ 1000000) (q0 : 1 ≤ Q) (q1 : Q ≤ 1000000) (eS : N * Q = S) (eF : P * D = F) (eO : D * Q = O) (h3 : ¬ N < D) (h4 : F < S) (h5 : T < 0 ∨ 400 < T) :
    Calls Try.prog 18 #[.agg #[.int .i64 (N : Int), .int .i64 (D : Int)], .agg #[.int .i64 (P : Int), .int .i64 (Q : Int)], .int .i64 T] w fun e w' => e = .returned (.tuple #[.string ⟨#[]⟩, .bool false]) ∧ Below w.heap.size w w' := by
  have kd : decide ((N : Int) < (D : Int)) = false := by simp; omega
  have kd2 : ¬ (N : Int) < (D : Int) := by omega
  have HA := Lib.hid h1
  have HC := Lib.hid h2
  clear h1 h2
  go_enter Try.func18, Try.ntmps18
  go_wp2_with fail
  refine (l09Small_any (N : Int) (D : Int) true _ HA.out).mono ?_; rintro e w1 ⟨rfl, b1⟩
  have j0 := cell_kept b1 (a := ⟨w.heap.size, 0, none⟩) (v := .int .i64 (N : Int)) (by simp [go_sem])
  have j1 := cell_kept b1 (a := ⟨w.heap.size, 1, none⟩) (v := .int .i64 (D : Int)) (by simp [go_sem])
  have j2 := cell_kept b1 (a := ⟨w.heap.size + 1, 0, none⟩) (v := .int .i64 (P : Int)) (by simp [go_sem])
  have j3 := cell_kept b1 (a := ⟨w.heap.size + 1, 1, none⟩) (v := .int .i64 (Q : Int)) (by simp [go_sem])
  have HB1 := Lib.hid ((((Below.refl w.heap.size w).alloc (Nat.le_refl _) _).alloc (by simp) _).trans (b1.mono (by first | (simp; done) | (simp; omega))))
  clear b1
  go_wp2_with fail
  refine (l09Small_any (P : Int) (Q : Int) true _ HC.out).mono ?_; rintro e w2 ⟨rfl, b2⟩
  have k0 := cell_kept b2 j0
  have k1 := cell_kept b2 j1
  have k2 := cell_kept b2 j2
  have k3 := cell_kept b2 j3
  have HB2 := Lib.hid (HB1.out.trans (b2.mono HB1.out.size))
  clear b2 j0 j1 j2 j3
  go_wp2_with fail
  refine (fcmp_st N D P Q F S _ n1 d0 d1 p1 q0 q1 eS eF h4).mono ?_; rintro e w3 ⟨rfl, b3⟩
  have m0 := cell_kept b3 k0
  have m1 := cell_kept b3 k1
  have m2 := cell_kept b3 k2
  have m3 := cell_kept b3 k3
  have HB3 := Lib.hid (HB2.out.trans (b3.mono HB2.out.size))
  clear b3 k0 k1 k2 k3
  go_wp2_with fail
  refine (l00In_f _ _ _ _ (by omega)).mono ?_; rintro e w' ⟨rfl, rfl⟩
  go_wp2
  go_ret2
  exact ⟨rfl, HB3.out⟩
set_option maxHeartbeats 2000000 in
set_option maxRecDepth 100000 in
theorem implSmp_f5 (N D P Q : Nat) (T : Int) (F S O : Nat) (w : World) (h1 : smallB (N : Int) (D : Int) = true) (h2 : smallB (P : Int) (Q : Int) = true) (n1 : N ≤ 1000000) (d0 : 1 ≤ D) (d1 : D ≤ 1000000) (p1 : P ≤ 1000000) (q0 : 1 ≤ Q) (q1 : Q ≤ 1000000) (eS : N * Q = S) (eF : P * D = F) (eO : D * Q = O) (h5 : T < 0 ∨ 400 < T) :
    Calls Try.prog 20 #[.agg #[.int .i64 (N : Int), .int .i64 (D : Int)], .agg #[.int .i64 (P : Int), .int .i64 (Q : Int)], .int .i64 T] w fun e w' => e = .returned (.tuple #[.string ⟨#[]⟩, .bool false]) ∧ Below w.heap.size w w' := by
  have HA := Lib.hid h1
  have HC := Lib.hid h2
  clear h1 h2
  go_enter Try.func20, Try.ntmps20
  go_wp2_with fail
  refine (isSignalPart_any (N : Int) (D : Int) true _ HA.out).mono ?_; rintro e w1 ⟨rfl, b1⟩
  have j0 := cell_kept b1 (a := ⟨w.heap.size, 0, none⟩) (v := .int .i64 (N : Int)) (by simp [go_sem])
  have j1 := cell_kept b1 (a := ⟨w.heap.size, 1, none⟩) (v := .int .i64 (D : Int)) (by simp [go_sem])
  have j2 := cell_kept b1 (a := ⟨w.heap.size + 1, 0, none⟩) (v := .int .i64 (P : Int)) (by simp [go_sem])
  have j3 := cell_kept b1 (a := ⟨w.heap.size + 1, 1, none⟩) (v := .int .i64 (Q : Int)) (by simp [go_sem])
  have HB1 := Lib.hid ((((Below.refl w.heap.size w).alloc (Nat.le_refl _) _).alloc (by simp) _).trans (b1.mono (by first | (simp; done) | (simp; omega))))
  clear b1
  go_wp2_with fail
  refine (isSignalPart_any (P : Int) (Q : Int) true _ HC.out).mono ?_; rintro e w2 ⟨rfl, b2⟩
  have k0 := cell_kept b2 j0
  have k1 := cell_kept b2 j1
  have k2 := cell_kept b2 j2
  have k3 := cell_kept b2 j3
  have HB2 := Lib.hid (HB1.out.trans (b2.mono HB1.out.size))
  clear b2 j0 j1 j2 j3
  go_wp2_with fail
  refine (within_i64_f _ _ _ _ (by omega)).mono ?_; rintro e w' ⟨rfl, rfl⟩
  go_wp2
  go_ret2
  exact ⟨rfl, HB2.out⟩
set_option maxHeartbeats 2000000 in
set_option maxRecDepth 100000 in
theorem implSmp_f3 (N D P Q : Nat) (T : Int) (F S O : Nat) (w : World) (h1 : smallB (N : Int) (D : Int) = true) (h2 : smallB (P : Int) (Q : Int) = true) (n1 : N ≤ 1000000) (d0 : 1 ≤ D) (d1 : D ≤ 1000000) (p1 : P ≤ 1000000) (q0 : 1 ≤ Q) (q1 : Q ≤ 1000000) (eS : N * Q = S) (eF : P * D = F) (eO : D * Q = O) (h3 : S < O) (h5 : 0 ≤ T ∧ T ≤ 400) :
    Calls Try.prog 20 #[.agg #[.int .i64 (N : Int), .int .i64 (D : Int)], .agg #[.int .i64 (P : Int), .int .i64 (Q : Int)], .int .i64 T] w fun e w' => e = .returned (.tuple #[.string ⟨#[]⟩, .bool false]) ∧ Below w.heap.size w w' := by
  have wS := mul_wrap N Q n1 q1
  have wO := mul_wrap D Q d1 q1
  have wF := mul_wrap P D p1 d1
  rw [eS] at wS
  rw [eO] at wO
  rw [eF] at wF
  have kd : decide ((S : Int) < (O : Int)) = true := by simp; omega
  have kd2 : (S : Int) < (O : Int) := by omega
  have HA := Lib.hid h1
  have HC := Lib.hid h2
  clear h1 h2
  go_enter Try.func20, Try.ntmps20
  go_wp2_with fail
  refine (isSignalPart_any (N : Int) (D : Int) true _ HA.out).mono ?_; rintro e w1 ⟨rfl, b1⟩
  have j0 := cell_kept b1 (a := ⟨w.heap.size, 0, none⟩) (v := .int .i64 (N : Int)) (by simp [go_sem])
  have j1 := cell_kept b1 (a := ⟨w.heap.size, 1, none⟩) (v := .int .i64 (D : Int)) (by simp [go_sem])
  have j2 := cell_kept b1 (a := ⟨w.heap.size + 1, 0, none⟩) (v := .int .i64 (P : Int)) (by simp [go_sem])
  have j3 := cell_kept b1 (a := ⟨w.heap.size + 1, 1, none⟩) (v := .int .i64 (Q : Int)) (by simp [go_sem])
  have HB1 := Lib.hid ((((Below.refl w.heap.size w).alloc (Nat.le_refl _) _).alloc (by simp) _).trans (b1.mono (by first | (simp; done) | (simp; omega))))
  clear b1
  go_wp2_with fail
  refine (isSignalPart_any (P : Int) (Q : Int) true _ HC.out).mono ?_; rintro e w2 ⟨rfl, b2⟩
  have k0 := cell_kept b2 j0
  have k1 := cell_kept b2 j1
  have k2 := cell_kept b2 j2
  have k3 := cell_kept b2 j3
  have HB2 := Lib.hid (HB1.out.trans (b2.mono HB1.out.size))
  clear b2 j0 j1 j2 j3
  go_wp2_with fail
  refine (within_i64_t _ _ _ _ (by omega) (by omega)).mono ?_; rintro e w' ⟨rfl, rfl⟩
  go_wp2
  go_region
  all_goals
    go_wp2
    go_ret2
    exact ⟨rfl, below_drwS HB2.out _⟩
set_option maxHeartbeats 2000000 in
set_option maxRecDepth 100000 in
theorem implSmp_f4 (N D P Q : Nat) (T : Int) (F S O : Nat) (w : World) (h1 : smallB (N : Int) (D : Int) = true) (h2 : smallB (P : Int) (Q : Int) = true) (n1 : N ≤ 1000000) (d0 : 1 ≤ D) (d1 : D ≤ 1000000) (p1 : P ≤ 1000000) (q0 : 1 ≤ Q) (q1 : Q ≤ 1000000) (eS : N * Q = S) (eF : P * D = F) (eO : D * Q = O) (h3 : ¬ S < O) (h4 : ¬ F < S) (h5 : 0 ≤ T ∧ T ≤ 400) :
    Calls Try.prog 20 #[.agg #[.int .i64 (N : Int), .int .i64 (D : Int)], .agg #[.int .i64 (P : Int), .int .i64 (Q : Int)], .int .i64 T] w fun e w' => e = .returned (.tuple #[.string ⟨#[]⟩, .bool false]) ∧ Below w.heap.size w w' := by
  have wS := mul_wrap N Q n1 q1
  have wO := mul_wrap D Q d1 q1
  have wF := mul_wrap P D p1 d1
  rw [eS] at wS
  rw [eO] at wO
  rw [eF] at wF
  have kd : decide ((S : Int) < (O : Int)) = false := by simp; omega
  have kd2 : ¬ (S : Int) < (O : Int) := by omega
  have ke : decide ((S : Int) ≤ (F : Int)) = true := by simp; omega
  have ke2 : (S : Int) ≤ (F : Int) := by omega
  have HA := Lib.hid h1
  have HC := Lib.hid h2
  clear h1 h2
  go_enter Try.func20, Try.ntmps20
  go_wp2_with fail
  refine (isSignalPart_any (N : Int) (D : Int) true _ HA.out).mono ?_; rintro e w1 ⟨rfl, b1⟩
  have j0 := cell_kept b1 (a := ⟨w.heap.size, 0, none⟩) (v := .int .i64 (N : Int)) (by simp [go_sem])
  have j1 := cell_kept b1 (a := ⟨w.heap.size, 1, none⟩) (v := .int .i64 (D : Int)) (by simp [go_sem])
  have j2 := cell_kept b1 (a := ⟨w.heap.size + 1, 0, none⟩) (v := .int .i64 (P : Int)) (by simp [go_sem])
  have j3 := cell_kept b1 (a := ⟨w.heap.size + 1, 1, none⟩) (v := .int .i64 (Q : Int)) (by simp [go_sem])
  have HB1 := Lib.hid ((((Below.refl w.heap.size w).alloc (Nat.le_refl _) _).alloc (by simp) _).trans (b1.mono (by first | (simp; done) | (simp; omega))))
  clear b1
  go_wp2_with fail
  refine (isSignalPart_any (P : Int) (Q : Int) true _ HC.out).mono ?_; rintro e w2 ⟨rfl, b2⟩
  have k0 := cell_kept b2 j0
  have k1 := cell_kept b2 j1
  have k2 := cell_kept b2 j2
  have k3 := cell_kept b2 j3
  have HB2 := Lib.hid (HB1.out.trans (b2.mono HB1.out.size))
  clear b2 j0 j1 j2 j3
  go_wp2_with fail
  refine (within_i64_t _ _ _ _ (by omega) (by omega)).mono ?_; rintro e w' ⟨rfl, rfl⟩
  go_wp2
  go_region
  all_goals
    go_wp2
    go_ret2
    exact ⟨rfl, below_drwS HB2.out _⟩
set_option maxHeartbeats 2000000 in
set_option maxRecDepth 100000 in
theorem implSmp_t (N D P Q T : Nat) (F S O : Nat) (w : World) (h1 : smallB (N : Int) (D : Int) = true) (h2 : smallB (P : Int) (Q : Int) = true) (n1 : N ≤ 1000000) (d0 : 1 ≤ D) (d1 : D ≤ 1000000) (p1 : P ≤ 1000000) (q0 : 1 ≤ Q) (q1 : Q ≤ 1000000) (eS : N * Q = S) (eF : P * D = F) (eO : D * Q = O) (h3 : ¬ N < D) (h4 : F < S) (hOS : O ≤ S) (hO : 1 ≤ O) (hS : S ≤ 1000000000000) (h5 : T ≤ 400) :
    Calls Try.prog 20 #[.agg #[.int .i64 (N : Int), .int .i64 (D : Int)], .agg #[.int .i64 (P : Int), .int .i64 (Q : Int)], .int .i64 (T : Int)] w fun e w' => e = .returned (.tuple #[.string ⟨(accL O S (S - 1 - F) T).toArray⟩, .bool true]) ∧ Below w.heap.size w w' := by
  have wS := mul_wrap N Q n1 q1
  have wO := mul_wrap D Q d1 q1
  have wF := mul_wrap P D p1 d1
  rw [eS] at wS
  rw [eO] at wO
  rw [eF] at wF
  have kd : decide ((S : Int) < (O : Int)) = false := by simp; omega
  have kd2 : ¬ (S : Int) < (O : Int) := by omega
  have ke : decide ((S : Int) ≤ (F : Int)) = false := by simp; omega
  have ke2 : ¬ (S : Int) ≤ (F : Int) := by omega
  have wa : IntKind.i64.wrap ((S : Int) - 1) = ((S - 1 : Nat) : Int) := by rw [IntWalk.i64_in _ (by omega)]; omega
  have wb : IntKind.i64.wrap (((S - 1 : Nat) : Int) - (F : Int)) = ((S - 1 - F : Nat) : Int) := by rw [IntWalk.i64_in _ (by omega)]; omega
  have HA := Lib.hid h1
  have HC := Lib.hid h2
  clear h1 h2
  go_enter Try.func20, Try.ntmps20
  go_wp2_with fail
  refine (isSignalPart_any (N : Int) (D : Int) true _ HA.out).mono ?_; rintro e w1 ⟨rfl, b1⟩
  have j0 := cell_kept b1 (a := ⟨w.heap.size, 0, none⟩) (v := .int .i64 (N : Int)) (by simp [go_sem])
  have j1 := cell_kept b1 (a := ⟨w.heap.size, 1, none⟩) (v := .int .i64 (D : Int)) (by simp [go_sem])
  have j2 := cell_kept b1 (a := ⟨w.heap.size + 1, 0, none⟩) (v := .int .i64 (P : Int)) (by simp [go_sem])
  have j3 := cell_kept b1 (a := ⟨w.heap.size + 1, 1, none⟩) (v := .int .i64 (Q : Int)) (by simp [go_sem])
  have HB1 := Lib.hid ((((Below.refl w.heap.size w).alloc (Nat.le_refl _) _).alloc (by simp) _).trans (b1.mono (by first | (simp; done) | (simp; omega))))
  clear b1
  go_wp2_with fail
  refine (isSignalPart_any (P : Int) (Q : Int) true _ HC.out).mono ?_; rintro e w2 ⟨rfl, b2⟩
  have k0 := cell_kept b2 j0
  have k1 := cell_kept b2 j1
  have k2 := cell_kept b2 j2
  have k3 := cell_kept b2 j3
  have HB2 := Lib.hid (HB1.out.trans (b2.mono HB1.out.size))
  clear b2 j0 j1 j2 j3
  go_wp2_with fail
  refine (within_i64_t _ _ _ _ (by omega) (by omega)).mono ?_; rintro e w' ⟨rfl, rfl⟩
  go_wp2
  go_region
  all_goals
    go_wp2_with fail
    refine (accWave O S (S - 1 - F) T _ hOS hS (by omega) h5).mono ?_; rintro e w4 ⟨rfl, b4⟩
    go_wp2
    go_ret2
    exact ⟨rfl, HB2.out.trans ((show Below w2.heap.size w2 w4 from ⟨b4.os, b4.tape, b4.output, b4.size, b4.block⟩).mono HB2.out.size)⟩
set_option maxHeartbeats 2000000 in
set_option maxRecDepth 100000 in
theorem specSmp_t (N D P Q T : Nat) (F S O : Nat) (w : World) (h1 : smallB (N : Int) (D : Int) = true) (h2 : smallB (P : Int) (Q : Int) = true) (n1 : N ≤ 1000000) (d0 : 1 ≤ D) (d1 : D ≤ 1000000) (p1 : P ≤ 1000000) (q0 : 1 ≤ Q) (q1 : Q ≤ 1000000) (eS : N * Q = S) (eF : P * D = F) (eO : D * Q = O) (h3 : ¬ N < D) (h4 : F < S) (hOS : O ≤ S) (hO : 1 ≤ O) (hS : S ≤ 1000000000000) (h5 : T ≤ 400) :
    Calls Try.prog 18 #[.agg #[.int .i64 (N : Int), .int .i64 (D : Int)], .agg #[.int .i64 (P : Int), .int .i64 (Q : Int)], .int .i64 (T : Int)] w fun e w' => e = .returned (.tuple #[.string ⟨(accL O S (S - 1 - F) T).toArray⟩, .bool true]) ∧ Below w.heap.size w w' := by
  have wS := mul_wrap N Q n1 q1
  have wO := mul_wrap D Q d1 q1
  have wF := mul_wrap P D p1 d1
  rw [eS] at wS
  rw [eO] at wO
  rw [eF] at wF
  have kd : decide ((N : Int) < (D : Int)) = false := by simp; omega
  have kd2 : ¬ (N : Int) < (D : Int) := by omega
  obtain ⟨i0, hi, hz0, hz1, hz2⟩ := info_parts info_u8
  have HA := Lib.hid h1
  have HC := Lib.hid h2
  clear h1 h2
  go_enter Try.func18, Try.ntmps18
  go_wp2_with fail
  refine (l09Small_any (N : Int) (D : Int) true _ HA.out).mono ?_; rintro e w1 ⟨rfl, b1⟩
  have j0 := cell_kept b1 (a := ⟨w.heap.size, 0, none⟩) (v := .int .i64 (N : Int)) (by simp [go_sem])
  have j1 := cell_kept b1 (a := ⟨w.heap.size, 1, none⟩) (v := .int .i64 (D : Int)) (by simp [go_sem])
  have j2 := cell_kept b1 (a := ⟨w.heap.size + 1, 0, none⟩) (v := .int .i64 (P : Int)) (by simp [go_sem])
  have j3 := cell_kept b1 (a := ⟨w.heap.size + 1, 1, none⟩) (v := .int .i64 (Q : Int)) (by simp [go_sem])
  have HB1 := Lib.hid ((((Below.refl w.heap.size w).alloc (Nat.le_refl _) _).alloc (by simp) _).trans (b1.mono (by first | (simp; done) | (simp; omega))))
  clear b1
  go_wp2_with fail
  refine (l09Small_any (P : Int) (Q : Int) true _ HC.out).mono ?_; rintro e w2 ⟨rfl, b2⟩
  have k0 := cell_kept b2 j0
  have k1 := cell_kept b2 j1
  have k2 := cell_kept b2 j2
  have k3 := cell_kept b2 j3
  have HB2 := Lib.hid (HB1.out.trans (b2.mono HB1.out.size))
  clear b2 j0 j1 j2 j3
  go_wp2_with fail
  refine (fcmp_st N D P Q F S _ n1 d0 d1 p1 q0 q1 eS eF h4).mono ?_; rintro e w3 ⟨rfl, b3⟩
  have m0 := cell_kept b3 k0
  have m1 := cell_kept b3 k1
  have m2 := cell_kept b3 k2
  have m3 := cell_kept b3 k3
  have HB3 := Lib.hid (HB2.out.trans (b3.mono HB2.out.size))
  clear b3 k0 k1 k2 k3
  go_wp2_with fail
  refine (l00In_t _ _ _ _ (by omega) (by omega)).mono ?_; rintro e w' ⟨rfl, rfl⟩
  clear eS eF eO
  go_wp2
  go_loopw [10, 11, 12, 13] (fun tm v i _c wr => ∃ (k t p' : Nat) (L : List UInt8), i = .int .i64 (k : Int) ∧ tm = .int .i64 (t : Int) ∧ k ≤ T ∧ p' < S ∧ t + p' + 1 = S + k * O ∧ L.length + (T - k) = T ∧ L ++ accL O S p' (T - k) = accL O S (S - 1 - F) T ∧ Buf wr w3.heap.size v L ∧ Below w3.heap.size w3 wr) (fun _ _ i _ _ => T - (intOf i).toNat)
  case atStart => exact ⟨0, F, S - 1 - F, [], rfl, rfl, Nat.zero_le _, by omega, by rw [Nat.zero_mul]; omega, by simp, rfl, Buf.lit w3, (Below.refl _ _).alloc (Nat.le_refl _) _⟩
  case round =>
    obtain ⟨k, t, p', L, rfl, rfl, hk, hp, ht, hL, hacc, hbuf, hB⟩ := hrel
    have HB := Lib.hid hbuf
    clear hbuf
    have hsz := hB.size
    by_cases hlt : k < T
    · obtain ⟨M, hM⟩ : ∃ M, M = (k + 1) * O := ⟨_, rfl⟩
      have hM2 : M = k * O + O := by rw [hM, Nat.add_mul, Nat.one_mul]
      obtain ⟨Y, hY⟩ : ∃ Y, Y = k * O := ⟨_, rfl⟩
      have hYb : Y ≤ 400 * S := by rw [hY]; exact Nat.mul_le_mul (by omega) hOS
      have hMM : IntKind.i64.wrap (((k : Int) + 1) * (O : Int)) = (M : Int) := by
        rw [show ((k : Int) + 1) * (O : Int) = (M : Int) from by rw [hM, Int.natCast_mul]; rfl]
        exact IntWalk.i64_in _ (by omega)
      have hk1 : IntKind.i64.wrap ((k : Int) + 1) = (k : Int) + 1 := IntWalk.i64_in _ (by omega)
      have htS : IntKind.i64.wrap ((t : Int) + (S : Int)) = (t : Int) + (S : Int) := IntWalk.i64_in _ (by omega)
      have hge : t < M → S ≤ p' + O := by omega
      have hle : ¬ t < M → ¬ S ≤ p' + O := by omega
      clear hM hM2 hYb hY
      by_cases hm : t < M
      · skip
        have hd : decide ((t : Int) < (M : Int)) = true := by simp; omega
        have hd2 : (t : Int) < (M : Int) := by omega
        have HS := Lib.hid (accT_hit O S p' (T - k) L _ (by omega) hacc (hge hm))
        have hg := hge hm
        clear hacc hge hle
        go_wp2_with (at_builtin; refine wpList_append_own _ rfl _ _ 51 rfl w3.heap.size 5 i0 (.int .u8 0) 1 1 Try.underlying51 hi hz0 hz1 hz2 rfl (by decide) _ _ _ rfl (HB.out.alloc _) ⟨wr.heap.size, 0, none⟩ 1 1 [.int .u8 49] rfl rfl ?c1 ?c2 ?c3 ?c4 ?c5 ?_)
        try (case c1 => exact cell_one_new _ _ _)
        case c2 => simp [Value.oneCell']
        case c3 => unfold maxLen; omega
        case c4 => omega
        case c5 => first | (simp; omega) | omega
        intro v' w1 hown' hgrow _
        have HO := Lib.hid (Buf.snoc (b := (49 : UInt8)) hown')
        have HW := Lib.hid (Buf.below hB HB.out _ hgrow)
        clear hown' hgrow
        go_wp2
        go_roundw
        case rel => exact ⟨k + 1, t + S, p' + O - S, L ++ [49], by go_num, by go_num, by omega, by omega, by rw [Nat.add_mul, Nat.one_mul]; omega, by simp; omega, by rw [show T - (k + 1) = T - k - 1 from by omega]; exact HS.out, HO.out, HW.out⟩
        case measure => simp [intOf]; omega

      · skip
        have hd : decide ((t : Int) < (M : Int)) = false := by simp; omega
        have hd2 : ¬ (t : Int) < (M : Int) := by omega
        have HS := Lib.hid (accT_miss O S p' (T - k) L _ (by omega) hacc (hle hm))
        have hg := hle hm
        clear hacc hge hle
        go_wp2_with (at_builtin; refine wpList_append_own _ rfl _ _ 51 rfl w3.heap.size 5 i0 (.int .u8 0) 1 1 Try.underlying51 hi hz0 hz1 hz2 rfl (by decide) _ _ _ rfl (HB.out.alloc _) ⟨wr.heap.size, 0, none⟩ 1 1 [.int .u8 48] rfl rfl ?c1 ?c2 ?c3 ?c4 ?c5 ?_)
        try (case c1 => exact cell_one_new _ _ _)
        case c2 => simp [Value.oneCell']
        case c3 => unfold maxLen; omega
        case c4 => omega
        case c5 => first | (simp; omega) | omega
        intro v' w1 hown' hgrow _
        have HO := Lib.hid (Buf.snoc (b := (48 : UInt8)) hown')
        have HW := Lib.hid (Buf.below hB HB.out _ hgrow)
        clear hown' hgrow
        go_wp2
        go_roundw
        case rel => exact ⟨k + 1, t, p' + O, L ++ [48], by go_num, by go_num, by omega, by omega, by rw [Nat.add_mul, Nat.one_mul]; omega, by simp; omega, by rw [show T - (k + 1) = T - k - 1 from by omega]; exact HS.out, HO.out, HW.out⟩
        case measure => simp [intOf]; omega

    · have HS := Lib.hid (accT_over O S p' (T - k) L _ (by omega) hacc)
      have hconv := run_buf_string _ _ _ _ HB.out
      go_wp2
      go_ret2
      exact ⟨by rw [← HS.out]; rfl, HB3.out.trans (hB.mono HB3.out.size)⟩

theorem smp_both (n d p q T : Int) : ∃ (r : ByteArray) (c : Bool), (∀ w, Calls Try.prog 18 #[.agg #[.int .i64 n, .int .i64 d], .agg #[.int .i64 p, .int .i64 q], .int .i64 T] w fun e w' => e = .returned (.tuple #[.string r, .bool c]) ∧ Below w.heap.size w w') ∧ (∀ w, Calls Try.prog 20 #[.agg #[.int .i64 n, .int .i64 d], .agg #[.int .i64 p, .int .i64 q], .int .i64 T] w fun e w' => e = .returned (.tuple #[.string r, .bool c]) ∧ Below w.heap.size w w') := by
  cases h1 : smallB n d with
  | false => exact ⟨_, _, fun w => specSmp_f1 n d p q T w h1, fun w => implSmp_f1 n d p q T w h1⟩
  | true =>
    cases h2 : smallB p q with
    | false => exact ⟨_, _, fun w => specSmp_f2 n d p q T w h1 h2, fun w => implSmp_f2 n d p q T w h1 h2⟩
    | true =>
      obtain ⟨N, D, rfl, rfl, n1, d0, d1⟩ := small_parts h1
      obtain ⟨P, Q, rfl, rfl, p1, q0, q1⟩ := small_parts h2
      by_cases h3 : N < D
      · have h3' : N * Q < D * Q := Nat.mul_lt_mul_of_pos_right h3 q0
        by_cases h5 : T < 0 ∨ 400 < T
        · exact ⟨_, _, fun w => specSmp_f3 N D P Q T _ _ _ w h1 h2 n1 d0 d1 p1 q0 q1 rfl rfl rfl h3, fun w => implSmp_f5 N D P Q T _ _ _ w h1 h2 n1 d0 d1 p1 q0 q1 rfl rfl rfl h5⟩
        · exact ⟨_, _, fun w => specSmp_f3 N D P Q T _ _ _ w h1 h2 n1 d0 d1 p1 q0 q1 rfl rfl rfl h3, fun w => implSmp_f3 N D P Q T _ _ _ w h1 h2 n1 d0 d1 p1 q0 q1 rfl rfl rfl h3' (by omega)⟩
      · have h3' : ¬ N * Q < D * Q := Nat.not_lt.2 (Nat.mul_le_mul_right Q (Nat.not_lt.1 h3))
        by_cases h4 : P * D < N * Q
        · by_cases h5 : T < 0 ∨ 400 < T
          · exact ⟨_, _, fun w => specSmp_f5 N D P Q T _ _ _ w h1 h2 n1 d0 d1 p1 q0 q1 rfl rfl rfl h3 h4 h5, fun w => implSmp_f5 N D P Q T _ _ _ w h1 h2 n1 d0 d1 p1 q0 q1 rfl rfl rfl h5⟩
          · obtain ⟨t, rfl⟩ := Int.eq_ofNat_of_zero_le (show 0 ≤ T by omega)
            have hO : 1 ≤ D * Q := Nat.mul_pos d0 q0
            have hS : N * Q ≤ 1000000 * 1000000 := Nat.mul_le_mul n1 q1
            exact ⟨_, _, fun w => specSmp_t N D P Q t _ _ _ w h1 h2 n1 d0 d1 p1 q0 q1 rfl rfl rfl h3 h4 (Nat.not_lt.1 h3') hO hS (by omega), fun w => implSmp_t N D P Q t _ _ _ w h1 h2 n1 d0 d1 p1 q0 q1 rfl rfl rfl h3 h4 (Nat.not_lt.1 h3') hO hS (by omega)⟩
        · by_cases h5 : T < 0 ∨ 400 < T
          · exact ⟨_, _, fun w => specSmp_f4 N D P Q T _ _ _ w h1 h2 n1 d0 d1 p1 q0 q1 rfl rfl rfl h3 h4, fun w => implSmp_f5 N D P Q T _ _ _ w h1 h2 n1 d0 d1 p1 q0 q1 rfl rfl rfl h5⟩
          · exact ⟨_, _, fun w => specSmp_f4 N D P Q T _ _ _ w h1 h2 n1 d0 d1 p1 q0 q1 rfl rfl rfl h3 h4, fun w => implSmp_f4 N D P Q T _ _ _ w h1 h2 n1 d0 d1 p1 q0 q1 rfl rfl rfl h3' h4 (by omega)⟩
end Go.Proofs.Ytfekdmnhlbjmaaa
