/- Clocks: valid ones, how many edges are before a moment, and the next edge: both sides. -/
import Derived.Test.YtkfakoodejpjmaaIn64
import Derived.BigQuiet
import Derived.Deep.QuietTactic
import Derived.IntWalk
import Derived.Deep.RegionWith
namespace Go.Proofs.Ytkfakoodejpjmaa
open Go.RowKit
set_option linter.unusedVariables false
def clkB (p o : Int) : Bool := decide ((1 ≤ p ∧ p ≤ 100000) ∧ 0 ≤ o ∧ o ≤ 100000)
theorem clkB_t {p o : Int} (k : (1 ≤ p ∧ p ≤ 100000) ∧ 0 ≤ o ∧ o ≤ 100000) : clkB p o = true := by unfold clkB; rw [decide_eq_true_eq]; exact k
theorem clkB_f {p o : Int} (k : ¬ ((1 ≤ p ∧ p ≤ 100000) ∧ 0 ≤ o ∧ o ≤ 100000)) : clkB p o = false := by unfold clkB; rw [decide_eq_false_iff_not]; exact k
theorem clkB_iff {p o : Int} : clkB p o = true ↔ (1 ≤ p ∧ p ≤ 100000) ∧ 0 ≤ o ∧ o ≤ 100000 := by unfold clkB; rw [decide_eq_true_eq]
theorem below_drk {B : Nat} {a w : World} (h : Below B a w) (n : Nat) : Below B a (w.drewN n) := ⟨h.os, h.tape, h.output, h.size, h.block⟩
/-- how many edges are before a moment -/
def befZ (p o m : Int) : Int := if m ≤ o then 0 else (m - o - 1) / p + 1
theorem befZ_le (p o m : Int) (h : m ≤ o) : befZ p o m = 0 := by unfold befZ; rw [if_pos h]
theorem befZ_gt (p o m : Int) (h : ¬ m ≤ o) : befZ p o m = (m - o - 1) / p + 1 := by unfold befZ; rw [if_neg h]
theorem befZ_bd (p o m : Int) (hp : 1 ≤ p) (hm : 0 ≤ m) (ho : 0 ≤ o) : 0 ≤ befZ p o m ∧ befZ p o m ≤ m ∧ m ≤ o + befZ p o m * p ∧ (0 < befZ p o m → o + (befZ p o m - 1) * p < m) := by
  by_cases h : m ≤ o
  · rw [befZ_le p o m h]; omega
  · rw [befZ_gt p o m h]
    have h0 : 0 ≤ (m - o - 1) / p := Int.ediv_nonneg (by omega) (by omega)
    have h1 : (m - o - 1) / p ≤ m - o - 1 := Int.ediv_le_self _ (by omega)
    have h2 := Int.emod_add_mul_ediv (m - o - 1) p
    have h3 := Int.emod_nonneg (m - o - 1) (show p ≠ 0 by omega)
    have h4 := Int.emod_lt_of_pos (m - o - 1) (show 0 < p by omega)
    rw [Int.mul_comm] at h2
    generalize (m - o - 1) / p = q at *
    have e : (q + 1) * p = q * p + p := by rw [Int.add_mul, Int.one_mul]
    have e2 : (q + 1 - 1) * p = q * p := by rw [Int.add_sub_cancel]
    refine ⟨by omega, by omega, by omega, fun _ => by omega⟩
theorem l10Is_any (p o : Int) (w : World) :
    Calls Try.prog 42 #[.agg #[.int .i64 p, .int .i64 o]] w fun e w' => e = .returned (.bool (clkB p o)) ∧ Below w.heap.size w w' := by
  by_cases q0 : 1 ≤ p ∧ p ≤ 100000
  · by_cases q1 : 0 ≤ o ∧ o ≤ 100000
    · rw [clkB_t ⟨q0, q1⟩]
      go_enter Try.func42, Try.ntmps42
      go_wp2_with fail
      refine (l00In_t _ _ _ _ q0.1 q0.2).mono ?_; rintro e w' ⟨rfl, rfl⟩
      go_wp2_with fail
      refine (l00In_t _ _ _ _ q1.1 q1.2).mono ?_; rintro e w' ⟨rfl, rfl⟩
      go_wp2
      go_ret
      first | exact ⟨rfl, Below.refl _ _⟩ | exact ⟨rfl, (Below.refl _ _).alloc (Nat.le_refl _) _⟩ | exact ⟨rfl, below_drk (Below.refl _ _) _⟩ | exact ⟨rfl, below_drk ((Below.refl _ _).alloc (Nat.le_refl _) _) _⟩
    · rw [clkB_f (fun h => q1 h.2)]
      go_enter Try.func42, Try.ntmps42
      go_wp2_with fail
      refine (l00In_t _ _ _ _ q0.1 q0.2).mono ?_; rintro e w' ⟨rfl, rfl⟩
      go_wp2_with fail
      refine (l00In_f _ _ _ _ (by omega)).mono ?_; rintro e w' ⟨rfl, rfl⟩
      go_wp2
      go_ret
      first | exact ⟨rfl, Below.refl _ _⟩ | exact ⟨rfl, (Below.refl _ _).alloc (Nat.le_refl _) _⟩ | exact ⟨rfl, below_drk (Below.refl _ _) _⟩ | exact ⟨rfl, below_drk ((Below.refl _ _).alloc (Nat.le_refl _) _) _⟩
  · rw [clkB_f (fun h => q0 h.1)]
    go_enter Try.func42, Try.ntmps42
    go_wp2_with fail
    refine (l00In_f _ _ _ _ (by omega)).mono ?_; rintro e w' ⟨rfl, rfl⟩
    go_wp2
    go_ret
    first | exact ⟨rfl, Below.refl _ _⟩ | exact ⟨rfl, (Below.refl _ _).alloc (Nat.le_refl _) _⟩ | exact ⟨rfl, below_drk (Below.refl _ _) _⟩ | exact ⟨rfl, below_drk ((Below.refl _ _).alloc (Nat.le_refl _) _) _⟩
theorem implVC_any (p o : Int) (w : World) :
    Calls Try.prog 17 #[.agg #[.int .i64 p, .int .i64 o]] w fun e w' => e = .returned (.bool (clkB p o)) ∧ Below w.heap.size w w' := by
  by_cases q0 : 1 ≤ p ∧ p ≤ 100000
  · by_cases q1 : 0 ≤ o ∧ o ≤ 100000
    · rw [clkB_t ⟨q0, q1⟩]
      go_enter Try.func17, Try.ntmps17
      go_wp2_with fail
      refine (within_i64_t _ _ _ _ q0.1 q0.2).mono ?_; rintro e w' ⟨rfl, rfl⟩
      go_wp2_with fail
      refine (within_i64_t _ _ _ _ q1.1 q1.2).mono ?_; rintro e w' ⟨rfl, rfl⟩
      go_wp2
      go_ret
      first | exact ⟨rfl, Below.refl _ _⟩ | exact ⟨rfl, (Below.refl _ _).alloc (Nat.le_refl _) _⟩ | exact ⟨rfl, below_drk (Below.refl _ _) _⟩ | exact ⟨rfl, below_drk ((Below.refl _ _).alloc (Nat.le_refl _) _) _⟩
    · rw [clkB_f (fun h => q1 h.2)]
      go_enter Try.func17, Try.ntmps17
      go_wp2_with fail
      refine (within_i64_t _ _ _ _ q0.1 q0.2).mono ?_; rintro e w' ⟨rfl, rfl⟩
      go_wp2_with fail
      refine (within_i64_f _ _ _ _ (by omega)).mono ?_; rintro e w' ⟨rfl, rfl⟩
      go_wp2
      go_ret
      first | exact ⟨rfl, Below.refl _ _⟩ | exact ⟨rfl, (Below.refl _ _).alloc (Nat.le_refl _) _⟩ | exact ⟨rfl, below_drk (Below.refl _ _) _⟩ | exact ⟨rfl, below_drk ((Below.refl _ _).alloc (Nat.le_refl _) _) _⟩
  · rw [clkB_f (fun h => q0 h.1)]
    go_enter Try.func17, Try.ntmps17
    go_wp2_with fail
    refine (within_i64_f _ _ _ _ (by omega)).mono ?_; rintro e w' ⟨rfl, rfl⟩
    go_wp2
    go_ret
    first | exact ⟨rfl, Below.refl _ _⟩ | exact ⟨rfl, (Below.refl _ _).alloc (Nat.le_refl _) _⟩ | exact ⟨rfl, below_drk (Below.refl _ _) _⟩ | exact ⟨rfl, below_drk ((Below.refl _ _).alloc (Nat.le_refl _) _) _⟩
theorem toCk_any (p o : Int) (w : World) :
    Calls Try.prog 9 #[.agg #[.int .i64 p, .int .i64 o]] w fun e w' => e = .returned (.agg #[.int .i64 p, .int .i64 o]) ∧ Below w.heap.size w w' := by
  go_enter Try.func9, Try.ntmps9
  go_wp2
  refine bodyPost_ret (v := .agg #[.int .i64 p, .int .i64 o]) (by simp [results, Try.results9, go_sem]) rfl ⟨rfl, ?_⟩
  exact (((Below.refl _ _).alloc (Nat.le_refl _) _).alloc (by simp) _).alloc (by simp; omega) _
set_option maxHeartbeats 1000000 in
theorem before_any (p o m : Int) (w : World) (hp : 1 ≤ p) (hp2 : p ≤ 1000000000000000000) (ho : 0 ≤ o) (ho2 : o ≤ 1000000000000000000) (hm : 0 ≤ m) (hm2 : m ≤ 1000000000000000000) :
    Calls Try.prog 52 #[.agg #[.int .i64 p, .int .i64 o], .int .i64 m] w fun e w' => e = .returned (.int .i64 (befZ p o m)) ∧ Below w.heap.size w w' := by
  by_cases h : m ≤ o
  · rw [befZ_le p o m h]
    go_enter Try.func52, Try.ntmps52
    go_wp2
    go_ret
    first | exact ⟨rfl, Below.refl _ _⟩ | exact ⟨rfl, (Below.refl _ _).alloc (Nat.le_refl _) _⟩ | exact ⟨rfl, below_drk (Below.refl _ _) _⟩ | exact ⟨rfl, below_drk ((Below.refl _ _).alloc (Nat.le_refl _) _) _⟩
  · obtain ⟨b0, b1, -, -⟩ := befZ_bd p o m hp hm ho
    rw [befZ_gt p o m h] at b0 b1 ⊢
    have h0 : 0 ≤ (m - o - 1) / p := Int.ediv_nonneg (by omega) (by omega)
    have e1 : (m - o - 1).tdiv p = (m - o - 1) / p := Int.tdiv_eq_ediv_of_nonneg (by omega)
    obtain ⟨q, hq⟩ : ∃ q, (m - o - 1) / p = q := ⟨_, rfl⟩
    rw [hq] at b0 b1 h0 e1 ⊢
    have hne : (p == 0) = false := by simp; omega
    have hn0 : ¬ p = 0 := by omega
    have w0 : IntKind.i64.wrap (m - o) = m - o := IntWalk.i64_in _ (by omega)
    have w1 : IntKind.i64.wrap (m - o - 1) = m - o - 1 := IntWalk.i64_in _ (by omega)
    have w2 : IntKind.i64.wrap ((m - o - 1).tdiv p) = q := by rw [e1]; exact IntWalk.i64_in _ (by omega)
    have w3 : IntKind.i64.wrap q = q := IntWalk.i64_in _ (by omega)
    have w4 : IntKind.i64.wrap (q + 1) = q + 1 := IntWalk.i64_in _ (by omega)
    go_enter Try.func52, Try.ntmps52
    go_wp2
    go_ret
    first | exact ⟨rfl, Below.refl _ _⟩ | exact ⟨rfl, (Below.refl _ _).alloc (Nat.le_refl _) _⟩ | exact ⟨rfl, below_drk (Below.refl _ _) _⟩ | exact ⟨rfl, below_drk ((Below.refl _ _).alloc (Nat.le_refl _) _) _⟩
set_option maxHeartbeats 1000000 in
theorem at_any (p o i : Int) (w : World) (h0 : 0 ≤ i * p) (h1 : i * p ≤ 1000000000000000000) (ho : -1000000000000000000 ≤ o) (ho2 : o ≤ 1000000000000000000) :
    Calls Try.prog 53 #[.agg #[.int .i64 p, .int .i64 o], .int .i64 i] w fun e w' => e = .returned (.int .i64 (o + i * p)) ∧ Below w.heap.size w w' := by
  have w0 : IntKind.i64.wrap (i * p) = i * p := IntWalk.i64_in _ (by omega)
  have w1 : IntKind.i64.wrap (o + i * p) = o + i * p := IntWalk.i64_in _ (by omega)
  go_enter Try.func53, Try.ntmps53
  go_wp2
  go_ret
  first | exact ⟨rfl, Below.refl _ _⟩ | exact ⟨rfl, (Below.refl _ _).alloc (Nat.le_refl _) _⟩ | exact ⟨rfl, below_drk (Below.refl _ _) _⟩ | exact ⟨rfl, below_drk ((Below.refl _ _).alloc (Nat.le_refl _) _) _⟩
theorem befZ_mul (p o m : Int) (hp : 1 ≤ p) (ho : 0 ≤ o) (hm : 0 ≤ m) : 0 ≤ befZ p o m * p ∧ befZ p o m * p ≤ m + p := by
  obtain ⟨b0, b1, b2, b3⟩ := befZ_bd p o m hp hm ho
  refine ⟨Int.mul_nonneg b0 (by omega), ?_⟩
  by_cases h : 0 < befZ p o m
  · have := b3 h
    have e : (befZ p o m - 1) * p = befZ p o m * p - p := by rw [Int.sub_mul, Int.one_mul]
    omega
  · have : befZ p o m = 0 := by omega
    rw [this]; omega
set_option maxHeartbeats 1000000 in
theorem next_any (p o m : Int) (w : World) (hp : 1 ≤ p) (hp2 : p ≤ 100000000000000000) (ho : 0 ≤ o) (ho2 : o ≤ 1000000000000000000) (hm : 0 ≤ m) (hm2 : m ≤ 100000000000000000) :
    Calls Try.prog 45 #[.agg #[.int .i64 p, .int .i64 o], .int .i64 m] w fun e w' => e = .returned (.int .i64 (o + befZ p o m * p)) ∧ Below w.heap.size w w' := by
  obtain ⟨b0, b1⟩ := befZ_mul p o m hp ho hm
  have HBF := Lib.hid (fun w => before_any p o m w hp (by omega) ho ho2 hm (by omega))
  have HAT := Lib.hid (fun w => at_any p o (befZ p o m) w b0 (by omega) (by omega) ho2)
  clear b0 b1
  go_enter Try.func45, Try.ntmps45
  go_wp2_with fail
  go_region_with (first | (go_at_call 52; refine (HBF.out _).mono ?_; rintro e w1 ⟨rfl, hb1⟩; obtain ⟨hc, hf⟩ := bcell hb1) | (go_at_call 53; refine (HAT.out _).mono ?_; rintro e w2 ⟨rfl, hb2⟩))
  all_goals
    go_wp2
    go_ret
    exact ⟨rfl, (((Below.refl w.heap.size w).alloc (Nat.le_refl _) _).drew).trans ((hb1.trans (hb2.mono hb1.size)).mono (by simp))⟩
end Go.Proofs.Ytkfakoodejpjmaa
