/- The walk of a law: ValidSwitch is the same on both sides. -/
import Derived.Test.YtmhbgpappjfolaaIn64
import Derived.BigQuiet
import Derived.Deep.QuietTactic
namespace Go.Proofs.Ytmhbgpappjfolaa
open Go.RowKit
set_option linter.unusedVariables false
def swOk (n f : Int) : Bool := decide ((0 ≤ n ∧ n ≤ 5) ∧ 0 ≤ f ∧ f ≤ 1)
theorem swOk_t {n f : Int} (k : (0 ≤ n ∧ n ≤ 5) ∧ 0 ≤ f ∧ f ≤ 1) : swOk n f = true := by unfold swOk; rw [decide_eq_true_eq]; exact k
theorem swOk_f {n f : Int} (k : ¬ ((0 ≤ n ∧ n ≤ 5) ∧ 0 ≤ f ∧ f ≤ 1)) : swOk n f = false := by unfold swOk; rw [decide_eq_false_iff_not]; exact k
theorem swOk_iff {n f : Int} : swOk n f = true ↔ (0 ≤ n ∧ n ≤ 5) ∧ 0 ≤ f ∧ f ≤ 1 := by unfold swOk; rw [decide_eq_true_eq]
theorem below_drs {B : Nat} {a w : World} (h : Below B a w) (n : Nat) : Below B a (w.drewN n) := ⟨h.os, h.tape, h.output, h.size, h.block⟩
set_option maxHeartbeats 1000000 in
theorem l07Is_any (n f : Int) (a : Nat) (w : World) (h0 : w.cell? ⟨a, 0, none⟩ = some (.int .i64 n)) (h1 : w.cell? ⟨a, 1, none⟩ = some (.int .i64 f)) :
    Calls Try.prog 64 #[.pointer (some ⟨a, 0, none⟩)] w fun e w' => e = .returned (.bool (swOk n f)) ∧ ∃ q, w' = w.drewN q := by
  by_cases q0 : 0 ≤ n ∧ n ≤ 5
  · by_cases q1 : 0 ≤ f ∧ f ≤ 1
    · rw [swOk_t ⟨q0, q1⟩]
      go_enter Try.func64, Try.ntmps64
      go_wp2_with fail
      refine (l00In_t _ _ _ _ q0.1 q0.2).mono ?_; rintro e w' ⟨rfl, rfl⟩
      go_wp2_with fail
      refine (l00In_t _ _ _ _ q1.1 q1.2).mono ?_; rintro e w' ⟨rfl, rfl⟩
      go_wp2
      go_ret
      exact ⟨rfl, 0, rfl⟩
    · rw [swOk_f (fun h => q1 h.2)]
      go_enter Try.func64, Try.ntmps64
      go_wp2_with fail
      refine (l00In_t _ _ _ _ q0.1 q0.2).mono ?_; rintro e w' ⟨rfl, rfl⟩
      go_wp2_with fail
      refine (l00In_f _ _ _ _ (by omega)).mono ?_; rintro e w' ⟨rfl, rfl⟩
      go_wp2
      go_ret
      exact ⟨rfl, 0, rfl⟩
  · rw [swOk_f (fun h => q0 h.1)]
    go_enter Try.func64, Try.ntmps64
    go_wp2_with fail
    refine (l00In_f _ _ _ _ (by omega)).mono ?_; rintro e w' ⟨rfl, rfl⟩
    go_wp2
    go_ret
    exact ⟨rfl, 0, rfl⟩
set_option maxHeartbeats 1000000 in
theorem implSw_any (n f : Int) (w : World) :
    Calls Try.prog 26 #[.agg #[.int .i64 n, .int .i64 f]] w fun e w' => e = .returned (.bool (swOk n f)) ∧ Below w.heap.size w w' := by
  by_cases q0 : 0 ≤ n ∧ n ≤ 5
  · by_cases q1 : 0 ≤ f ∧ f ≤ 1
    · rw [swOk_t ⟨q0, q1⟩]
      go_enter Try.func26, Try.ntmps26
      go_wp2_with fail
      refine (within_i64_t _ _ _ _ q0.1 q0.2).mono ?_; rintro e w' ⟨rfl, rfl⟩
      go_wp2_with fail
      refine (within_i64_t _ _ _ _ q1.1 q1.2).mono ?_; rintro e w' ⟨rfl, rfl⟩
      go_wp2
      go_ret
      exact ⟨rfl, (Below.refl _ _).alloc (Nat.le_refl _) _⟩
    · rw [swOk_f (fun h => q1 h.2)]
      go_enter Try.func26, Try.ntmps26
      go_wp2_with fail
      refine (within_i64_t _ _ _ _ q0.1 q0.2).mono ?_; rintro e w' ⟨rfl, rfl⟩
      go_wp2_with fail
      refine (within_i64_f _ _ _ _ (by omega)).mono ?_; rintro e w' ⟨rfl, rfl⟩
      go_wp2
      go_ret
      exact ⟨rfl, (Below.refl _ _).alloc (Nat.le_refl _) _⟩
  · rw [swOk_f (fun h => q0 h.1)]
    go_enter Try.func26, Try.ntmps26
    go_wp2_with fail
    refine (within_i64_f _ _ _ _ (by omega)).mono ?_; rintro e w' ⟨rfl, rfl⟩
    go_wp2
    go_ret
    exact ⟨rfl, (Below.refl _ _).alloc (Nat.le_refl _) _⟩
theorem specSw_any (n f : Int) (w : World) :
    Calls Try.prog 24 #[.agg #[.int .i64 n, .int .i64 f]] w fun e w' => e = .returned (.bool (swOk n f)) ∧ Below w.heap.size w w' := by
  go_enter Try.func24, Try.ntmps24
  go_wp2_with fail
  refine (l07Is_any n f _ _ (by simp [go_sem]) (by simp [go_sem])).mono ?_; rintro e w' ⟨rfl, q, rfl⟩
  go_wp2
  go_ret
  exact ⟨rfl, below_drs ((Below.refl _ _).alloc (Nat.le_refl _) _) _⟩
theorem toSwitch_any (n f : Int) (w : World) :
    Calls Try.prog 25 #[.agg #[.int .i64 n, .int .i64 f]] w fun e w' => e = .returned (.agg #[.int .i64 n, .int .i64 f]) ∧ Below w.heap.size w w' := by
  go_enter Try.func25, Try.ntmps25
  go_wp2
  refine bodyPost_ret (v := .agg #[.int .i64 n, .int .i64 f]) (by simp [results, Try.results25, go_sem]) rfl ⟨rfl, ?_⟩
  exact (((Below.refl _ _).alloc (Nat.le_refl _) _).alloc (by simp) _).alloc (by simp; omega) _
theorem walk_FnExactValidSwitch (n f : Int) (w : World) (_w0 : (Lit.int .i64 n).wf = true) (_w1 : (Lit.int .i64 f).wf = true) :
    Calls Try.prog 5 #[.agg #[.int .i64 n, .int .i64 f]] w fun e w' => e = .returned (.bool true) ∧ Below w.heap.size w w' := by
  go_enter Try.func5, Try.ntmps5
  go_wp2_with fail
  refine (toSwitch_any _ _ _).mono ?_; rintro e w1 ⟨rfl, hb1⟩
  go_wp2_with fail
  refine (specSw_any _ _ _).mono ?_; rintro e w2 ⟨rfl, hb2⟩
  have hb := hb1.trans (hb2.mono hb1.size)
  obtain ⟨hc, hf⟩ := bcell hb
  go_wp2_with fail
  refine (toSwitch_any _ _ _).mono ?_; rintro e w3 ⟨rfl, hb3⟩
  go_wp2_with fail
  refine (implSw_any _ _ _).mono ?_; rintro e w4 ⟨rfl, hb4⟩
  go_wp2
  go_ret
  exact ⟨rfl, ((Below.refl _ _).alloc (Nat.le_refl _) _).trans (((hb.trans (hb3.mono hb.size)).trans (hb4.mono (Nat.le_trans hb.size hb3.size))).mono (by simp))⟩
end Go.Proofs.Ytmhbgpappjfolaa
