/- The walk of a law: ValidQueue is the same on both sides. -/
import Derived.Test.YtomdoamfdidghaaIn64
import Derived.BigQuiet
import Derived.Deep.QuietTactic
namespace Go.Proofs.Ytomdoamfdidghaa
open Go.RowKit
set_option linter.unusedVariables false
def validQueueB (dp rf : Int) : Bool := decide ((dp = 2 ∨ dp = 4) ∧ 0 ≤ rf ∧ rf ≤ 1)
theorem validQueueB_t {dp rf : Int} (k : (dp = 2 ∨ dp = 4) ∧ 0 ≤ rf ∧ rf ≤ 1) : validQueueB dp rf = true := by unfold validQueueB; rw [decide_eq_true_eq]; exact k
theorem validQueueB_f {dp rf : Int} (k : ¬ ((dp = 2 ∨ dp = 4) ∧ 0 ≤ rf ∧ rf ≤ 1)) : validQueueB dp rf = false := by unfold validQueueB; rw [decide_eq_false_iff_not]; exact k
theorem quiet_eqv {P : Program} {f : FuncId} {args : Array Value} {w : World} {n : Nat} {v : Value}
    (h : Calls P f args (w.drewN n) fun e w' => e = .returned v ∧ w.drewN n = w') : Calls P f args (w.drewN n) fun e w'' => e = .returned v ∧ ∃ m, w'' = w.drewN m :=
  h.mono fun _ _ ⟨he, hm⟩ => ⟨he, n, hm.symm⟩
theorem below_drawnv {B : Nat} {a w : World} (h : Below B a w) (n : Nat) : Below B a (w.drewN n) := ⟨h.os, h.tape, h.output, h.size, h.block⟩
set_option maxHeartbeats 1000000 in
theorem l05Queue_e2_0 (rf : Int) (a : Nat) (w : World) (q0 : ¬ (0 ≤ rf ∧ rf ≤ 1)) (h0 : w.cell? ⟨a, 0, none⟩ = some (.int .i64 (2 : Int))) (h1 : w.cell? ⟨a, 1, none⟩ = some (.int .i64 rf)) :
    Calls Try.prog 44 #[.pointer (some ⟨a, 0, none⟩)] w fun e w' => e = .returned (.bool false) ∧ ∃ q, w' = w.drewN q := by
  go_enter Try.func44, Try.ntmps44
  go_wp2_with fail
  refine (l00In_f _ _ _ _ (by omega)).mono ?_; rintro e w' ⟨rfl, rfl⟩
  go_wp2
  go_ret
  exact ⟨rfl, 0, rfl⟩
set_option maxHeartbeats 1000000 in
theorem l05Queue_e2_1 (rf : Int) (a : Nat) (w : World) (q0 : 0 ≤ rf ∧ rf ≤ 1) (h0 : w.cell? ⟨a, 0, none⟩ = some (.int .i64 (2 : Int))) (h1 : w.cell? ⟨a, 1, none⟩ = some (.int .i64 rf)) :
    Calls Try.prog 44 #[.pointer (some ⟨a, 0, none⟩)] w fun e w' => e = .returned (.bool true) ∧ ∃ q, w' = w.drewN q := by
  go_enter Try.func44, Try.ntmps44
  go_wp2_with fail
  refine (l00In_t _ _ _ _ q0.1 q0.2).mono ?_; rintro e w' ⟨rfl, rfl⟩
  go_wp2
  go_ret
  exact ⟨rfl, 0, rfl⟩
set_option maxHeartbeats 1000000 in
theorem l05Queue_e4_0 (rf : Int) (a : Nat) (w : World) (q0 : ¬ (0 ≤ rf ∧ rf ≤ 1)) (h0 : w.cell? ⟨a, 0, none⟩ = some (.int .i64 (4 : Int))) (h1 : w.cell? ⟨a, 1, none⟩ = some (.int .i64 rf)) :
    Calls Try.prog 44 #[.pointer (some ⟨a, 0, none⟩)] w fun e w' => e = .returned (.bool false) ∧ ∃ q, w' = w.drewN q := by
  go_enter Try.func44, Try.ntmps44
  go_wp2_with fail
  refine (l00In_f _ _ _ _ (by omega)).mono ?_; rintro e w' ⟨rfl, rfl⟩
  go_wp2
  go_ret
  exact ⟨rfl, 0, rfl⟩
set_option maxHeartbeats 1000000 in
theorem l05Queue_e4_1 (rf : Int) (a : Nat) (w : World) (q0 : 0 ≤ rf ∧ rf ≤ 1) (h0 : w.cell? ⟨a, 0, none⟩ = some (.int .i64 (4 : Int))) (h1 : w.cell? ⟨a, 1, none⟩ = some (.int .i64 rf)) :
    Calls Try.prog 44 #[.pointer (some ⟨a, 0, none⟩)] w fun e w' => e = .returned (.bool true) ∧ ∃ q, w' = w.drewN q := by
  go_enter Try.func44, Try.ntmps44
  go_wp2_with fail
  refine (l00In_t _ _ _ _ q0.1 q0.2).mono ?_; rintro e w' ⟨rfl, rfl⟩
  go_wp2
  go_ret
  exact ⟨rfl, 0, rfl⟩
set_option maxHeartbeats 1000000 in
theorem l05Queue_e0 (dp rf : Int) (a : Nat) (w : World) (z2 : (dp == 2) = false) (z4 : (dp == 4) = false) (h0 : w.cell? ⟨a, 0, none⟩ = some (.int .i64 dp)) (h1 : w.cell? ⟨a, 1, none⟩ = some (.int .i64 rf)) :
    Calls Try.prog 44 #[.pointer (some ⟨a, 0, none⟩)] w fun e w' => e = .returned (.bool false) ∧ ∃ q, w' = w.drewN q := by
  go_enter Try.func44, Try.ntmps44
  go_wp2
  go_ret
  exact ⟨rfl, 0, rfl⟩
set_option maxHeartbeats 1000000 in
theorem implValidQueue_e2_0 (rf : Int) (w : World) (q0 : ¬ (0 ≤ rf ∧ rf ≤ 1)) :
    Calls Try.prog 27 #[.agg #[.int .i64 (2 : Int), .int .i64 rf]] w fun e w' => e = .returned (.bool false) ∧ Below w.heap.size w w' := by
  go_enter Try.func27, Try.ntmps27
  go_wp2_with fail
  refine (within_i64_f _ _ _ _ (by omega)).mono ?_; rintro e w' ⟨rfl, rfl⟩
  go_wp2
  go_ret
  exact ⟨rfl, (Below.refl _ _).alloc (Nat.le_refl _) _⟩
set_option maxHeartbeats 1000000 in
theorem implValidQueue_e2_1 (rf : Int) (w : World) (q0 : 0 ≤ rf ∧ rf ≤ 1) :
    Calls Try.prog 27 #[.agg #[.int .i64 (2 : Int), .int .i64 rf]] w fun e w' => e = .returned (.bool true) ∧ Below w.heap.size w w' := by
  go_enter Try.func27, Try.ntmps27
  go_wp2_with fail
  refine (within_i64_t _ _ _ _ q0.1 q0.2).mono ?_; rintro e w' ⟨rfl, rfl⟩
  go_wp2
  go_ret
  exact ⟨rfl, (Below.refl _ _).alloc (Nat.le_refl _) _⟩
set_option maxHeartbeats 1000000 in
theorem implValidQueue_e4_0 (rf : Int) (w : World) (q0 : ¬ (0 ≤ rf ∧ rf ≤ 1)) :
    Calls Try.prog 27 #[.agg #[.int .i64 (4 : Int), .int .i64 rf]] w fun e w' => e = .returned (.bool false) ∧ Below w.heap.size w w' := by
  go_enter Try.func27, Try.ntmps27
  go_wp2_with fail
  refine (within_i64_f _ _ _ _ (by omega)).mono ?_; rintro e w' ⟨rfl, rfl⟩
  go_wp2
  go_ret
  exact ⟨rfl, (Below.refl _ _).alloc (Nat.le_refl _) _⟩
set_option maxHeartbeats 1000000 in
theorem implValidQueue_e4_1 (rf : Int) (w : World) (q0 : 0 ≤ rf ∧ rf ≤ 1) :
    Calls Try.prog 27 #[.agg #[.int .i64 (4 : Int), .int .i64 rf]] w fun e w' => e = .returned (.bool true) ∧ Below w.heap.size w w' := by
  go_enter Try.func27, Try.ntmps27
  go_wp2_with fail
  refine (within_i64_t _ _ _ _ q0.1 q0.2).mono ?_; rintro e w' ⟨rfl, rfl⟩
  go_wp2
  go_ret
  exact ⟨rfl, (Below.refl _ _).alloc (Nat.le_refl _) _⟩
set_option maxHeartbeats 1000000 in
theorem implValidQueue_e0 (dp rf : Int) (w : World) (z2 : (dp == 2) = false) (z4 : (dp == 4) = false) :
    Calls Try.prog 27 #[.agg #[.int .i64 dp, .int .i64 rf]] w fun e w' => e = .returned (.bool false) ∧ Below w.heap.size w w' := by
  go_enter Try.func27, Try.ntmps27
  go_wp2
  go_ret
  exact ⟨rfl, (Below.refl _ _).alloc (Nat.le_refl _) _⟩
theorem l05Queue_any (dp rf : Int) (a : Nat) (w : World) (h0 : w.cell? ⟨a, 0, none⟩ = some (.int .i64 dp)) (h1 : w.cell? ⟨a, 1, none⟩ = some (.int .i64 rf)) :
    Calls Try.prog 44 #[.pointer (some ⟨a, 0, none⟩)] w fun e w' => e = .returned (.bool (validQueueB dp rf)) ∧ ∃ q, w' = w.drewN q := by
  by_cases g2 : dp = 2
  · subst g2
    by_cases n0 : ¬ (0 ≤ rf ∧ rf ≤ 1)
    · have q0 := n0
      rw [validQueueB_f (by omega)]; exact l05Queue_e2_0 rf a w q0 h0 h1
    have q0 := Decidable.not_not.1 n0
    rw [validQueueB_t (by omega)]; exact l05Queue_e2_1 rf a w q0 h0 h1
  · by_cases g4 : dp = 4
    · subst g4
      by_cases n0 : ¬ (0 ≤ rf ∧ rf ≤ 1)
      · have q0 := n0
        rw [validQueueB_f (by omega)]; exact l05Queue_e4_0 rf a w q0 h0 h1
      have q0 := Decidable.not_not.1 n0
      rw [validQueueB_t (by omega)]; exact l05Queue_e4_1 rf a w q0 h0 h1
    · rw [validQueueB_f (by omega)]; exact l05Queue_e0 dp rf a w (beq_eq_false_iff_ne.2 g2) (beq_eq_false_iff_ne.2 g4) h0 h1
theorem implValidQueue_any (dp rf : Int) (w : World) :
    Calls Try.prog 27 #[.agg #[.int .i64 dp, .int .i64 rf]] w fun e w' => e = .returned (.bool (validQueueB dp rf)) ∧ Below w.heap.size w w' := by
  by_cases g2 : dp = 2
  · subst g2
    by_cases n0 : ¬ (0 ≤ rf ∧ rf ≤ 1)
    · have q0 := n0
      rw [validQueueB_f (by omega)]; exact implValidQueue_e2_0 rf w q0
    have q0 := Decidable.not_not.1 n0
    rw [validQueueB_t (by omega)]; exact implValidQueue_e2_1 rf w q0
  · by_cases g4 : dp = 4
    · subst g4
      by_cases n0 : ¬ (0 ≤ rf ∧ rf ≤ 1)
      · have q0 := n0
        rw [validQueueB_f (by omega)]; exact implValidQueue_e4_0 rf w q0
      have q0 := Decidable.not_not.1 n0
      rw [validQueueB_t (by omega)]; exact implValidQueue_e4_1 rf w q0
    · rw [validQueueB_f (by omega)]; exact implValidQueue_e0 dp rf w (beq_eq_false_iff_ne.2 g2) (beq_eq_false_iff_ne.2 g4)

theorem specValidQueue_any (dp rf : Int) (w : World) :
    Calls Try.prog 25 #[.agg #[.int .i64 dp, .int .i64 rf]] w fun e w' => e = .returned (.bool (validQueueB dp rf)) ∧ Below w.heap.size w w' := by
  go_enter Try.func25, Try.ntmps25
  go_wp2_with fail
  refine (l05Queue_any dp rf _ _ (by simp [go_sem]) (by simp [go_sem])).mono ?_; rintro e w' ⟨rfl, q, rfl⟩
  go_wp2
  go_ret
  exact ⟨rfl, below_drawnv ((Below.refl _ _).alloc (Nat.le_refl _) _) _⟩

theorem toQueue_any (dp rf : Int) (w : World) :
    Calls Try.prog 26 #[.agg #[.int .i64 dp, .int .i64 rf]] w fun e w' => e = .returned (.agg #[.int .i64 dp, .int .i64 rf]) ∧ Below w.heap.size w w' := by
  go_enter Try.func26, Try.ntmps26
  go_wp2
  refine bodyPost_ret (v := .agg #[.int .i64 dp, .int .i64 rf]) (by simp [results, Try.results26, go_sem]) rfl ⟨rfl, ?_⟩
  exact (((Below.refl _ _).alloc (Nat.le_refl _) _).alloc (by simp) _).alloc (by simp; omega) _

theorem walk_FnExactValidQueue (dp rf : Int) (w : World) (_w0 : (Lit.int .i64 dp).wf = true) (_w1 : (Lit.int .i64 rf).wf = true) :
    Calls Try.prog 8 #[.agg #[.int .i64 dp, .int .i64 rf]] w fun e w' => e = .returned (.bool true) ∧ Below w.heap.size w w' := by
  go_enter Try.func8, Try.ntmps8
  go_wp2_with fail
  refine (toQueue_any _ _ _).mono ?_; rintro e w1 ⟨rfl, hb1⟩
  go_wp2_with fail
  refine (specValidQueue_any _ _ _).mono ?_; rintro e w2 ⟨rfl, hb2⟩
  have hb := hb1.trans (hb2.mono hb1.size)
  obtain ⟨hc, hf⟩ := bcell hb
  go_wp2_with fail
  refine (toQueue_any _ _ _).mono ?_; rintro e w3 ⟨rfl, hb3⟩
  go_wp2_with fail
  refine (implValidQueue_any _ _ _).mono ?_; rintro e w4 ⟨rfl, hb4⟩
  go_wp2
  go_ret
  exact ⟨rfl, ((Below.refl _ _).alloc (Nat.le_refl _) _).trans (((hb.trans (hb3.mono hb.size)).trans (hb4.mono (Nat.le_trans hb.size hb3.size))).mono (by simp))⟩
end Go.Proofs.Ytomdoamfdidghaa
