/- The walk of a law: ValidLink is the same on both sides. -/
import Derived.Test.YtomdoamfdidghaaIn64
import Derived.BigQuiet
import Derived.Deep.QuietTactic
namespace Go.Proofs.Ytomdoamfdidghaa
open Go.RowKit
set_option linter.unusedVariables false
def validLinkB (ph st sk wo : Int) : Bool := decide ((ph = 2 ∨ ph = 4) ∧ 0 ≤ st ∧ st ≤ 2 ∧ 0 ≤ sk ∧ sk ≤ 2 ∧ 0 ≤ wo ∧ wo ≤ 4)
theorem validLinkB_t {ph st sk wo : Int} (k : (ph = 2 ∨ ph = 4) ∧ 0 ≤ st ∧ st ≤ 2 ∧ 0 ≤ sk ∧ sk ≤ 2 ∧ 0 ≤ wo ∧ wo ≤ 4) : validLinkB ph st sk wo = true := by unfold validLinkB; rw [decide_eq_true_eq]; exact k
theorem validLinkB_f {ph st sk wo : Int} (k : ¬ ((ph = 2 ∨ ph = 4) ∧ 0 ≤ st ∧ st ≤ 2 ∧ 0 ≤ sk ∧ sk ≤ 2 ∧ 0 ≤ wo ∧ wo ≤ 4)) : validLinkB ph st sk wo = false := by unfold validLinkB; rw [decide_eq_false_iff_not]; exact k
theorem quiet_eqv {P : Program} {f : FuncId} {args : Array Value} {w : World} {n : Nat} {v : Value}
    (h : Calls P f args (w.drewN n) fun e w' => e = .returned v ∧ w.drewN n = w') : Calls P f args (w.drewN n) fun e w'' => e = .returned v ∧ ∃ m, w'' = w.drewN m :=
  h.mono fun _ _ ⟨he, hm⟩ => ⟨he, n, hm.symm⟩
theorem below_drawnv {B : Nat} {a w : World} (h : Below B a w) (n : Nat) : Below B a (w.drewN n) := ⟨h.os, h.tape, h.output, h.size, h.block⟩
set_option maxHeartbeats 1000000 in
theorem l05Link_e2_0 (st sk wo : Int) (a : Nat) (w : World) (q0 : ¬ (0 ≤ st ∧ st ≤ 2)) (h0 : w.cell? ⟨a, 0, none⟩ = some (.int .i64 (2 : Int))) (h1 : w.cell? ⟨a, 1, none⟩ = some (.int .i64 st)) (h2 : w.cell? ⟨a, 2, none⟩ = some (.int .i64 sk)) (h3 : w.cell? ⟨a, 3, none⟩ = some (.int .i64 wo)) :
    Calls Try.prog 43 #[.pointer (some ⟨a, 0, none⟩)] w fun e w' => e = .returned (.bool false) ∧ ∃ q, w' = w.drewN q := by
  go_enter Try.func43, Try.ntmps43
  go_wp2_with fail
  refine (l00In_f _ _ _ _ (by omega)).mono ?_; rintro e w' ⟨rfl, rfl⟩
  go_wp2
  go_ret
  exact ⟨rfl, 0, rfl⟩
set_option maxHeartbeats 1000000 in
theorem l05Link_e2_1 (st sk wo : Int) (a : Nat) (w : World) (q0 : 0 ≤ st ∧ st ≤ 2) (q1 : ¬ (0 ≤ sk ∧ sk ≤ 2)) (h0 : w.cell? ⟨a, 0, none⟩ = some (.int .i64 (2 : Int))) (h1 : w.cell? ⟨a, 1, none⟩ = some (.int .i64 st)) (h2 : w.cell? ⟨a, 2, none⟩ = some (.int .i64 sk)) (h3 : w.cell? ⟨a, 3, none⟩ = some (.int .i64 wo)) :
    Calls Try.prog 43 #[.pointer (some ⟨a, 0, none⟩)] w fun e w' => e = .returned (.bool false) ∧ ∃ q, w' = w.drewN q := by
  go_enter Try.func43, Try.ntmps43
  go_wp2_with fail
  refine (l00In_t _ _ _ _ q0.1 q0.2).mono ?_; rintro e w' ⟨rfl, rfl⟩
  go_wp2_with fail
  refine (l00In_f _ _ _ _ (by omega)).mono ?_; rintro e w' ⟨rfl, rfl⟩
  go_wp2
  go_ret
  exact ⟨rfl, 0, rfl⟩
set_option maxHeartbeats 1000000 in
theorem l05Link_e2_2 (st sk wo : Int) (a : Nat) (w : World) (q0 : 0 ≤ st ∧ st ≤ 2) (q1 : 0 ≤ sk ∧ sk ≤ 2) (q2 : ¬ (0 ≤ wo ∧ wo ≤ 4)) (h0 : w.cell? ⟨a, 0, none⟩ = some (.int .i64 (2 : Int))) (h1 : w.cell? ⟨a, 1, none⟩ = some (.int .i64 st)) (h2 : w.cell? ⟨a, 2, none⟩ = some (.int .i64 sk)) (h3 : w.cell? ⟨a, 3, none⟩ = some (.int .i64 wo)) :
    Calls Try.prog 43 #[.pointer (some ⟨a, 0, none⟩)] w fun e w' => e = .returned (.bool false) ∧ ∃ q, w' = w.drewN q := by
  go_enter Try.func43, Try.ntmps43
  go_wp2_with fail
  refine (l00In_t _ _ _ _ q0.1 q0.2).mono ?_; rintro e w' ⟨rfl, rfl⟩
  go_wp2_with fail
  refine (l00In_t _ _ _ _ q1.1 q1.2).mono ?_; rintro e w' ⟨rfl, rfl⟩
  go_wp2_with fail
  refine (l00In_f _ _ _ _ (by omega)).mono ?_; rintro e w' ⟨rfl, rfl⟩
  go_wp2
  go_ret
  exact ⟨rfl, 0, rfl⟩
set_option maxHeartbeats 1000000 in
theorem l05Link_e2_3 (st sk wo : Int) (a : Nat) (w : World) (q0 : 0 ≤ st ∧ st ≤ 2) (q1 : 0 ≤ sk ∧ sk ≤ 2) (q2 : 0 ≤ wo ∧ wo ≤ 4) (h0 : w.cell? ⟨a, 0, none⟩ = some (.int .i64 (2 : Int))) (h1 : w.cell? ⟨a, 1, none⟩ = some (.int .i64 st)) (h2 : w.cell? ⟨a, 2, none⟩ = some (.int .i64 sk)) (h3 : w.cell? ⟨a, 3, none⟩ = some (.int .i64 wo)) :
    Calls Try.prog 43 #[.pointer (some ⟨a, 0, none⟩)] w fun e w' => e = .returned (.bool true) ∧ ∃ q, w' = w.drewN q := by
  go_enter Try.func43, Try.ntmps43
  go_wp2_with fail
  refine (l00In_t _ _ _ _ q0.1 q0.2).mono ?_; rintro e w' ⟨rfl, rfl⟩
  go_wp2_with fail
  refine (l00In_t _ _ _ _ q1.1 q1.2).mono ?_; rintro e w' ⟨rfl, rfl⟩
  go_wp2_with fail
  refine (l00In_t _ _ _ _ q2.1 q2.2).mono ?_; rintro e w' ⟨rfl, rfl⟩
  go_wp2
  go_ret
  exact ⟨rfl, 0, rfl⟩
set_option maxHeartbeats 1000000 in
theorem l05Link_e4_0 (st sk wo : Int) (a : Nat) (w : World) (q0 : ¬ (0 ≤ st ∧ st ≤ 2)) (h0 : w.cell? ⟨a, 0, none⟩ = some (.int .i64 (4 : Int))) (h1 : w.cell? ⟨a, 1, none⟩ = some (.int .i64 st)) (h2 : w.cell? ⟨a, 2, none⟩ = some (.int .i64 sk)) (h3 : w.cell? ⟨a, 3, none⟩ = some (.int .i64 wo)) :
    Calls Try.prog 43 #[.pointer (some ⟨a, 0, none⟩)] w fun e w' => e = .returned (.bool false) ∧ ∃ q, w' = w.drewN q := by
  go_enter Try.func43, Try.ntmps43
  go_wp2_with fail
  refine (l00In_f _ _ _ _ (by omega)).mono ?_; rintro e w' ⟨rfl, rfl⟩
  go_wp2
  go_ret
  exact ⟨rfl, 0, rfl⟩
set_option maxHeartbeats 1000000 in
theorem l05Link_e4_1 (st sk wo : Int) (a : Nat) (w : World) (q0 : 0 ≤ st ∧ st ≤ 2) (q1 : ¬ (0 ≤ sk ∧ sk ≤ 2)) (h0 : w.cell? ⟨a, 0, none⟩ = some (.int .i64 (4 : Int))) (h1 : w.cell? ⟨a, 1, none⟩ = some (.int .i64 st)) (h2 : w.cell? ⟨a, 2, none⟩ = some (.int .i64 sk)) (h3 : w.cell? ⟨a, 3, none⟩ = some (.int .i64 wo)) :
    Calls Try.prog 43 #[.pointer (some ⟨a, 0, none⟩)] w fun e w' => e = .returned (.bool false) ∧ ∃ q, w' = w.drewN q := by
  go_enter Try.func43, Try.ntmps43
  go_wp2_with fail
  refine (l00In_t _ _ _ _ q0.1 q0.2).mono ?_; rintro e w' ⟨rfl, rfl⟩
  go_wp2_with fail
  refine (l00In_f _ _ _ _ (by omega)).mono ?_; rintro e w' ⟨rfl, rfl⟩
  go_wp2
  go_ret
  exact ⟨rfl, 0, rfl⟩
set_option maxHeartbeats 1000000 in
theorem l05Link_e4_2 (st sk wo : Int) (a : Nat) (w : World) (q0 : 0 ≤ st ∧ st ≤ 2) (q1 : 0 ≤ sk ∧ sk ≤ 2) (q2 : ¬ (0 ≤ wo ∧ wo ≤ 4)) (h0 : w.cell? ⟨a, 0, none⟩ = some (.int .i64 (4 : Int))) (h1 : w.cell? ⟨a, 1, none⟩ = some (.int .i64 st)) (h2 : w.cell? ⟨a, 2, none⟩ = some (.int .i64 sk)) (h3 : w.cell? ⟨a, 3, none⟩ = some (.int .i64 wo)) :
    Calls Try.prog 43 #[.pointer (some ⟨a, 0, none⟩)] w fun e w' => e = .returned (.bool false) ∧ ∃ q, w' = w.drewN q := by
  go_enter Try.func43, Try.ntmps43
  go_wp2_with fail
  refine (l00In_t _ _ _ _ q0.1 q0.2).mono ?_; rintro e w' ⟨rfl, rfl⟩
  go_wp2_with fail
  refine (l00In_t _ _ _ _ q1.1 q1.2).mono ?_; rintro e w' ⟨rfl, rfl⟩
  go_wp2_with fail
  refine (l00In_f _ _ _ _ (by omega)).mono ?_; rintro e w' ⟨rfl, rfl⟩
  go_wp2
  go_ret
  exact ⟨rfl, 0, rfl⟩
set_option maxHeartbeats 1000000 in
theorem l05Link_e4_3 (st sk wo : Int) (a : Nat) (w : World) (q0 : 0 ≤ st ∧ st ≤ 2) (q1 : 0 ≤ sk ∧ sk ≤ 2) (q2 : 0 ≤ wo ∧ wo ≤ 4) (h0 : w.cell? ⟨a, 0, none⟩ = some (.int .i64 (4 : Int))) (h1 : w.cell? ⟨a, 1, none⟩ = some (.int .i64 st)) (h2 : w.cell? ⟨a, 2, none⟩ = some (.int .i64 sk)) (h3 : w.cell? ⟨a, 3, none⟩ = some (.int .i64 wo)) :
    Calls Try.prog 43 #[.pointer (some ⟨a, 0, none⟩)] w fun e w' => e = .returned (.bool true) ∧ ∃ q, w' = w.drewN q := by
  go_enter Try.func43, Try.ntmps43
  go_wp2_with fail
  refine (l00In_t _ _ _ _ q0.1 q0.2).mono ?_; rintro e w' ⟨rfl, rfl⟩
  go_wp2_with fail
  refine (l00In_t _ _ _ _ q1.1 q1.2).mono ?_; rintro e w' ⟨rfl, rfl⟩
  go_wp2_with fail
  refine (l00In_t _ _ _ _ q2.1 q2.2).mono ?_; rintro e w' ⟨rfl, rfl⟩
  go_wp2
  go_ret
  exact ⟨rfl, 0, rfl⟩
set_option maxHeartbeats 1000000 in
theorem l05Link_e0 (ph st sk wo : Int) (a : Nat) (w : World) (z2 : (ph == 2) = false) (z4 : (ph == 4) = false) (h0 : w.cell? ⟨a, 0, none⟩ = some (.int .i64 ph)) (h1 : w.cell? ⟨a, 1, none⟩ = some (.int .i64 st)) (h2 : w.cell? ⟨a, 2, none⟩ = some (.int .i64 sk)) (h3 : w.cell? ⟨a, 3, none⟩ = some (.int .i64 wo)) :
    Calls Try.prog 43 #[.pointer (some ⟨a, 0, none⟩)] w fun e w' => e = .returned (.bool false) ∧ ∃ q, w' = w.drewN q := by
  go_enter Try.func43, Try.ntmps43
  go_wp2
  go_ret
  exact ⟨rfl, 0, rfl⟩
set_option maxHeartbeats 1000000 in
theorem implValidLink_e2_0 (st sk wo : Int) (w : World) (q0 : ¬ (0 ≤ st ∧ st ≤ 2)) :
    Calls Try.prog 24 #[.agg #[.int .i64 (2 : Int), .int .i64 st, .int .i64 sk, .int .i64 wo]] w fun e w' => e = .returned (.bool false) ∧ Below w.heap.size w w' := by
  go_enter Try.func24, Try.ntmps24
  go_wp2_with fail
  refine (within_i64_f _ _ _ _ (by omega)).mono ?_; rintro e w' ⟨rfl, rfl⟩
  go_wp2
  go_ret
  exact ⟨rfl, (Below.refl _ _).alloc (Nat.le_refl _) _⟩
set_option maxHeartbeats 1000000 in
theorem implValidLink_e2_1 (st sk wo : Int) (w : World) (q0 : 0 ≤ st ∧ st ≤ 2) (q1 : ¬ (0 ≤ sk ∧ sk ≤ 2)) :
    Calls Try.prog 24 #[.agg #[.int .i64 (2 : Int), .int .i64 st, .int .i64 sk, .int .i64 wo]] w fun e w' => e = .returned (.bool false) ∧ Below w.heap.size w w' := by
  go_enter Try.func24, Try.ntmps24
  go_wp2_with fail
  refine (within_i64_t _ _ _ _ q0.1 q0.2).mono ?_; rintro e w' ⟨rfl, rfl⟩
  go_wp2_with fail
  refine (within_i64_f _ _ _ _ (by omega)).mono ?_; rintro e w' ⟨rfl, rfl⟩
  go_wp2
  go_ret
  exact ⟨rfl, (Below.refl _ _).alloc (Nat.le_refl _) _⟩
set_option maxHeartbeats 1000000 in
theorem implValidLink_e2_2 (st sk wo : Int) (w : World) (q0 : 0 ≤ st ∧ st ≤ 2) (q1 : 0 ≤ sk ∧ sk ≤ 2) (q2 : ¬ (0 ≤ wo ∧ wo ≤ 4)) :
    Calls Try.prog 24 #[.agg #[.int .i64 (2 : Int), .int .i64 st, .int .i64 sk, .int .i64 wo]] w fun e w' => e = .returned (.bool false) ∧ Below w.heap.size w w' := by
  go_enter Try.func24, Try.ntmps24
  go_wp2_with fail
  refine (within_i64_t _ _ _ _ q0.1 q0.2).mono ?_; rintro e w' ⟨rfl, rfl⟩
  go_wp2_with fail
  refine (within_i64_t _ _ _ _ q1.1 q1.2).mono ?_; rintro e w' ⟨rfl, rfl⟩
  go_wp2_with fail
  refine (within_i64_f _ _ _ _ (by omega)).mono ?_; rintro e w' ⟨rfl, rfl⟩
  go_wp2
  go_ret
  exact ⟨rfl, (Below.refl _ _).alloc (Nat.le_refl _) _⟩
set_option maxHeartbeats 1000000 in
theorem implValidLink_e2_3 (st sk wo : Int) (w : World) (q0 : 0 ≤ st ∧ st ≤ 2) (q1 : 0 ≤ sk ∧ sk ≤ 2) (q2 : 0 ≤ wo ∧ wo ≤ 4) :
    Calls Try.prog 24 #[.agg #[.int .i64 (2 : Int), .int .i64 st, .int .i64 sk, .int .i64 wo]] w fun e w' => e = .returned (.bool true) ∧ Below w.heap.size w w' := by
  go_enter Try.func24, Try.ntmps24
  go_wp2_with fail
  refine (within_i64_t _ _ _ _ q0.1 q0.2).mono ?_; rintro e w' ⟨rfl, rfl⟩
  go_wp2_with fail
  refine (within_i64_t _ _ _ _ q1.1 q1.2).mono ?_; rintro e w' ⟨rfl, rfl⟩
  go_wp2_with fail
  refine (within_i64_t _ _ _ _ q2.1 q2.2).mono ?_; rintro e w' ⟨rfl, rfl⟩
  go_wp2
  go_ret
  exact ⟨rfl, (Below.refl _ _).alloc (Nat.le_refl _) _⟩
set_option maxHeartbeats 1000000 in
theorem implValidLink_e4_0 (st sk wo : Int) (w : World) (q0 : ¬ (0 ≤ st ∧ st ≤ 2)) :
    Calls Try.prog 24 #[.agg #[.int .i64 (4 : Int), .int .i64 st, .int .i64 sk, .int .i64 wo]] w fun e w' => e = .returned (.bool false) ∧ Below w.heap.size w w' := by
  go_enter Try.func24, Try.ntmps24
  go_wp2_with fail
  refine (within_i64_f _ _ _ _ (by omega)).mono ?_; rintro e w' ⟨rfl, rfl⟩
  go_wp2
  go_ret
  exact ⟨rfl, (Below.refl _ _).alloc (Nat.le_refl _) _⟩
set_option maxHeartbeats 1000000 in
theorem implValidLink_e4_1 (st sk wo : Int) (w : World) (q0 : 0 ≤ st ∧ st ≤ 2) (q1 : ¬ (0 ≤ sk ∧ sk ≤ 2)) :
    Calls Try.prog 24 #[.agg #[.int .i64 (4 : Int), .int .i64 st, .int .i64 sk, .int .i64 wo]] w fun e w' => e = .returned (.bool false) ∧ Below w.heap.size w w' := by
  go_enter Try.func24, Try.ntmps24
  go_wp2_with fail
  refine (within_i64_t _ _ _ _ q0.1 q0.2).mono ?_; rintro e w' ⟨rfl, rfl⟩
  go_wp2_with fail
  refine (within_i64_f _ _ _ _ (by omega)).mono ?_; rintro e w' ⟨rfl, rfl⟩
  go_wp2
  go_ret
  exact ⟨rfl, (Below.refl _ _).alloc (Nat.le_refl _) _⟩
set_option maxHeartbeats 1000000 in
theorem implValidLink_e4_2 (st sk wo : Int) (w : World) (q0 : 0 ≤ st ∧ st ≤ 2) (q1 : 0 ≤ sk ∧ sk ≤ 2) (q2 : ¬ (0 ≤ wo ∧ wo ≤ 4)) :
    Calls Try.prog 24 #[.agg #[.int .i64 (4 : Int), .int .i64 st, .int .i64 sk, .int .i64 wo]] w fun e w' => e = .returned (.bool false) ∧ Below w.heap.size w w' := by
  go_enter Try.func24, Try.ntmps24
  go_wp2_with fail
  refine (within_i64_t _ _ _ _ q0.1 q0.2).mono ?_; rintro e w' ⟨rfl, rfl⟩
  go_wp2_with fail
  refine (within_i64_t _ _ _ _ q1.1 q1.2).mono ?_; rintro e w' ⟨rfl, rfl⟩
  go_wp2_with fail
  refine (within_i64_f _ _ _ _ (by omega)).mono ?_; rintro e w' ⟨rfl, rfl⟩
  go_wp2
  go_ret
  exact ⟨rfl, (Below.refl _ _).alloc (Nat.le_refl _) _⟩
set_option maxHeartbeats 1000000 in
theorem implValidLink_e4_3 (st sk wo : Int) (w : World) (q0 : 0 ≤ st ∧ st ≤ 2) (q1 : 0 ≤ sk ∧ sk ≤ 2) (q2 : 0 ≤ wo ∧ wo ≤ 4) :
    Calls Try.prog 24 #[.agg #[.int .i64 (4 : Int), .int .i64 st, .int .i64 sk, .int .i64 wo]] w fun e w' => e = .returned (.bool true) ∧ Below w.heap.size w w' := by
  go_enter Try.func24, Try.ntmps24
  go_wp2_with fail
  refine (within_i64_t _ _ _ _ q0.1 q0.2).mono ?_; rintro e w' ⟨rfl, rfl⟩
  go_wp2_with fail
  refine (within_i64_t _ _ _ _ q1.1 q1.2).mono ?_; rintro e w' ⟨rfl, rfl⟩
  go_wp2_with fail
  refine (within_i64_t _ _ _ _ q2.1 q2.2).mono ?_; rintro e w' ⟨rfl, rfl⟩
  go_wp2
  go_ret
  exact ⟨rfl, (Below.refl _ _).alloc (Nat.le_refl _) _⟩
set_option maxHeartbeats 1000000 in
theorem implValidLink_e0 (ph st sk wo : Int) (w : World) (z2 : (ph == 2) = false) (z4 : (ph == 4) = false) :
    Calls Try.prog 24 #[.agg #[.int .i64 ph, .int .i64 st, .int .i64 sk, .int .i64 wo]] w fun e w' => e = .returned (.bool false) ∧ Below w.heap.size w w' := by
  go_enter Try.func24, Try.ntmps24
  go_wp2
  go_ret
  exact ⟨rfl, (Below.refl _ _).alloc (Nat.le_refl _) _⟩
theorem l05Link_any (ph st sk wo : Int) (a : Nat) (w : World) (h0 : w.cell? ⟨a, 0, none⟩ = some (.int .i64 ph)) (h1 : w.cell? ⟨a, 1, none⟩ = some (.int .i64 st)) (h2 : w.cell? ⟨a, 2, none⟩ = some (.int .i64 sk)) (h3 : w.cell? ⟨a, 3, none⟩ = some (.int .i64 wo)) :
    Calls Try.prog 43 #[.pointer (some ⟨a, 0, none⟩)] w fun e w' => e = .returned (.bool (validLinkB ph st sk wo)) ∧ ∃ q, w' = w.drewN q := by
  by_cases g2 : ph = 2
  · subst g2
    by_cases n0 : ¬ (0 ≤ st ∧ st ≤ 2)
    · have q0 := n0
      rw [validLinkB_f (by omega)]; exact l05Link_e2_0 st sk wo a w q0 h0 h1 h2 h3
    have q0 := Decidable.not_not.1 n0
    by_cases n1 : ¬ (0 ≤ sk ∧ sk ≤ 2)
    · have q1 := n1
      rw [validLinkB_f (by omega)]; exact l05Link_e2_1 st sk wo a w q0 q1 h0 h1 h2 h3
    have q1 := Decidable.not_not.1 n1
    by_cases n2 : ¬ (0 ≤ wo ∧ wo ≤ 4)
    · have q2 := n2
      rw [validLinkB_f (by omega)]; exact l05Link_e2_2 st sk wo a w q0 q1 q2 h0 h1 h2 h3
    have q2 := Decidable.not_not.1 n2
    rw [validLinkB_t (by omega)]; exact l05Link_e2_3 st sk wo a w q0 q1 q2 h0 h1 h2 h3
  · by_cases g4 : ph = 4
    · subst g4
      by_cases n0 : ¬ (0 ≤ st ∧ st ≤ 2)
      · have q0 := n0
        rw [validLinkB_f (by omega)]; exact l05Link_e4_0 st sk wo a w q0 h0 h1 h2 h3
      have q0 := Decidable.not_not.1 n0
      by_cases n1 : ¬ (0 ≤ sk ∧ sk ≤ 2)
      · have q1 := n1
        rw [validLinkB_f (by omega)]; exact l05Link_e4_1 st sk wo a w q0 q1 h0 h1 h2 h3
      have q1 := Decidable.not_not.1 n1
      by_cases n2 : ¬ (0 ≤ wo ∧ wo ≤ 4)
      · have q2 := n2
        rw [validLinkB_f (by omega)]; exact l05Link_e4_2 st sk wo a w q0 q1 q2 h0 h1 h2 h3
      have q2 := Decidable.not_not.1 n2
      rw [validLinkB_t (by omega)]; exact l05Link_e4_3 st sk wo a w q0 q1 q2 h0 h1 h2 h3
    · rw [validLinkB_f (by omega)]; exact l05Link_e0 ph st sk wo a w (beq_eq_false_iff_ne.2 g2) (beq_eq_false_iff_ne.2 g4) h0 h1 h2 h3
theorem implValidLink_any (ph st sk wo : Int) (w : World) :
    Calls Try.prog 24 #[.agg #[.int .i64 ph, .int .i64 st, .int .i64 sk, .int .i64 wo]] w fun e w' => e = .returned (.bool (validLinkB ph st sk wo)) ∧ Below w.heap.size w w' := by
  by_cases g2 : ph = 2
  · subst g2
    by_cases n0 : ¬ (0 ≤ st ∧ st ≤ 2)
    · have q0 := n0
      rw [validLinkB_f (by omega)]; exact implValidLink_e2_0 st sk wo w q0
    have q0 := Decidable.not_not.1 n0
    by_cases n1 : ¬ (0 ≤ sk ∧ sk ≤ 2)
    · have q1 := n1
      rw [validLinkB_f (by omega)]; exact implValidLink_e2_1 st sk wo w q0 q1
    have q1 := Decidable.not_not.1 n1
    by_cases n2 : ¬ (0 ≤ wo ∧ wo ≤ 4)
    · have q2 := n2
      rw [validLinkB_f (by omega)]; exact implValidLink_e2_2 st sk wo w q0 q1 q2
    have q2 := Decidable.not_not.1 n2
    rw [validLinkB_t (by omega)]; exact implValidLink_e2_3 st sk wo w q0 q1 q2
  · by_cases g4 : ph = 4
    · subst g4
      by_cases n0 : ¬ (0 ≤ st ∧ st ≤ 2)
      · have q0 := n0
        rw [validLinkB_f (by omega)]; exact implValidLink_e4_0 st sk wo w q0
      have q0 := Decidable.not_not.1 n0
      by_cases n1 : ¬ (0 ≤ sk ∧ sk ≤ 2)
      · have q1 := n1
        rw [validLinkB_f (by omega)]; exact implValidLink_e4_1 st sk wo w q0 q1
      have q1 := Decidable.not_not.1 n1
      by_cases n2 : ¬ (0 ≤ wo ∧ wo ≤ 4)
      · have q2 := n2
        rw [validLinkB_f (by omega)]; exact implValidLink_e4_2 st sk wo w q0 q1 q2
      have q2 := Decidable.not_not.1 n2
      rw [validLinkB_t (by omega)]; exact implValidLink_e4_3 st sk wo w q0 q1 q2
    · rw [validLinkB_f (by omega)]; exact implValidLink_e0 ph st sk wo w (beq_eq_false_iff_ne.2 g2) (beq_eq_false_iff_ne.2 g4)

theorem specValidLink_any (ph st sk wo : Int) (w : World) :
    Calls Try.prog 22 #[.agg #[.int .i64 ph, .int .i64 st, .int .i64 sk, .int .i64 wo]] w fun e w' => e = .returned (.bool (validLinkB ph st sk wo)) ∧ Below w.heap.size w w' := by
  go_enter Try.func22, Try.ntmps22
  go_wp2_with fail
  refine (l05Link_any ph st sk wo _ _ (by simp [go_sem]) (by simp [go_sem]) (by simp [go_sem]) (by simp [go_sem])).mono ?_; rintro e w' ⟨rfl, q, rfl⟩
  go_wp2
  go_ret
  exact ⟨rfl, below_drawnv ((Below.refl _ _).alloc (Nat.le_refl _) _) _⟩

theorem toLink_any (ph st sk wo : Int) (w : World) :
    Calls Try.prog 23 #[.agg #[.int .i64 ph, .int .i64 st, .int .i64 sk, .int .i64 wo]] w fun e w' => e = .returned (.agg #[.int .i64 ph, .int .i64 st, .int .i64 sk, .int .i64 wo]) ∧ Below w.heap.size w w' := by
  go_enter Try.func23, Try.ntmps23
  go_wp2
  refine bodyPost_ret (v := .agg #[.int .i64 ph, .int .i64 st, .int .i64 sk, .int .i64 wo]) (by simp [results, Try.results23, go_sem]) rfl ⟨rfl, ?_⟩
  exact (((Below.refl _ _).alloc (Nat.le_refl _) _).alloc (by simp) _).alloc (by simp; omega) _

theorem walk_FnExactValidLink (ph st sk wo : Int) (w : World) (_w0 : (Lit.int .i64 ph).wf = true) (_w1 : (Lit.int .i64 st).wf = true) (_w2 : (Lit.int .i64 sk).wf = true) (_w3 : (Lit.int .i64 wo).wf = true) :
    Calls Try.prog 7 #[.agg #[.int .i64 ph, .int .i64 st, .int .i64 sk, .int .i64 wo]] w fun e w' => e = .returned (.bool true) ∧ Below w.heap.size w w' := by
  go_enter Try.func7, Try.ntmps7
  go_wp2_with fail
  refine (toLink_any _ _ _ _ _).mono ?_; rintro e w1 ⟨rfl, hb1⟩
  go_wp2_with fail
  refine (specValidLink_any _ _ _ _ _).mono ?_; rintro e w2 ⟨rfl, hb2⟩
  have hb := hb1.trans (hb2.mono hb1.size)
  obtain ⟨hc, hf⟩ := bcell hb
  go_wp2_with fail
  refine (toLink_any _ _ _ _ _).mono ?_; rintro e w3 ⟨rfl, hb3⟩
  go_wp2_with fail
  refine (implValidLink_any _ _ _ _ _).mono ?_; rintro e w4 ⟨rfl, hb4⟩
  go_wp2
  go_ret
  exact ⟨rfl, ((Below.refl _ _).alloc (Nat.le_refl _) _).trans (((hb.trans (hb3.mono hb.size)).trans (hb4.mono (Nat.le_trans hb.size hb3.size))).mono (by simp))⟩
end Go.Proofs.Ytomdoamfdidghaa
