/- Whether a pulse of an output is just a pulse of a clock: the program's test of two pulses. -/
import Derived.Test.YtlobloaabghceaaPulI
import Derived.BigQuiet
import Derived.Deep.QuietTactic
namespace Go.Proofs.Ytlobloaabghceaa
open Go.RowKit Go.Shelf
set_option linter.unusedVariables false
set_option linter.unusedSimpArgs false

theorem below_drewN2 {B : Nat} {w w' : World} (n : Nat) (h : Below B w w') : Below B w (w'.drewN n) := ⟨h.os, h.tape, h.output, h.size, h.block⟩
def pulA (f t : Int) (o : Bool) : Value := .agg #[.int .i64 f, .int .i64 t, .bool o]
def matB (f t : Int) (o : Bool) (f2 t2 : Int) (o2 : Bool) : Bool := (decide (f = f2) && (decide (t = t2) && (o == o2))) || (o && decide (f = f2))
set_option maxHeartbeats 4000000 in
set_option maxRecDepth 100000 in
theorem matches_any (f t : Int) (o : Bool) (f2 t2 : Int) (o2 : Bool) (w : World) :
    Calls Try.prog 30 #[.agg #[.int .i64 f, .int .i64 t, .bool o], .agg #[.int .i64 f2, .int .i64 t2, .bool o2]] w fun e w' => e = .returned (.bool (matB f t o f2 t2 o2)) ∧ Below w.heap.size w w' := by
  by_cases hf : f = f2
  · subst hf
    by_cases ht : t = t2
    · subst ht
      cases o <;> cases o2
      all_goals
        simp only [matB, decide_true, Bool.and_true, Bool.true_and, Bool.or_false, Bool.false_and, beq_self_eq_true, Bool.or_true, Bool.true_or]
        go_enter Try.func30, Try.ntmps30
        go_wp2
        try go_quiet (fail)
        try go_wp2
        go_ret
        exact ⟨rfl, by first | exact ((Below.refl _ _).alloc (Nat.le_refl _) _).alloc (by simp) _ | exact below_drewN2 _ (((Below.refl _ _).alloc (Nat.le_refl _) _).alloc (by simp) _)⟩
    · have h1 : decide (t = t2) = false := by simp [ht]
      have h2 : (t == t2) = false := by simp [ht]
      cases o <;> cases o2
      all_goals
        simp only [matB, h1, decide_true, Bool.and_true, Bool.true_and, Bool.or_false, Bool.false_and, Bool.and_false, beq_self_eq_true, Bool.or_true, Bool.true_or, Bool.or_self]
        go_enter Try.func30, Try.ntmps30
        go_wp2
        try go_quiet (fail)
        try go_wp2
        go_ret
        exact ⟨rfl, by first | exact ((Below.refl _ _).alloc (Nat.le_refl _) _).alloc (by simp) _ | exact below_drewN2 _ (((Below.refl _ _).alloc (Nat.le_refl _) _).alloc (by simp) _)⟩
  · have h1 : decide (f = f2) = false := by simp [hf]
    have h2 : (f == f2) = false := by simp [hf]
    have hm : matB f t o f2 t2 o2 = false := by simp [matB, h1]
    rw [hm]
    cases o
    all_goals
        go_enter Try.func30, Try.ntmps30
        go_wp2
        try go_quiet (fail)
        try go_wp2
        go_ret
        exact ⟨rfl, by first | exact ((Below.refl _ _).alloc (Nat.le_refl _) _).alloc (by simp) _ | exact below_drewN2 _ (((Below.refl _ _).alloc (Nat.le_refl _) _).alloc (by simp) _)⟩
end Go.Proofs.Ytlobloaabghceaa
