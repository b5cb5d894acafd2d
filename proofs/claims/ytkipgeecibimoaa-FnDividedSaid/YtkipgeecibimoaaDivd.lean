/- The walk of a law: a divider is valid on both sides or on none. -/
import Derived.Test.YtkipgeecibimoaaIn64
import Derived.BigQuiet
import Derived.Deep.QuietTactic
namespace Go.Proofs.Ytkipgeecibimoaa
open Go.RowKit

def dvdB (b h : Int) : Bool := decide (1 ≤ b ∧ b ≤ 64 ∧ 0 ≤ h ∧ h ≤ b)
theorem dvdB_t {b h : Int} (k : 1 ≤ b ∧ b ≤ 64 ∧ 0 ≤ h ∧ h ≤ b) : dvdB b h = true := by unfold dvdB; rw [decide_eq_true_eq]; exact k
theorem dvdB_f {b h : Int} (k : ¬ (1 ≤ b ∧ b ≤ 64 ∧ 0 ≤ h ∧ h ≤ b)) : dvdB b h = false := by unfold dvdB; rw [decide_eq_false_iff_not]; exact k

theorem quiet_eqd {P : Program} {f : FuncId} {args : Array Value} {w : World} {n : Nat} {v : Value}
    (h : Calls P f args (w.drewN n) fun e w' => e = .returned v ∧ w.drewN n = w') : Calls P f args (w.drewN n) fun e w'' => e = .returned v ∧ ∃ m, w'' = w.drewN m :=
  h.mono fun _ _ ⟨he, hm⟩ => ⟨he, n, hm.symm⟩
theorem below_drawn {B : Nat} {a w : World} (h : Below B a w) (n : Nat) : Below B a (w.drewN n) := ⟨h.os, h.tape, h.output, h.size, h.block⟩

theorem implDivider (b h : Int) (w : World) :
    Calls Try.prog 61 #[.agg #[.int .i64 b, .int .i64 h]] w fun e w' => e = .returned (.bool (dvdB b h)) ∧ Below w.heap.size w w' := by
  by_cases k1 : 1 ≤ b ∧ b ≤ 64
  · by_cases k2 : 0 ≤ h ∧ h ≤ b
    · rw [dvdB_t ⟨k1.1, k1.2, k2.1, k2.2⟩]
      go_enter Try.func61, Try.ntmps61
      go_wp2_with fail
      refine (within_i64_t _ _ _ _ k1.1 k1.2).mono ?_; rintro e w' ⟨rfl, rfl⟩
      go_wp2_with fail
      refine (within_i64_t _ _ _ _ k2.1 k2.2).mono ?_; rintro e w' ⟨rfl, rfl⟩
      go_wp2
      go_ret
      exact ⟨rfl, (Below.refl _ _).alloc (Nat.le_refl _) _⟩
    · rw [dvdB_f (by omega)]
      go_enter Try.func61, Try.ntmps61
      go_wp2_with fail
      refine (within_i64_t _ _ _ _ k1.1 k1.2).mono ?_; rintro e w' ⟨rfl, rfl⟩
      go_wp2_with fail
      refine (within_i64_f _ _ _ _ (by omega)).mono ?_; rintro e w' ⟨rfl, rfl⟩
      go_wp2
      go_ret
      exact ⟨rfl, (Below.refl _ _).alloc (Nat.le_refl _) _⟩
  · rw [dvdB_f (by omega)]
    go_enter Try.func61, Try.ntmps61
    go_wp2_with fail
    refine (within_i64_f _ _ _ _ (by omega)).mono ?_; rintro e w' ⟨rfl, rfl⟩
    go_wp2
    go_ret
    exact ⟨rfl, (Below.refl _ _).alloc (Nat.le_refl _) _⟩

end Go.Proofs.Ytkipgeecibimoaa
