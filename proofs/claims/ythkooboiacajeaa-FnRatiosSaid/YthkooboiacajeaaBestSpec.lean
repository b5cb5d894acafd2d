/- The nearest ratio, on the side of the model. -/
import Derived.Test.YthkooboiacajeaaBestNear
namespace Go.Proofs.Ythkooboiacajeaa
open Go.RowKit
set_option linter.unusedVariables false

theorem implGoal_c (n d : Int) (b : Bool) (w : World) (h : goalB n d = b) :
    Calls Try.prog 20 #[.agg #[.int .i64 n, .int .i64 d]] w fun e w' => e = .returned (.bool b) ∧ Below w.heap.size w w' := by
  rw [← h]; exact implGoal n d w
theorem mk_low (a b : Nat) (hb : 0 < b) (hg : Nat.gcd a b = 1) : mkN (a : Int) (b : Int) = (a : Int) ∧ mkD (a : Int) (b : Int) = (b : Int) := by
  have e : Int.gcd (a : Int) (b : Int) = 1 := hg
  obtain ⟨m1, m2⟩ := mk_pos (a : Int) (b : Int) (by omega)
  rw [m1, m2, e]
  exact ⟨by simp, by simp⟩
/-- behind i of the two candidates -/
def hsB (N D : Nat) (s : Nat × Nat) (d : Nat) : Nat → Nat × Nat
  | 0 => s
  | 1 => stB2 N D s (N * d / D) d
  | _ => stB2 N D (stB2 N D s (N * d / D) d) (N * d / D + 1) d
theorem hsB_next (N D : Nat) (s : Nat × Nat) (d i x : Nat) (hi : i < 2) (hx : x = N * d / D + i) : hsB N D s d (i + 1) = stB2 N D (hsB N D s d i) x d := by
  have : i = 0 ∨ i = 1 := by omega
  rcases this with rfl | rfl
  · rw [hx]; rfl
  · rw [hx]; rfl
theorem hs_bnd (N D : Nat) (s : Nat × Nat) (d i M : Nat) (hD : 0 < D) (hN : N ≤ 1000 * D) (hs : s.1 ≤ 1001 * M ∧ 0 < s.2 ∧ s.2 ≤ M) (hd : 0 < d) (hd2 : d ≤ M) : (hsB N D s d i).1 ≤ 1001 * M ∧ 0 < (hsB N D s d i).2 ∧ (hsB N D s d i).2 ≤ M := by
  have hc := cand_bnd N D d M hD hN hd2
  have h1 := st_bnd N D s (N * d / D) d M hs (by omega) hd hd2
  match i with
  | 0 => exact hs
  | 1 => exact h1
  | i + 2 => exact st_bnd N D _ (N * d / D + 1) d M h1 (by omega) hd hd2

end Go.Proofs.Ythkooboiacajeaa
