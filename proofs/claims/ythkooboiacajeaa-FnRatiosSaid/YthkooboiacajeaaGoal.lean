/- Is a fraction a goal, on both sides. -/
import Derived.Test.YthkooboiacajeaaFrac
namespace Go.Proofs.Ythkooboiacajeaa
open Go.RowKit

def goalB (n d : Int) : Bool := fracB n d && decide (d ≤ 1000000 ∧ 0 ≤ n ∧ n ≤ 1000 * d)
theorem fracB_parts {n d : Int} (h : fracB n d = true) : 1 ≤ d ∧ d ≤ 1000000000000000000 ∧ -1000000000000000000 ≤ n ∧ n ≤ 1000000000000000000 ∧ Int.gcd n d = 1 := by
  unfold fracB at h; exact of_decide_eq_true h
theorem goalB_parts {n d : Int} (h : goalB n d = true) : fracB n d = true ∧ 1 ≤ d ∧ d ≤ 1000000 ∧ 0 ≤ n ∧ n ≤ 1000 * d ∧ Int.gcd n d = 1 := by
  unfold goalB at h
  rw [Bool.and_eq_true, decide_eq_true_eq] at h
  have := fracB_parts h.1
  exact ⟨h.1, this.1, h.2.1, h.2.2.1, h.2.2.2, this.2.2.2.2⟩
theorem goalB_no {n d : Int} (h : fracB n d = false) : goalB n d = false := by unfold goalB; rw [h]; rfl
theorem goalB_t {n d : Int} (h : fracB n d = true) (k : d ≤ 1000000 ∧ 0 ≤ n ∧ n ≤ 1000 * d) : goalB n d = true := by
  unfold goalB; rw [h, Bool.true_and, decide_eq_true_eq]; exact k
theorem goalB_f {n d : Int} (h : fracB n d = true) (k : ¬ (d ≤ 1000000 ∧ 0 ≤ n ∧ n ≤ 1000 * d)) : goalB n d = false := by
  unfold goalB; rw [h, Bool.true_and, decide_eq_false_iff_not]; exact k

theorem implValid_b (n d : Int) (b : Bool) (w : World) (h : fracB n d = b) :
    Calls Try.prog 10 #[.agg #[.int .i64 n, .int .i64 d]] w fun e w' => e = .returned (.bool b) ∧ Below w.heap.size w w' := by
  rw [← h]; exact implValid n d w

theorem implGoal (n d : Int) (w : World) :
    Calls Try.prog 20 #[.agg #[.int .i64 n, .int .i64 d]] w fun e w' => e = .returned (.bool (goalB n d)) ∧ Below w.heap.size w w' := by
  cases hb : fracB n d with
  | false =>
    rw [goalB_no hb]
    go_enter Try.func20, Try.ntmps20
    go_wp2_with fail
    refine (implValid_b n d false _ hb).mono ?_; rintro e w1 ⟨rfl, hb1⟩
    go_wp2
    go_ret
    exact ⟨rfl, ((Below.refl _ _).alloc (Nat.le_refl _) _).trans (hb1.mono (by simp))⟩
  | true =>
    obtain ⟨h1, h2, h3, h4, -⟩ := fracB_parts hb
    have hv : goalB n d = decide (d ≤ 1000000 ∧ 0 ≤ n ∧ n ≤ 1000 * d) := by unfold goalB; rw [hb, Bool.true_and]
    have HV := Lib.hid hv
    clear hv
    have HF := Lib.hid (fun w => implValid_b n d true w hb)
    clear hb
    by_cases k1 : d ≤ 1000000
    · have w1 : IntKind.i64.wrap (1000 * d) = 1000 * d := IntWalk.i64_in _ (by omega)
      by_cases k2 : 0 ≤ n ∧ n ≤ 1000 * d
      · go_enter Try.func20, Try.ntmps20
        go_wp2_with fail
        refine (HF.out _).mono ?_; rintro e w1 ⟨rfl, hb1⟩
        obtain ⟨hc, hf⟩ := bcell hb1
        go_wp2_with fail
        refine (within_i64_t _ _ _ _ k2.1 k2.2).mono ?_; rintro e w' ⟨rfl, rfl⟩
        go_wp2
        go_ret
        exact ⟨ret_bool (by rw [HV.out]; simp [k2, k1]), ((Below.refl _ _).alloc (Nat.le_refl _) _).trans (hb1.mono (by simp))⟩
      · go_enter Try.func20, Try.ntmps20
        go_wp2_with fail
        refine (HF.out _).mono ?_; rintro e w1 ⟨rfl, hb1⟩
        obtain ⟨hc, hf⟩ := bcell hb1
        go_wp2_with fail
        refine (within_i64_f _ _ _ _ (by omega)).mono ?_; rintro e w' ⟨rfl, rfl⟩
        go_wp2
        go_ret
        exact ⟨ret_bool (by rw [HV.out]; simp; intro _; omega), ((Below.refl _ _).alloc (Nat.le_refl _) _).trans (hb1.mono (by simp))⟩
    · go_enter Try.func20, Try.ntmps20
      go_wp2_with fail
      refine (HF.out _).mono ?_; rintro e w1 ⟨rfl, hb1⟩
      obtain ⟨hc, hf⟩ := bcell hb1
      go_wp2
      go_ret
      exact ⟨ret_bool (by rw [HV.out]; symm; rw [decide_eq_false_iff_not]; omega), ((Below.refl _ _).alloc (Nat.le_refl _) _).trans (hb1.mono (by simp))⟩
end Go.Proofs.Ythkooboiacajeaa
