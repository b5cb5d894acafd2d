/- The walk of a law: the chance of failing is the same on both sides. -/
import Derived.Test.YtomdoamfdidghaaFail
namespace Go.Proofs.Ytomdoamfdidghaa
open Go.RowKit
set_option linter.unusedVariables false

set_option maxHeartbeats 1000000 in
set_option maxRecDepth 100000 in
theorem walk_FnExactFailChance (n d M : Int) (w : World) (_wn : (Lit.int .i64 n).wf = true) (_wd : (Lit.int .i64 d).wf = true) (_wM : (Lit.int .i64 M).wf = true) :
    Calls Try.prog 3 #[.agg #[.int .i64 n, .int .i64 d], .int .i64 M] w fun e w' => e = .returned (.bool true) ∧ Below w.heap.size w w' := by
  obtain ⟨R, Q, c, hS, hI⟩ : ∃ (R Q : Int) (c : Bool), (∀ w, Calls Try.prog 9 #[.agg #[.int .i64 n, .int .i64 d], .int .i64 M] w fun e w' => e = .returned (.tuple #[.agg #[.int .i64 R, .int .i64 Q], .bool c]) ∧ Below w.heap.size w w') ∧ (∀ w, Calls Try.prog 11 #[.agg #[.int .i64 n, .int .i64 d], .int .i64 M] w fun e w' => e = .returned (.tuple #[.agg #[.int .i64 R, .int .i64 Q], .bool c]) ∧ Below w.heap.size w w') := by
    cases hg : fracB n d with
    | false => exact ⟨_, _, _, fun w => specFail_i1 n d M w hg, fun w => implFail_i1 n d M w hg⟩
    | true =>
      by_cases h1 : n < 0
      · exact ⟨_, _, _, fun w => specFail_i2 n d M w hg h1, fun w => implFail_i2 n d M w hg h1⟩
      · by_cases h2 : d < n
        · exact ⟨_, _, _, fun w => specFail_i3 n d M w hg (by omega) h2, fun w => implFail_i3 n d M w hg (by omega) h2⟩
        · by_cases h3 : M < 0 ∨ 16 < M
          · exact ⟨_, _, _, fun w => specFail_i4 n d M w hg (by omega) (by omega) h3, fun w => implFail_i4 n d M w hg (by omega) (by omega) h3⟩
          · obtain ⟨s, rfl⟩ := Int.eq_ofNat_of_zero_le (show 0 ≤ M by omega)
            obtain ⟨R, Q, c, hr⟩ := pow_ex n d s
            exact ⟨_, _, _, fun w => specFail_t n d s R Q c w hg (by omega) (by omega) (by omega) hr, fun w => implFail_t n d s R Q c w hg (by omega) (by omega) (by omega) hr⟩
  have HS := Lib.hid hS
  have HI := Lib.hid hI
  clear hS hI
  go_enter Try.func3, Try.ntmps3
  go_wp2_with fail
  refine (toFraction_any _ _ _).mono ?_; rintro e wa ⟨rfl, ba⟩
  have a0 := cell_kept ba (a := ⟨w.heap.size, 0, none⟩) (v := .int .i64 n) (by simp [go_sem])
  have a1 := cell_kept ba (a := ⟨w.heap.size, 1, none⟩) (v := .int .i64 d) (by simp [go_sem])
  have BA := Lib.hid (((Below.refl w.heap.size w).alloc (Nat.le_refl _) _).trans (ba.mono (by simp)))
  clear ba
  go_wp2_with fail
  refine (HS.out _).mono ?_; rintro e w1 ⟨rfl, b1⟩
  have c0 := cell_alloc_kept (o := .cells #[.int .i64 R, .int .i64 Q] 24) (cell_kept b1 a0)
  have c1 := cell_alloc_kept (o := .cells #[.int .i64 R, .int .i64 Q] 24) (cell_kept b1 a1)
  have B1 := Lib.hid ((BA.out.trans (b1.mono BA.out.size)).alloc (Nat.le_trans BA.out.size b1.size) (.cells #[.int .i64 R, .int .i64 Q] 24))
  clear a0 a1 b1
  go_wp2_with fail
  refine (toFraction_any _ _ _).mono ?_; rintro e wb ⟨rfl, bb⟩
  have a0 := cell_kept bb c0
  have a1 := cell_kept bb c1
  have o0 := cell_kept bb (a := ⟨w1.heap.size, 0, none⟩) (v := .int .i64 R) (by simp [go_sem])
  have o1 := cell_kept bb (a := ⟨w1.heap.size, 1, none⟩) (v := .int .i64 Q) (by simp [go_sem])
  have BB := Lib.hid (B1.out.trans (bb.mono B1.out.size))
  clear c0 c1 bb
  go_wp2_with fail
  refine (HI.out _).mono ?_; rintro e w2 ⟨rfl, b2⟩
  have p0 := cell_alloc_kept (o := .cells #[.int .i64 R, .int .i64 Q] 24) (cell_kept b2 o0)
  have p1 := cell_alloc_kept (o := .cells #[.int .i64 R, .int .i64 Q] 24) (cell_kept b2 o1)
  have B2 := Lib.hid ((BB.out.trans (b2.mono BB.out.size)).alloc (Nat.le_trans BB.out.size b2.size) (.cells #[.int .i64 R, .int .i64 Q] 24))
  clear a0 a1 o0 o1 b2
  go_wp2_with fail
  refine (eqFraction_same _ _ _).mono ?_; rintro e w3 ⟨rfl, b3⟩
  go_wp2
  go_ret
  exact ⟨rfl, B2.out.trans (b3.mono B2.out.size)⟩
end Go.Proofs.Ytomdoamfdidghaa
