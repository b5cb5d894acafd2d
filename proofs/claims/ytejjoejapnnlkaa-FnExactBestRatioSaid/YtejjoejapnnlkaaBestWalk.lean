/- The walk of a law: the nearest ratio is the same on both sides. -/
import Derived.Test.YtejjoejapnnlkaaBestImpl
namespace Go.Proofs.Ytejjoejapnnlkaa
open Go.RowKit
set_option linter.unusedVariables false

set_option maxRecDepth 100000 in
theorem specBest_f (n d M : Int) (w : World) (h : goalB n d = false ∨ M < 1 ∨ 10000 < M) :
    Calls Try.prog 35 #[.agg #[.int .i64 n, .int .i64 d], .int .i64 M] w fun e w' => e = .returned (.tuple #[.agg #[.int .i64 0, .int .i64 0], .bool false]) ∧ Below w.heap.size w w' := by
  cases hg : goalB n d with
  | false =>
    have HG := Lib.hid hg
    clear hg h
    go_enter Try.func35, Try.ntmps35
    go_wp2_with fail
    refine (specGoal_c _ _ false _ HG.out).mono ?_; rintro e w1 ⟨rfl, hb1⟩
    have P1 := (At2.new (w.alloc (.cells #[.int .i64 n, .int .i64 d] 35)) (.int .i64 0) (.int .i64 0) 35).below hb1 (by simp)
    simp only [World.size_alloc] at P1
    have HB1 := Lib.hid ((((Below.refl w.heap.size w).alloc (Nat.le_refl _) _).alloc (by simp) _).trans (hb1.mono (by simp; omega)))
    have q0 := Lib.hid (P1.set0 (.int .i64 0)).1
    have q1 := Lib.hid ((P1.set0 (.int .i64 0)).set1 (.int .i64 0)).2.1
    obtain ⟨p0, p1, p2, p3⟩ := P1
    clear hb1
    go_wp2
    try rw [Exit.noGoto_ret]
    refine bodyPost_ret (v := .tuple #[.agg #[.int .i64 0, .int .i64 0], .bool false]) (by simp [results, Try.results35, go_sem, q0.out, q1.out]) rfl ⟨rfl, ?_⟩
    exact (HB1.out.setCell (by simp) _).setCell (by simp) _
  | true =>
    have HG := Lib.hid hg
    have h := h.resolve_left (by rw [hg]; simp)
    clear hg
    go_enter Try.func35, Try.ntmps35
    go_wp2_with fail
    refine (specGoal_c _ _ true _ HG.out).mono ?_; rintro e w1 ⟨rfl, hb1⟩
    have P1 := (At2.new (w.alloc (.cells #[.int .i64 n, .int .i64 d] 35)) (.int .i64 0) (.int .i64 0) 35).below hb1 (by simp)
    simp only [World.size_alloc] at P1
    have HB1 := Lib.hid ((((Below.refl w.heap.size w).alloc (Nat.le_refl _) _).alloc (by simp) _).trans (hb1.mono (by simp; omega)))
    have q0 := Lib.hid (P1.set0 (.int .i64 0)).1
    have q1 := Lib.hid ((P1.set0 (.int .i64 0)).set1 (.int .i64 0)).2.1
    obtain ⟨p0, p1, p2, p3⟩ := P1
    clear hb1
    go_wp2_with fail
    refine (l00In_f _ _ _ _ h).mono ?_; rintro e w' ⟨rfl, rfl⟩
    go_wp2
    try rw [Exit.noGoto_ret]
    refine bodyPost_ret (v := .tuple #[.agg #[.int .i64 0, .int .i64 0], .bool false]) (by simp [results, Try.results35, go_sem, q0.out, q1.out]) rfl ⟨rfl, ?_⟩
    exact (HB1.out.setCell (by simp) _).setCell (by simp) _
set_option maxRecDepth 100000 in
theorem implBest_f (n d M : Int) (w : World) (h : goalB n d = false ∨ M < 1 ∨ 10000 < M) :
    Calls Try.prog 36 #[.agg #[.int .i64 n, .int .i64 d], .int .i64 M] w fun e w' => e = .returned (.tuple #[.agg #[.int .i64 0, .int .i64 0], .bool false]) ∧ Below w.heap.size w w' := by
  cases hg : goalB n d with
  | false =>
    have HG := Lib.hid hg
    clear hg h
    go_enter Try.func36, Try.ntmps36
    go_wp2
    go_step3
    go_wp2_with fail
    refine (implGoal_c _ _ false _ HG.out).mono ?_; rintro e w1 ⟨rfl, hb1⟩
    have P1 := (At2.new (w.alloc (.cells #[.int .i64 n, .int .i64 d] 35)) (.int .i64 0) (.int .i64 0) 35).below hb1 (by simp)
    simp only [World.size_alloc] at P1
    have HB1 := Lib.hid ((((Below.refl w.heap.size w).alloc (Nat.le_refl _) _).alloc (by simp) _).trans (hb1.mono (by simp; omega)))
    have q0 := Lib.hid (P1.set0 (.int .i64 0)).1
    have q1 := Lib.hid ((P1.set0 (.int .i64 0)).set1 (.int .i64 0)).2.1
    obtain ⟨p0, p1, p2, p3⟩ := P1
    clear hb1
    go_wp2
    try rw [Exit.noGoto_ret]
    refine bodyPost_ret (v := .tuple #[.agg #[.int .i64 0, .int .i64 0], .bool false]) (by simp [results, Try.results36, go_sem, q0.out, q1.out]) rfl ⟨rfl, ?_⟩
    exact (HB1.out.setCell (by simp) _).setCell (by simp) _
  | true =>
    have HG := Lib.hid hg
    have h := h.resolve_left (by rw [hg]; simp)
    clear hg
    go_enter Try.func36, Try.ntmps36
    go_wp2
    go_step3
    go_wp2_with fail
    refine (implGoal_c _ _ true _ HG.out).mono ?_; rintro e w1 ⟨rfl, hb1⟩
    have P1 := (At2.new (w.alloc (.cells #[.int .i64 n, .int .i64 d] 35)) (.int .i64 0) (.int .i64 0) 35).below hb1 (by simp)
    simp only [World.size_alloc] at P1
    have HB1 := Lib.hid ((((Below.refl w.heap.size w).alloc (Nat.le_refl _) _).alloc (by simp) _).trans (hb1.mono (by simp; omega)))
    have q0 := Lib.hid (P1.set0 (.int .i64 0)).1
    have q1 := Lib.hid ((P1.set0 (.int .i64 0)).set1 (.int .i64 0)).2.1
    obtain ⟨p0, p1, p2, p3⟩ := P1
    clear hb1
    go_wp2_with fail
    refine (within_i64_f _ _ _ _ h).mono ?_; rintro e w' ⟨rfl, rfl⟩
    go_wp2
    try rw [Exit.noGoto_ret]
    refine bodyPost_ret (v := .tuple #[.agg #[.int .i64 0, .int .i64 0], .bool false]) (by simp [results, Try.results36, go_sem, q0.out, q1.out]) rfl ⟨rfl, ?_⟩
    exact (HB1.out.setCell (by simp) _).setCell (by simp) _

set_option maxHeartbeats 1000000 in
set_option maxRecDepth 100000 in
theorem walk_FnExactBestRatio (n d M : Int) (w : World) (_wn : (Lit.int .i64 n).wf = true) (_wd : (Lit.int .i64 d).wf = true) (_wM : (Lit.int .i64 M).wf = true) :
    Calls Try.prog 11 #[.agg #[.int .i64 n, .int .i64 d], .int .i64 M] w fun e w' => e = .returned (.bool true) ∧ Below w.heap.size w w' := by
  obtain ⟨R, Q, c, hS, hI⟩ : ∃ (R Q : Int) (c : Bool), (∀ w, Calls Try.prog 35 #[.agg #[.int .i64 n, .int .i64 d], .int .i64 M] w fun e w' => e = .returned (.tuple #[.agg #[.int .i64 R, .int .i64 Q], .bool c]) ∧ Below w.heap.size w w') ∧ (∀ w, Calls Try.prog 36 #[.agg #[.int .i64 n, .int .i64 d], .int .i64 M] w fun e w' => e = .returned (.tuple #[.agg #[.int .i64 R, .int .i64 Q], .bool c]) ∧ Below w.heap.size w w') := by
    by_cases h : goalB n d = true ∧ 1 ≤ M ∧ M ≤ 10000
    · obtain ⟨h1, h2, h3⟩ := h
      obtain ⟨-, g1, g2, g3, g4, -⟩ := goalB_parts h1
      obtain ⟨a, rfl⟩ := Int.eq_ofNat_of_zero_le g3
      obtain ⟨b, rfl⟩ := Int.eq_ofNat_of_zero_le (show 0 ≤ d by omega)
      obtain ⟨m, rfl⟩ := Int.eq_ofNat_of_zero_le (show 0 ≤ M by omega)
      exact ⟨_, _, _, fun w => specBest_t a b m w h1 (by omega) (by omega), fun w => implBest_t a b m w h1 (by omega) (by omega)⟩
    · have h' : goalB n d = false ∨ M < 1 ∨ 10000 < M := by
        cases hg : goalB n d with
        | false => exact .inl rfl
        | true =>
          right
          by_cases k : M < 1 ∨ 10000 < M
          · exact k
          · exact absurd ⟨hg, by omega, by omega⟩ h
      exact ⟨_, _, _, fun w => specBest_f n d M w h', fun w => implBest_f n d M w h'⟩
  have HS := Lib.hid hS
  have HI := Lib.hid hI
  clear hS hI
  go_enter Try.func11, Try.ntmps11
  go_wp2_with fail
  refine (toFraction_any _ _ _).mono ?_; rintro e wa ⟨rfl, ba⟩
  have a0 := cell_kept ba (a := ⟨w.heap.size, 0, none⟩) (v := .int .i64 n) (by simp [go_sem])
  have a1 := cell_kept ba (a := ⟨w.heap.size, 1, none⟩) (v := .int .i64 d) (by simp [go_sem])
  have BA := Lib.hid (((Below.refl w.heap.size w).alloc (Nat.le_refl _) _).trans (ba.mono (by simp)))
  clear ba
  go_wp2_with fail
  refine (HS.out _).mono ?_; rintro e w1 ⟨rfl, b1⟩
  have c0 := cell_alloc_kept (o := .cells #[.int .i64 R, .int .i64 Q] 35) (cell_kept b1 a0)
  have c1 := cell_alloc_kept (o := .cells #[.int .i64 R, .int .i64 Q] 35) (cell_kept b1 a1)
  have B1 := Lib.hid ((BA.out.trans (b1.mono BA.out.size)).alloc (Nat.le_trans BA.out.size b1.size) (.cells #[.int .i64 R, .int .i64 Q] 35))
  clear a0 a1 b1
  go_wp2_with fail
  refine (toFraction_any _ _ _).mono ?_; rintro e wb ⟨rfl, bb⟩
  have a0 := cell_kept bb c0
  have a1 := cell_kept bb c1
  have o0 := cell_kept bb (a := ⟨w1.heap.size, 0, none⟩) (v := .int .i64 R) (by simp [go_sem])
  have o1 := cell_kept bb (a := ⟨w1.heap.size, 1, none⟩) (v := .int .i64 Q) (by simp [go_sem])
  have BB := Lib.hid (B1.out.trans (bb.mono B1.out.size))
  clear c0 c1 bb
  go_wp2_with fail
  refine (HI.out _).mono ?_; rintro e w2 ⟨rfl, b2⟩
  have p0 := cell_alloc_kept (o := .cells #[.int .i64 R, .int .i64 Q] 35) (cell_kept b2 o0)
  have p1 := cell_alloc_kept (o := .cells #[.int .i64 R, .int .i64 Q] 35) (cell_kept b2 o1)
  have B2 := Lib.hid ((BB.out.trans (b2.mono BB.out.size)).alloc (Nat.le_trans BB.out.size b2.size) (.cells #[.int .i64 R, .int .i64 Q] 35))
  clear a0 a1 o0 o1 b2
  go_wp2_with fail
  refine (eqFraction_same _ _ _).mono ?_; rintro e w3 ⟨rfl, b3⟩
  go_wp2
  go_ret
  exact ⟨rfl, B2.out.trans (b3.mono B2.out.size)⟩
end Go.Proofs.Ytejjoejapnnlkaa
