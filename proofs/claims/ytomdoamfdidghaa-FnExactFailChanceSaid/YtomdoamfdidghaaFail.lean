/- The chance of failing with more stages, on both sides. -/
import Derived.Test.YtomdoamfdidghaaFMul
namespace Go.Proofs.Ytomdoamfdidghaa
open Go.RowKit
set_option linter.unusedVariables false

set_option maxHeartbeats 2000000 in
set_option maxRecDepth 100000 in
theorem specFail_t (p q : Int) (s : Nat) (R Q : Int) (c : Bool) (w : World) (hg : fracB p q = true) (hp : 0 ≤ p) (hpq : p ≤ q) (hs : s ≤ 16) (hres : Pow p q s R Q c) :
    Calls Try.prog 9 #[.agg #[.int .i64 p, .int .i64 q], .int .i64 (s : Int)] w fun e w' => e = .returned (.tuple #[.agg #[.int .i64 R, .int .i64 Q], .bool c]) ∧ Below w.heap.size w w' := by
  have PP := Lib.hid (At2.new w (.int .i64 p) (.int .i64 q) 24)
  have PR := Lib.hid (At2.new (w.alloc (.cells #[.int .i64 p, .int .i64 q] 24)) (.int .i64 0) (.int .i64 0) 24)
  have HG := Lib.hid hg
  have HRES := Lib.hid hres
  clear hg hres
  go_enter Try.func9, Try.ntmps9
  go_wp2_with fail
  refine (l01FIs_any p q _).mono ?_; rw [HG.out]; rintro e w1 ⟨rfl, hb1⟩
  have P1 := Lib.hid (((PP.out.alloc (.cells #[.int .i64 0, .int .i64 0] 24)).below hb1 (by simp; omega)))
  have P2 := Lib.hid (PR.out.below hb1 (by simp))
  have HB1 := Lib.hid ((((Below.refl w.heap.size w).alloc (Nat.le_refl _) (.cells #[.int .i64 p, .int .i64 q] 24)).alloc (by simp) (.cells #[.int .i64 0, .int .i64 0] 24)).trans (hb1.mono (by simp; omega)))
  have hs1 : w.heap.size + 1 < w1.heap.size := by have := hb1.size; simp at this; omega
  obtain ⟨c0, c1, -, -⟩ := P1.out
  clear hb1
  go_wp2_with fail
  refine (l00In_t _ _ _ _ (by omega) (by omega)).mono ?_; rintro e w' ⟨rfl, rfl⟩
  go_wp2
  go_loopw [1] (fun i wr => ∃ (j : Nat) (a b : Int), j ≤ s ∧ i = .int .i64 (((s - j : Nat)) : Int) ∧ powL p q j = some (a, b) ∧ fracB a b = true ∧ At2 wr w.heap.size (.int .i64 p) (.int .i64 q) ∧ At2 wr (w.heap.size + 1) (.int .i64 0) (.int .i64 0) ∧ At2 wr w1.heap.size (.int .i64 a) (.int .i64 b) ∧ Below w.heap.size w wr) (fun i _ => (intOf i).toNat)
  case atStart => exact ⟨0, 1, 1, Nat.zero_le _, by first | rfl | simp, rfl, frac_one, P1.out.alloc _, by have := P2.out.alloc (.cells #[.int .i64 1, .int .i64 1] 24); simpa using this, At2.new _ _ _ _, HB1.out.alloc (by omega) _⟩
  case round =>
    obtain ⟨j, a, b, hj, rfl, hpow, hval, p1, p2, p3, hb⟩ := hrel
    have HPOW := Lib.hid hpow
    have HVAL := Lib.hid hval
    have Q1 := Lib.hid p1
    have Q2 := Lib.hid p2
    have Q3 := Lib.hid p3
    have HB := Lib.hid hb
    have hsz := p3.lt
    obtain ⟨c0, c1, -, -⟩ := p1
    obtain ⟨d0, d1, -, -⟩ := p3
    clear hpow hval p2 hb
    by_cases hjs : j < s
    · have HSTEP := Lib.hid (powL_step p q j a b HPOW.out)
      cases hc : mulC a b p q with
      | true =>
        obtain ⟨N, hN⟩ : ∃ N, mulN a b p q = N := ⟨_, rfl⟩
        obtain ⟨D, hD⟩ : ∃ D, mulD a b p q = D := ⟨_, rfl⟩
        have HM := Lib.hid (fmul_any a b p q HVAL.out HG.out N D true (by rw [hc, hN]; rfl) (by rw [hc, hD]; rfl) hc.symm).1
        have HV2 := Lib.hid (mul_valid a b p q HVAL.out HG.out hc)
        rw [hN, hD] at HV2
        rw [hc, if_pos rfl, hN, hD] at HSTEP
        clear hN hD hc
        go_wp2_with fail
        refine (HM.out _).mono ?_; rintro e w2 ⟨rfl, hb2⟩
        have s2 := hb2.size
        have R1 := Lib.hid ((Q1.out.below hb2 Q1.out.lt).alloc (.cells #[.int .i64 N, .int .i64 D] 24))
        have R2 := Lib.hid ((Q2.out.below hb2 Q2.out.lt).alloc (.cells #[.int .i64 N, .int .i64 D] 24))
        have r3 := (Q3.out.below hb2 Q3.out.lt).alloc (.cells #[.int .i64 N, .int .i64 D] 24)
        have r4 := At2.new w2 (.int .i64 N) (.int .i64 D) 24
        have R3 := Lib.hid r3
        have HB2 := Lib.hid ((HB.out.trans (hb2.mono HB.out.size)).alloc (Nat.le_trans HB.out.size s2) (.cells #[.int .i64 N, .int .i64 D] 24))
        obtain ⟨e0, e1, e2, e3⟩ := r3
        obtain ⟨e4, e5, e6, e7⟩ := r4
        clear hb2 c0 c1 d0 d1
        go_wp2
        go_roundw
        case rel => exact ⟨j + 1, N, D, by omega, by go_num, HSTEP.out, HV2.out, (R1.out.set_ne (by omega) _ _).set_ne (by omega) _ _, (R2.out.set_ne (by omega) _ _).set_ne (by omega) _ _, (R3.out.set0 _).set1 _, (HB2.out.setCell (show w.heap.size ≤ w1.heap.size from by omega) _).setCell (show w.heap.size ≤ w1.heap.size from by omega) _⟩
        case measure => simp [intOf]; omega
      | false =>
        have HM := Lib.hid (fmul_any a b p q HVAL.out HG.out 0 0 false (by rw [hc]; rfl) (by rw [hc]; rfl) hc.symm).1
        rw [hc] at HSTEP
        have hnone := powL_none p q (j + 1) s (by omega) HSTEP.out
        have hr := HRES.out
        unfold Pow at hr
        rw [hnone] at hr
        obtain ⟨-, rfl, rfl, rfl⟩ := hr.resolve_left (by simp)
        clear hnone hr hc
        go_wp2_with fail
        refine (HM.out _).mono ?_; rintro e w2 ⟨rfl, hb2⟩
        have s2 := hb2.size
        have r2 := (Q2.out.below hb2 Q2.out.lt).alloc (.cells #[.int .i64 0, .int .i64 0] 24)
        have HB2 := Lib.hid ((HB.out.trans (hb2.mono HB.out.size)).alloc (Nat.le_trans HB.out.size s2) (.cells #[.int .i64 0, .int .i64 0] 24))
        have q0 := Lib.hid (r2.set0 (.int .i64 0)).1
        have q1 := Lib.hid ((r2.set0 (.int .i64 0)).set1 (.int .i64 0)).2.1
        obtain ⟨e0, e1, e2, e3⟩ := r2
        clear hb2 c0 c1 d0 d1
        go_wp2
        try rw [Exit.noGoto_ret]
        refine bodyPost_ret (v := .tuple #[.agg #[.int .i64 0, .int .i64 0], .bool false]) (by simp [results, Try.results9, go_sem, q0.out, q1.out]) rfl ⟨rfl, ?_⟩
        exact (HB2.out.setCell (show w.heap.size ≤ w.heap.size + 1 from by omega) _).setCell (show w.heap.size ≤ w.heap.size + 1 from by omega) _
    · obtain rfl : j = s := by omega
      have hr := HRES.out
      unfold Pow at hr
      rw [HPOW.out] at hr
      obtain ⟨hab, rfl⟩ := hr.resolve_right (by simp)
      simp only [Option.some.injEq, Prod.mk.injEq] at hab
      obtain ⟨rfl, rfl⟩ := hab
      have q0 := Lib.hid (Q2.out.set0 (.int .i64 a)).1
      have q1 := Lib.hid ((Q2.out.set0 (.int .i64 a)).set1 (.int .i64 b)).2.1
      obtain ⟨e0, e1, e2, e3⟩ := Q2.out
      obtain ⟨d0, d1, -, -⟩ := Q3.out
      clear hr c0 c1
      go_wp2
      try rw [Exit.noGoto_ret]
      refine bodyPost_ret (v := .tuple #[.agg #[.int .i64 a, .int .i64 b], .bool true]) (by simp [results, Try.results9, go_sem, q0.out, q1.out]) rfl ⟨rfl, ?_⟩
      exact (HB.out.setCell (show w.heap.size ≤ w.heap.size + 1 from by omega) _).setCell (show w.heap.size ≤ w.heap.size + 1 from by omega) _

set_option maxRecDepth 100000 in
theorem specFail_i1 (p q s : Int) (w : World) (hg : fracB p q = false) :
    Calls Try.prog 9 #[.agg #[.int .i64 p, .int .i64 q], .int .i64 s] w fun e w' => e = .returned (.tuple #[.agg #[.int .i64 0, .int .i64 0], .bool false]) ∧ Below w.heap.size w w' := by
  have PP := Lib.hid (At2.new w (.int .i64 p) (.int .i64 q) 24)
  have PR := Lib.hid (At2.new (w.alloc (.cells #[.int .i64 p, .int .i64 q] 24)) (.int .i64 0) (.int .i64 0) 24)
  have HG := Lib.hid hg
  clear hg
  go_enter Try.func9, Try.ntmps9
  go_wp2_with fail
  refine (l01FIs_any p q _).mono ?_; rw [HG.out]; rintro e w1 ⟨rfl, hb1⟩
  have P1 := Lib.hid (((PP.out.alloc (.cells #[.int .i64 0, .int .i64 0] 24)).below hb1 (by simp; omega)))
  have P2 := PR.out.below hb1 (by simp)
  simp only [World.size_alloc] at P2
  have HB1 := Lib.hid ((((Below.refl w.heap.size w).alloc (Nat.le_refl _) (.cells #[.int .i64 p, .int .i64 q] 24)).alloc (by simp) (.cells #[.int .i64 0, .int .i64 0] 24)).trans (hb1.mono (by simp; omega)))
  obtain ⟨c0, c1, -, -⟩ := P1.out
  have q0 := Lib.hid (P2.set0 (.int .i64 0)).1
  have q1 := Lib.hid ((P2.set0 (.int .i64 0)).set1 (.int .i64 0)).2.1
  obtain ⟨f0, f1, f2, f3⟩ := P2
  clear hb1
  go_wp2
  refine bodyPost_ret (v := .tuple #[.agg #[.int .i64 0, .int .i64 0], .bool false]) (by simp [results, Try.results9, go_sem, q0.out, q1.out]) rfl ⟨rfl, ?_⟩
  exact (HB1.out.setCell (by simp) _).setCell (by simp) _

set_option maxRecDepth 100000 in
theorem specFail_i2 (p q s : Int) (w : World) (hg : fracB p q = true) (hp : p < 0) :
    Calls Try.prog 9 #[.agg #[.int .i64 p, .int .i64 q], .int .i64 s] w fun e w' => e = .returned (.tuple #[.agg #[.int .i64 0, .int .i64 0], .bool false]) ∧ Below w.heap.size w w' := by
  have PP := Lib.hid (At2.new w (.int .i64 p) (.int .i64 q) 24)
  have PR := Lib.hid (At2.new (w.alloc (.cells #[.int .i64 p, .int .i64 q] 24)) (.int .i64 0) (.int .i64 0) 24)
  have HG := Lib.hid hg
  clear hg
  go_enter Try.func9, Try.ntmps9
  go_wp2_with fail
  refine (l01FIs_any p q _).mono ?_; rw [HG.out]; rintro e w1 ⟨rfl, hb1⟩
  have P1 := Lib.hid (((PP.out.alloc (.cells #[.int .i64 0, .int .i64 0] 24)).below hb1 (by simp; omega)))
  have P2 := PR.out.below hb1 (by simp)
  simp only [World.size_alloc] at P2
  have HB1 := Lib.hid ((((Below.refl w.heap.size w).alloc (Nat.le_refl _) (.cells #[.int .i64 p, .int .i64 q] 24)).alloc (by simp) (.cells #[.int .i64 0, .int .i64 0] 24)).trans (hb1.mono (by simp; omega)))
  obtain ⟨c0, c1, -, -⟩ := P1.out
  have q0 := Lib.hid (P2.set0 (.int .i64 0)).1
  have q1 := Lib.hid ((P2.set0 (.int .i64 0)).set1 (.int .i64 0)).2.1
  obtain ⟨f0, f1, f2, f3⟩ := P2
  clear hb1
  go_wp2
  refine bodyPost_ret (v := .tuple #[.agg #[.int .i64 0, .int .i64 0], .bool false]) (by simp [results, Try.results9, go_sem, q0.out, q1.out]) rfl ⟨rfl, ?_⟩
  exact (HB1.out.setCell (by simp) _).setCell (by simp) _

set_option maxRecDepth 100000 in
theorem specFail_i3 (p q s : Int) (w : World) (hg : fracB p q = true) (hp : 0 ≤ p) (hpq : q < p) :
    Calls Try.prog 9 #[.agg #[.int .i64 p, .int .i64 q], .int .i64 s] w fun e w' => e = .returned (.tuple #[.agg #[.int .i64 0, .int .i64 0], .bool false]) ∧ Below w.heap.size w w' := by
  have PP := Lib.hid (At2.new w (.int .i64 p) (.int .i64 q) 24)
  have PR := Lib.hid (At2.new (w.alloc (.cells #[.int .i64 p, .int .i64 q] 24)) (.int .i64 0) (.int .i64 0) 24)
  have HG := Lib.hid hg
  clear hg
  go_enter Try.func9, Try.ntmps9
  go_wp2_with fail
  refine (l01FIs_any p q _).mono ?_; rw [HG.out]; rintro e w1 ⟨rfl, hb1⟩
  have P1 := Lib.hid (((PP.out.alloc (.cells #[.int .i64 0, .int .i64 0] 24)).below hb1 (by simp; omega)))
  have P2 := PR.out.below hb1 (by simp)
  simp only [World.size_alloc] at P2
  have HB1 := Lib.hid ((((Below.refl w.heap.size w).alloc (Nat.le_refl _) (.cells #[.int .i64 p, .int .i64 q] 24)).alloc (by simp) (.cells #[.int .i64 0, .int .i64 0] 24)).trans (hb1.mono (by simp; omega)))
  obtain ⟨c0, c1, -, -⟩ := P1.out
  have q0 := Lib.hid (P2.set0 (.int .i64 0)).1
  have q1 := Lib.hid ((P2.set0 (.int .i64 0)).set1 (.int .i64 0)).2.1
  obtain ⟨f0, f1, f2, f3⟩ := P2
  clear hb1
  go_wp2
  refine bodyPost_ret (v := .tuple #[.agg #[.int .i64 0, .int .i64 0], .bool false]) (by simp [results, Try.results9, go_sem, q0.out, q1.out]) rfl ⟨rfl, ?_⟩
  exact (HB1.out.setCell (by simp) _).setCell (by simp) _

set_option maxRecDepth 100000 in
theorem specFail_i4 (p q s : Int) (w : World) (hg : fracB p q = true) (hp : 0 ≤ p) (hpq : p ≤ q) (hs : s < 0 ∨ 16 < s) :
    Calls Try.prog 9 #[.agg #[.int .i64 p, .int .i64 q], .int .i64 s] w fun e w' => e = .returned (.tuple #[.agg #[.int .i64 0, .int .i64 0], .bool false]) ∧ Below w.heap.size w w' := by
  have PP := Lib.hid (At2.new w (.int .i64 p) (.int .i64 q) 24)
  have PR := Lib.hid (At2.new (w.alloc (.cells #[.int .i64 p, .int .i64 q] 24)) (.int .i64 0) (.int .i64 0) 24)
  have HG := Lib.hid hg
  clear hg
  go_enter Try.func9, Try.ntmps9
  go_wp2_with fail
  refine (l01FIs_any p q _).mono ?_; rw [HG.out]; rintro e w1 ⟨rfl, hb1⟩
  have P1 := Lib.hid (((PP.out.alloc (.cells #[.int .i64 0, .int .i64 0] 24)).below hb1 (by simp; omega)))
  have P2 := PR.out.below hb1 (by simp)
  simp only [World.size_alloc] at P2
  have HB1 := Lib.hid ((((Below.refl w.heap.size w).alloc (Nat.le_refl _) (.cells #[.int .i64 p, .int .i64 q] 24)).alloc (by simp) (.cells #[.int .i64 0, .int .i64 0] 24)).trans (hb1.mono (by simp; omega)))
  obtain ⟨c0, c1, -, -⟩ := P1.out
  have q0 := Lib.hid (P2.set0 (.int .i64 0)).1
  have q1 := Lib.hid ((P2.set0 (.int .i64 0)).set1 (.int .i64 0)).2.1
  obtain ⟨f0, f1, f2, f3⟩ := P2
  clear hb1
  go_wp2_with fail
  refine (l00In_f _ _ _ _ hs).mono ?_; rintro e w' ⟨rfl, rfl⟩
  go_wp2
  refine bodyPost_ret (v := .tuple #[.agg #[.int .i64 0, .int .i64 0], .bool false]) (by simp [results, Try.results9, go_sem, q0.out, q1.out]) rfl ⟨rfl, ?_⟩
  exact (HB1.out.setCell (by simp) _).setCell (by simp) _

set_option maxHeartbeats 2000000 in
set_option maxRecDepth 100000 in
theorem implFail_t (p q : Int) (s : Nat) (R Q : Int) (c : Bool) (w : World) (hg : fracB p q = true) (hp : 0 ≤ p) (hpq : p ≤ q) (hs : s ≤ 16) (hres : Pow p q s R Q c) :
    Calls Try.prog 11 #[.agg #[.int .i64 p, .int .i64 q], .int .i64 (s : Int)] w fun e w' => e = .returned (.tuple #[.agg #[.int .i64 R, .int .i64 Q], .bool c]) ∧ Below w.heap.size w w' := by
  have PP := Lib.hid (At2.new w (.int .i64 p) (.int .i64 q) 24)
  have PR := Lib.hid (At2.new (w.alloc (.cells #[.int .i64 p, .int .i64 q] 24)) (.int .i64 0) (.int .i64 0) 24)
  have HG := Lib.hid hg
  have HRES := Lib.hid hres
  clear hg hres
  go_enter Try.func11, Try.ntmps11
  go_wp2_with fail
  refine (implValid p q _).mono ?_; rw [HG.out]; rintro e w1 ⟨rfl, hb1⟩
  have P1 := Lib.hid (((PP.out.alloc (.cells #[.int .i64 0, .int .i64 0] 24)).below hb1 (by simp; omega)))
  have P2 := Lib.hid (PR.out.below hb1 (by simp))
  have HB1 := Lib.hid ((((Below.refl w.heap.size w).alloc (Nat.le_refl _) (.cells #[.int .i64 p, .int .i64 q] 24)).alloc (by simp) (.cells #[.int .i64 0, .int .i64 0] 24)).trans (hb1.mono (by simp; omega)))
  have hs1 : w.heap.size + 1 < w1.heap.size := by have := hb1.size; simp at this; omega
  obtain ⟨c0, c1, -, -⟩ := P1.out
  clear hb1
  go_wp2_with fail
  refine (within_i64_t _ _ _ _ (by omega) (by omega)).mono ?_; rintro e w' ⟨rfl, rfl⟩
  go_wp2_with fail
  refine (within_i64_t _ _ _ _ (by omega) (by omega)).mono ?_; rintro e w' ⟨rfl, rfl⟩
  go_wp2
  go_loopw [28] (fun i wr => ∃ (j : Nat) (a b : Int), j ≤ s ∧ i = .int .i64 (j : Int) ∧ powL p q j = some (a, b) ∧ fracB a b = true ∧ At2 wr w.heap.size (.int .i64 p) (.int .i64 q) ∧ At2 wr (w.heap.size + 1) (.int .i64 0) (.int .i64 0) ∧ At2 wr w1.heap.size (.int .i64 a) (.int .i64 b) ∧ Below w.heap.size w wr) (fun i _ => s - (intOf i).toNat)
  case atStart => exact ⟨0, 1, 1, Nat.zero_le _, by first | rfl | simp, rfl, frac_one, P1.out.alloc _, by have := P2.out.alloc (.cells #[.int .i64 1, .int .i64 1] 24); simpa using this, At2.new _ _ _ _, HB1.out.alloc (by omega) _⟩
  case round =>
    obtain ⟨j, a, b, hj, rfl, hpow, hval, p1, p2, p3, hb⟩ := hrel
    have HPOW := Lib.hid hpow
    have HVAL := Lib.hid hval
    have Q1 := Lib.hid p1
    have Q2 := Lib.hid p2
    have Q3 := Lib.hid p3
    have HB := Lib.hid hb
    have hsz := p3.lt
    obtain ⟨c0, c1, -, -⟩ := p1
    obtain ⟨d0, d1, -, -⟩ := p3
    clear hpow hval p2 hb
    by_cases hjs : j < s
    · have HSTEP := Lib.hid (powL_step p q j a b HPOW.out)
      cases hc : mulC a b p q with
      | true =>
        obtain ⟨N, hN⟩ : ∃ N, mulN a b p q = N := ⟨_, rfl⟩
        obtain ⟨D, hD⟩ : ∃ D, mulD a b p q = D := ⟨_, rfl⟩
        have HM := Lib.hid (fmul_any a b p q HVAL.out HG.out N D true (by rw [hc, hN]; rfl) (by rw [hc, hD]; rfl) hc.symm).2
        have HV2 := Lib.hid (mul_valid a b p q HVAL.out HG.out hc)
        rw [hN, hD] at HV2
        rw [hc, if_pos rfl, hN, hD] at HSTEP
        clear hN hD hc
        go_wp2_with fail
        refine (HM.out _).mono ?_; rintro e w2 ⟨rfl, hb2⟩
        have s2 := hb2.size
        have R1 := Lib.hid ((Q1.out.below hb2 Q1.out.lt).alloc (.cells #[.int .i64 N, .int .i64 D] 24))
        have R2 := Lib.hid ((Q2.out.below hb2 Q2.out.lt).alloc (.cells #[.int .i64 N, .int .i64 D] 24))
        have r3 := (Q3.out.below hb2 Q3.out.lt).alloc (.cells #[.int .i64 N, .int .i64 D] 24)
        have r4 := At2.new w2 (.int .i64 N) (.int .i64 D) 24
        have R3 := Lib.hid r3
        have HB2 := Lib.hid ((HB.out.trans (hb2.mono HB.out.size)).alloc (Nat.le_trans HB.out.size s2) (.cells #[.int .i64 N, .int .i64 D] 24))
        obtain ⟨e0, e1, e2, e3⟩ := r3
        obtain ⟨e4, e5, e6, e7⟩ := r4
        clear hb2 c0 c1 d0 d1
        go_wp2
        go_roundw
        case rel => exact ⟨j + 1, N, D, by omega, by go_num, HSTEP.out, HV2.out, (R1.out.set_ne (by omega) _ _).set_ne (by omega) _ _, (R2.out.set_ne (by omega) _ _).set_ne (by omega) _ _, (R3.out.set0 _).set1 _, (HB2.out.setCell (show w.heap.size ≤ w1.heap.size from by omega) _).setCell (show w.heap.size ≤ w1.heap.size from by omega) _⟩
        case measure => simp [intOf]; omega
      | false =>
        have HM := Lib.hid (fmul_any a b p q HVAL.out HG.out 0 0 false (by rw [hc]; rfl) (by rw [hc]; rfl) hc.symm).2
        rw [hc] at HSTEP
        have hnone := powL_none p q (j + 1) s (by omega) HSTEP.out
        have hr := HRES.out
        unfold Pow at hr
        rw [hnone] at hr
        obtain ⟨-, rfl, rfl, rfl⟩ := hr.resolve_left (by simp)
        clear hnone hr hc
        go_wp2_with fail
        refine (HM.out _).mono ?_; rintro e w2 ⟨rfl, hb2⟩
        have s2 := hb2.size
        have r2 := (Q2.out.below hb2 Q2.out.lt).alloc (.cells #[.int .i64 0, .int .i64 0] 24)
        have HB2 := Lib.hid ((HB.out.trans (hb2.mono HB.out.size)).alloc (Nat.le_trans HB.out.size s2) (.cells #[.int .i64 0, .int .i64 0] 24))
        have q0 := Lib.hid (r2.set0 (.int .i64 0)).1
        have q1 := Lib.hid ((r2.set0 (.int .i64 0)).set1 (.int .i64 0)).2.1
        obtain ⟨e0, e1, e2, e3⟩ := r2
        clear hb2 c0 c1 d0 d1
        go_wp2
        try rw [Exit.noGoto_ret]
        refine bodyPost_ret (v := .tuple #[.agg #[.int .i64 0, .int .i64 0], .bool false]) (by simp [results, Try.results11, go_sem, q0.out, q1.out]) rfl ⟨rfl, ?_⟩
        exact (HB2.out.setCell (show w.heap.size ≤ w.heap.size + 1 from by omega) _).setCell (show w.heap.size ≤ w.heap.size + 1 from by omega) _
    · obtain rfl : j = s := by omega
      have hr := HRES.out
      unfold Pow at hr
      rw [HPOW.out] at hr
      obtain ⟨hab, rfl⟩ := hr.resolve_right (by simp)
      simp only [Option.some.injEq, Prod.mk.injEq] at hab
      obtain ⟨rfl, rfl⟩ := hab
      have q0 := Lib.hid (Q2.out.set0 (.int .i64 a)).1
      have q1 := Lib.hid ((Q2.out.set0 (.int .i64 a)).set1 (.int .i64 b)).2.1
      obtain ⟨e0, e1, e2, e3⟩ := Q2.out
      obtain ⟨d0, d1, -, -⟩ := Q3.out
      clear hr c0 c1
      go_wp2
      try rw [Exit.noGoto_ret]
      refine bodyPost_ret (v := .tuple #[.agg #[.int .i64 a, .int .i64 b], .bool true]) (by simp [results, Try.results11, go_sem, q0.out, q1.out]) rfl ⟨rfl, ?_⟩
      exact (HB.out.setCell (show w.heap.size ≤ w.heap.size + 1 from by omega) _).setCell (show w.heap.size ≤ w.heap.size + 1 from by omega) _

set_option maxRecDepth 100000 in
theorem implFail_i1 (p q s : Int) (w : World) (hg : fracB p q = false) :
    Calls Try.prog 11 #[.agg #[.int .i64 p, .int .i64 q], .int .i64 s] w fun e w' => e = .returned (.tuple #[.agg #[.int .i64 0, .int .i64 0], .bool false]) ∧ Below w.heap.size w w' := by
  have PP := Lib.hid (At2.new w (.int .i64 p) (.int .i64 q) 24)
  have PR := Lib.hid (At2.new (w.alloc (.cells #[.int .i64 p, .int .i64 q] 24)) (.int .i64 0) (.int .i64 0) 24)
  have HG := Lib.hid hg
  clear hg
  go_enter Try.func11, Try.ntmps11
  go_wp2_with fail
  refine (implValid p q _).mono ?_; rw [HG.out]; rintro e w1 ⟨rfl, hb1⟩
  have P1 := Lib.hid (((PP.out.alloc (.cells #[.int .i64 0, .int .i64 0] 24)).below hb1 (by simp; omega)))
  have P2 := PR.out.below hb1 (by simp)
  simp only [World.size_alloc] at P2
  have HB1 := Lib.hid ((((Below.refl w.heap.size w).alloc (Nat.le_refl _) (.cells #[.int .i64 p, .int .i64 q] 24)).alloc (by simp) (.cells #[.int .i64 0, .int .i64 0] 24)).trans (hb1.mono (by simp; omega)))
  obtain ⟨c0, c1, -, -⟩ := P1.out
  have q0 := Lib.hid (P2.set0 (.int .i64 0)).1
  have q1 := Lib.hid ((P2.set0 (.int .i64 0)).set1 (.int .i64 0)).2.1
  obtain ⟨f0, f1, f2, f3⟩ := P2
  clear hb1
  go_wp2
  refine bodyPost_ret (v := .tuple #[.agg #[.int .i64 0, .int .i64 0], .bool false]) (by simp [results, Try.results11, go_sem, q0.out, q1.out]) rfl ⟨rfl, ?_⟩
  exact (HB1.out.setCell (by simp) _).setCell (by simp) _

set_option maxRecDepth 100000 in
theorem implFail_i2 (p q s : Int) (w : World) (hg : fracB p q = true) (hp : p < 0) :
    Calls Try.prog 11 #[.agg #[.int .i64 p, .int .i64 q], .int .i64 s] w fun e w' => e = .returned (.tuple #[.agg #[.int .i64 0, .int .i64 0], .bool false]) ∧ Below w.heap.size w w' := by
  have PP := Lib.hid (At2.new w (.int .i64 p) (.int .i64 q) 24)
  have PR := Lib.hid (At2.new (w.alloc (.cells #[.int .i64 p, .int .i64 q] 24)) (.int .i64 0) (.int .i64 0) 24)
  have HG := Lib.hid hg
  clear hg
  go_enter Try.func11, Try.ntmps11
  go_wp2_with fail
  refine (implValid p q _).mono ?_; rw [HG.out]; rintro e w1 ⟨rfl, hb1⟩
  have P1 := Lib.hid (((PP.out.alloc (.cells #[.int .i64 0, .int .i64 0] 24)).below hb1 (by simp; omega)))
  have P2 := PR.out.below hb1 (by simp)
  simp only [World.size_alloc] at P2
  have HB1 := Lib.hid ((((Below.refl w.heap.size w).alloc (Nat.le_refl _) (.cells #[.int .i64 p, .int .i64 q] 24)).alloc (by simp) (.cells #[.int .i64 0, .int .i64 0] 24)).trans (hb1.mono (by simp; omega)))
  obtain ⟨c0, c1, -, -⟩ := P1.out
  have q0 := Lib.hid (P2.set0 (.int .i64 0)).1
  have q1 := Lib.hid ((P2.set0 (.int .i64 0)).set1 (.int .i64 0)).2.1
  obtain ⟨f0, f1, f2, f3⟩ := P2
  clear hb1
  go_wp2_with fail
  refine (within_i64_f _ _ _ _ (by omega)).mono ?_; rintro e w' ⟨rfl, rfl⟩
  go_wp2
  refine bodyPost_ret (v := .tuple #[.agg #[.int .i64 0, .int .i64 0], .bool false]) (by simp [results, Try.results11, go_sem, q0.out, q1.out]) rfl ⟨rfl, ?_⟩
  exact (HB1.out.setCell (by simp) _).setCell (by simp) _

set_option maxRecDepth 100000 in
theorem implFail_i3 (p q s : Int) (w : World) (hg : fracB p q = true) (hp : 0 ≤ p) (hpq : q < p) :
    Calls Try.prog 11 #[.agg #[.int .i64 p, .int .i64 q], .int .i64 s] w fun e w' => e = .returned (.tuple #[.agg #[.int .i64 0, .int .i64 0], .bool false]) ∧ Below w.heap.size w w' := by
  have PP := Lib.hid (At2.new w (.int .i64 p) (.int .i64 q) 24)
  have PR := Lib.hid (At2.new (w.alloc (.cells #[.int .i64 p, .int .i64 q] 24)) (.int .i64 0) (.int .i64 0) 24)
  have HG := Lib.hid hg
  clear hg
  go_enter Try.func11, Try.ntmps11
  go_wp2_with fail
  refine (implValid p q _).mono ?_; rw [HG.out]; rintro e w1 ⟨rfl, hb1⟩
  have P1 := Lib.hid (((PP.out.alloc (.cells #[.int .i64 0, .int .i64 0] 24)).below hb1 (by simp; omega)))
  have P2 := PR.out.below hb1 (by simp)
  simp only [World.size_alloc] at P2
  have HB1 := Lib.hid ((((Below.refl w.heap.size w).alloc (Nat.le_refl _) (.cells #[.int .i64 p, .int .i64 q] 24)).alloc (by simp) (.cells #[.int .i64 0, .int .i64 0] 24)).trans (hb1.mono (by simp; omega)))
  obtain ⟨c0, c1, -, -⟩ := P1.out
  have q0 := Lib.hid (P2.set0 (.int .i64 0)).1
  have q1 := Lib.hid ((P2.set0 (.int .i64 0)).set1 (.int .i64 0)).2.1
  obtain ⟨f0, f1, f2, f3⟩ := P2
  clear hb1
  go_wp2_with fail
  refine (within_i64_f _ _ _ _ (by omega)).mono ?_; rintro e w' ⟨rfl, rfl⟩
  go_wp2
  refine bodyPost_ret (v := .tuple #[.agg #[.int .i64 0, .int .i64 0], .bool false]) (by simp [results, Try.results11, go_sem, q0.out, q1.out]) rfl ⟨rfl, ?_⟩
  exact (HB1.out.setCell (by simp) _).setCell (by simp) _

set_option maxRecDepth 100000 in
theorem implFail_i4 (p q s : Int) (w : World) (hg : fracB p q = true) (hp : 0 ≤ p) (hpq : p ≤ q) (hs : s < 0 ∨ 16 < s) :
    Calls Try.prog 11 #[.agg #[.int .i64 p, .int .i64 q], .int .i64 s] w fun e w' => e = .returned (.tuple #[.agg #[.int .i64 0, .int .i64 0], .bool false]) ∧ Below w.heap.size w w' := by
  have PP := Lib.hid (At2.new w (.int .i64 p) (.int .i64 q) 24)
  have PR := Lib.hid (At2.new (w.alloc (.cells #[.int .i64 p, .int .i64 q] 24)) (.int .i64 0) (.int .i64 0) 24)
  have HG := Lib.hid hg
  clear hg
  go_enter Try.func11, Try.ntmps11
  go_wp2_with fail
  refine (implValid p q _).mono ?_; rw [HG.out]; rintro e w1 ⟨rfl, hb1⟩
  have P1 := Lib.hid (((PP.out.alloc (.cells #[.int .i64 0, .int .i64 0] 24)).below hb1 (by simp; omega)))
  have P2 := PR.out.below hb1 (by simp)
  simp only [World.size_alloc] at P2
  have HB1 := Lib.hid ((((Below.refl w.heap.size w).alloc (Nat.le_refl _) (.cells #[.int .i64 p, .int .i64 q] 24)).alloc (by simp) (.cells #[.int .i64 0, .int .i64 0] 24)).trans (hb1.mono (by simp; omega)))
  obtain ⟨c0, c1, -, -⟩ := P1.out
  have q0 := Lib.hid (P2.set0 (.int .i64 0)).1
  have q1 := Lib.hid ((P2.set0 (.int .i64 0)).set1 (.int .i64 0)).2.1
  obtain ⟨f0, f1, f2, f3⟩ := P2
  clear hb1
  go_wp2_with fail
  refine (within_i64_t _ _ _ _ (by omega) (by omega)).mono ?_; rintro e w' ⟨rfl, rfl⟩
  go_wp2_with fail
  refine (within_i64_f _ _ _ _ hs).mono ?_; rintro e w' ⟨rfl, rfl⟩
  go_wp2
  refine bodyPost_ret (v := .tuple #[.agg #[.int .i64 0, .int .i64 0], .bool false]) (by simp [results, Try.results11, go_sem, q0.out, q1.out]) rfl ⟨rfl, ?_⟩
  exact (HB1.out.setCell (by simp) _).setCell (by simp) _
end Go.Proofs.Ytomdoamfdidghaa
