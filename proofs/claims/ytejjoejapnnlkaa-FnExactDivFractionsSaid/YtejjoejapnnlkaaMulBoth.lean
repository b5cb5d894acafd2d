/- The product of two fractions: the answers on both sides, for whatever arguments. -/
import Derived.Test.YtejjoejapnnlkaaMulSpec
namespace Go.Proofs.Ytejjoejapnnlkaa
open Go.RowKit

set_option maxRecDepth 100000 in
theorem specMul_v (n d p q N D : Int) (c : Bool) (w : World) (hf : fracB n d = true) (hg : fracB p q = true)
    (HM : Hid (∀ w, Calls Try.prog 53 #[.agg #[.int .i64 n, .int .i64 d], .agg #[.int .i64 p, .int .i64 q]] w fun e w' => e = .returned (.tuple #[.agg #[.int .i64 N, .int .i64 D], .bool c]) ∧ Below w.heap.size w w')) :
    Calls Try.prog 23 #[.agg #[.int .i64 n, .int .i64 d], .agg #[.int .i64 p, .int .i64 q]] w fun e w' => e = .returned (.tuple #[.agg #[.int .i64 N, .int .i64 D], .bool c]) ∧ Below w.heap.size w w' := by
  have hnew := At2.new ((w.alloc (.cells #[.int .i64 n, .int .i64 d] 35)).alloc (.cells #[.int .i64 p, .int .i64 q] 35)) (.int .i64 0) (.int .i64 0) 35
  have HNEW := Lib.hid hnew
  have HF := Lib.hid hf
  have HG := Lib.hid hg
  clear hf hg hnew
  go_enter Try.func23, Try.ntmps23
  go_wp2_with fail
  refine (l01FIs_any n d _).mono ?_; rw [HF.out]; rintro e w1 ⟨rfl, hb1⟩
  have j0 := cell_kept hb1 (a := ⟨w.heap.size, 0, none⟩) (v := .int .i64 n) (by simp [go_sem])
  have j1 := cell_kept hb1 (a := ⟨w.heap.size, 1, none⟩) (v := .int .i64 d) (by simp [go_sem])
  have j2 := cell_kept hb1 (a := ⟨w.heap.size + 1, 0, none⟩) (v := .int .i64 p) (by simp [go_sem])
  have j3 := cell_kept hb1 (a := ⟨w.heap.size + 1, 1, none⟩) (v := .int .i64 q) (by simp [go_sem])
  have hp1 := HNEW.out.below hb1 (by simp)
  simp only [World.size_alloc] at hp1
  have HP1 := Lib.hid hp1
  have HB1 := Lib.hid hb1
  clear hb1 hp1
  go_wp2_with fail
  refine (l01FIs_any p q _).mono ?_; rw [HG.out]; rintro e w2 ⟨rfl, hb2⟩
  have k0 := cell_kept hb2 j0
  have k1 := cell_kept hb2 j1
  have k2 := cell_kept hb2 j2
  have k3 := cell_kept hb2 j3
  have HP2 := Lib.hid (HP1.out.below hb2 HP1.out.lt)
  have HB2 := Lib.hid (HB1.out.trans (hb2.mono HB1.out.size))
  clear hb2 j0 j1 j2 j3
  go_wp2_with fail
  refine (HM.out _).mono ?_; rintro e w3 ⟨rfl, hb3⟩
  have hp3 := HP2.out.below hb3 HP2.out.lt
  have HB3 := Lib.hid (HB2.out.trans (hb3.mono HB2.out.size))
  have q0 := Lib.hid (hp3.set0 (.int .i64 N)).1
  have q1 := Lib.hid ((hp3.set0 (.int .i64 N)).set1 (.int .i64 D)).2.1
  obtain ⟨p0, p1, p2, p3⟩ := hp3
  clear hb3 k0 k1 k2 k3
  go_wp2
  refine bodyPost_ret (v := .tuple #[.agg #[.int .i64 N, .int .i64 D], .bool c]) (by simp [results, Try.results23, go_sem, q0.out, q1.out]) rfl ⟨rfl, ?_⟩
  exact (((((Below.refl w.heap.size w).alloc (Nat.le_refl _) _).alloc (by simp) _).alloc (by simp; omega) _).trans (HB3.out.mono (by simp; omega))).setCell (by simp; omega) _ |>.setCell (by simp; omega) _
set_option maxRecDepth 100000 in
theorem specMul_i1 (n d p q : Int) (w : World) (hf : fracB n d = false) :
    Calls Try.prog 23 #[.agg #[.int .i64 n, .int .i64 d], .agg #[.int .i64 p, .int .i64 q]] w fun e w' => e = .returned (.tuple #[.agg #[.int .i64 0, .int .i64 0], .bool false]) ∧ Below w.heap.size w w' := by
  have hnew := At2.new ((w.alloc (.cells #[.int .i64 n, .int .i64 d] 35)).alloc (.cells #[.int .i64 p, .int .i64 q] 35)) (.int .i64 0) (.int .i64 0) 35
  have HNEW := Lib.hid hnew
  have HF := Lib.hid hf
  clear hf hnew
  go_enter Try.func23, Try.ntmps23
  go_wp2_with fail
  refine (l01FIs_any n d _).mono ?_; rw [HF.out]; rintro e w1 ⟨rfl, hb1⟩
  have hp1 := HNEW.out.below hb1 (by simp)
  simp only [World.size_alloc] at hp1
  have HB2 := Lib.hid hb1
  have q0 := Lib.hid (hp1.set0 (.int .i64 0)).1
  have q1 := Lib.hid ((hp1.set0 (.int .i64 0)).set1 (.int .i64 0)).2.1
  obtain ⟨p0, p1, p2, p3⟩ := hp1
  clear hb1
  go_wp2
  refine bodyPost_ret (v := .tuple #[.agg #[.int .i64 0, .int .i64 0], .bool false]) (by simp [results, Try.results23, go_sem, q0.out, q1.out]) rfl ⟨rfl, ?_⟩
  exact (((((Below.refl w.heap.size w).alloc (Nat.le_refl _) _).alloc (by simp) _).alloc (by simp; omega) _).trans (HB2.out.mono (by simp; omega))).setCell (by simp; omega) _ |>.setCell (by simp; omega) _
set_option maxRecDepth 100000 in
theorem specMul_i2 (n d p q : Int) (w : World) (hf : fracB n d = true) (hg : fracB p q = false) :
    Calls Try.prog 23 #[.agg #[.int .i64 n, .int .i64 d], .agg #[.int .i64 p, .int .i64 q]] w fun e w' => e = .returned (.tuple #[.agg #[.int .i64 0, .int .i64 0], .bool false]) ∧ Below w.heap.size w w' := by
  have hnew := At2.new ((w.alloc (.cells #[.int .i64 n, .int .i64 d] 35)).alloc (.cells #[.int .i64 p, .int .i64 q] 35)) (.int .i64 0) (.int .i64 0) 35
  have HNEW := Lib.hid hnew
  have HF := Lib.hid hf
  have HG := Lib.hid hg
  clear hf hg hnew
  go_enter Try.func23, Try.ntmps23
  go_wp2_with fail
  refine (l01FIs_any n d _).mono ?_; rw [HF.out]; rintro e w1 ⟨rfl, hb1⟩
  have j2 := cell_kept hb1 (a := ⟨w.heap.size + 1, 0, none⟩) (v := .int .i64 p) (by simp [go_sem])
  have j3 := cell_kept hb1 (a := ⟨w.heap.size + 1, 1, none⟩) (v := .int .i64 q) (by simp [go_sem])
  have hp1 := HNEW.out.below hb1 (by simp)
  simp only [World.size_alloc] at hp1
  have HP1 := Lib.hid hp1
  have HB1 := Lib.hid hb1
  clear hb1 hp1
  go_wp2_with fail
  refine (l01FIs_any p q _).mono ?_; rw [HG.out]; rintro e w2 ⟨rfl, hb2⟩
  have hp2 := HP1.out.below hb2 HP1.out.lt
  have HB2 := Lib.hid (HB1.out.trans (hb2.mono HB1.out.size))
  have q0 := Lib.hid (hp2.set0 (.int .i64 0)).1
  have q1 := Lib.hid ((hp2.set0 (.int .i64 0)).set1 (.int .i64 0)).2.1
  obtain ⟨p0, p1, p2, p3⟩ := hp2
  clear hb2 j2 j3
  go_wp2
  refine bodyPost_ret (v := .tuple #[.agg #[.int .i64 0, .int .i64 0], .bool false]) (by simp [results, Try.results23, go_sem, q0.out, q1.out]) rfl ⟨rfl, ?_⟩
  exact (((((Below.refl w.heap.size w).alloc (Nat.le_refl _) _).alloc (by simp) _).alloc (by simp; omega) _).trans (HB2.out.mono (by simp; omega))).setCell (by simp; omega) _ |>.setCell (by simp; omega) _
theorem mul_both (n d p q : Int) : ∃ (N D : Int) (c : Bool), (∀ w, Calls Try.prog 23 #[.agg #[.int .i64 n, .int .i64 d], .agg #[.int .i64 p, .int .i64 q]] w fun e w' => e = .returned (.tuple #[.agg #[.int .i64 N, .int .i64 D], .bool c]) ∧ Below w.heap.size w w') ∧ (∀ w, Calls Try.prog 25 #[.agg #[.int .i64 n, .int .i64 d], .agg #[.int .i64 p, .int .i64 q]] w fun e w' => e = .returned (.tuple #[.agg #[.int .i64 N, .int .i64 D], .bool c]) ∧ Below w.heap.size w w') := by
  cases hf : fracB n d with
  | false => exact ⟨_, _, _, fun w => specMul_i1 n d p q w hf, fun w => implMul_i1 n d p q w hf⟩
  | true =>
    cases hg : fracB p q with
    | false => exact ⟨_, _, _, fun w => specMul_i2 n d p q w hf hg, fun w => implMul_i2 n d p q w hf hg⟩
    | true =>
      have hf1 : 1 ≤ d ∧ d ≤ 1000000000000000000 ∧ -1000000000000000000 ≤ n ∧ n ≤ 1000000000000000000 := by
        simp [fracB] at hf; omega
      have hg1 : 1 ≤ q ∧ q ≤ 1000000000000000000 ∧ -1000000000000000000 ≤ p ∧ p ≤ 1000000000000000000 := by
        simp [fracB] at hg; omega
      have b1 := mk_bd n q (by omega) (by omega) (by omega) (by omega)
      have b2 := mk_bd p d (by omega) (by omega) (by omega) (by omega)
      have M1 := Lib.hid (fun w => l01FMake_any n q w (by omega) (by omega) (by omega) (by omega) (by omega))
      have M2 := Lib.hid (fun w => l01FMake_any p d w (by omega) (by omega) (by omega) (by omega) (by omega))
      cases h1 : ovB (mA n d p q) with
      | false =>
        cases h2 : ovB (mM n d p q) with
        | false => exact ⟨_, _, _, fun w => specMul_v n d p q _ _ _ w hf hg (Lib.hid fun w => fmulX_ff n d p q _ _ _ _ w b1 b2 M1 M2 h1 h2), fun w => implMul_ff n d p q w hf hg h1 h2⟩
        | true => exact ⟨_, _, _, fun w => specMul_v n d p q _ _ _ w hf hg (Lib.hid fun w => fmulX_ft n d p q _ _ _ _ w b1 b2 M1 M2 h1 h2), fun w => implMul_ft n d p q w hf hg h1 h2⟩
      | true =>
        cases h2 : ovB (mM n d p q) with
        | false => exact ⟨_, _, _, fun w => specMul_v n d p q _ _ _ w hf hg (Lib.hid fun w => fmulX_tf n d p q _ _ _ _ w b1 b2 M1 M2 h1 h2), fun w => implMul_tf n d p q w hf hg h1 h2⟩
        | true =>
          have hI : ∀ w, _ := fun w => implMul_t n d p q w hf hg (by rw [h1, h2]; rfl)
          cases h3 : mS n d p q with
          | false =>
            rw [h3] at hI
            exact ⟨_, _, _, fun w => specMul_v n d p q _ _ _ w hf hg (Lib.hid fun w => fmul_t0 n d p q _ _ _ _ w b1 b2 M1 M2 h1 h2 h3), hI⟩
          | true =>
            rw [h3] at hI
            exact ⟨_, _, _, fun w => specMul_v n d p q _ _ _ w hf hg (Lib.hid fun w => fmul_tt n d p q _ _ _ _ w b1 b2 M1 M2 h1 h2 h3), hI⟩
end Go.Proofs.Ytejjoejapnnlkaa
