/- The quotient of two fractions: the answers on both sides, for whatever arguments. -/
import Derived.Test.YtejjoejapnnlkaaMulBoth
import Derived.Test.YtejjoejapnnlkaaKept
namespace Go.Proofs.Ytejjoejapnnlkaa
open Go.RowKit
set_option linter.unusedVariables false

theorem below_dv {B : Nat} {a w : World} (h : Below B a.drew w) : Below B a w := ⟨h.os, h.tape, h.output, h.size, h.block⟩
theorem fmul_both (n d p q : Int) (hf : fracB n d = true) (hg : fracB p q = true) : ∃ (N D : Int) (c : Bool), (∀ w, Calls Try.prog 53 #[.agg #[.int .i64 n, .int .i64 d], .agg #[.int .i64 p, .int .i64 q]] w fun e w' => e = .returned (.tuple #[.agg #[.int .i64 N, .int .i64 D], .bool c]) ∧ Below w.heap.size w w') ∧ (∀ w, Calls Try.prog 25 #[.agg #[.int .i64 n, .int .i64 d], .agg #[.int .i64 p, .int .i64 q]] w fun e w' => e = .returned (.tuple #[.agg #[.int .i64 N, .int .i64 D], .bool c]) ∧ Below w.heap.size w w') := by
  have hf1 : 1 ≤ d ∧ d ≤ 1000000000000000000 ∧ -1000000000000000000 ≤ n ∧ n ≤ 1000000000000000000 := by
    simp [fracB] at hf; omega
  have hg1 : 1 ≤ q ∧ q ≤ 1000000000000000000 ∧ -1000000000000000000 ≤ p ∧ p ≤ 1000000000000000000 := by
    simp [fracB] at hg; omega
  have b1 := mk_bd n q (by omega) (by omega) (by omega) (by omega)
  have b2 := mk_bd p d (by omega) (by omega) (by omega) (by omega)
  have M1 := Lib.hid (fun w => l01FMake_any n q w (by omega) (by omega) (by omega) (by omega) (by omega))
  have M2 := Lib.hid (fun w => l01FMake_any p d w (by omega) (by omega) (by omega) (by omega) (by omega))
  cases h1 : ovB (mA n d p q) with
  | false =>
    cases h2 : ovB (mM n d p q) with
    | false => exact ⟨_, _, _, fun w => fmulX_ff n d p q _ _ _ _ w b1 b2 M1 M2 h1 h2, fun w => implMul_ff n d p q w hf hg h1 h2⟩
    | true => exact ⟨_, _, _, fun w => fmulX_ft n d p q _ _ _ _ w b1 b2 M1 M2 h1 h2, fun w => implMul_ft n d p q w hf hg h1 h2⟩
  | true =>
    cases h2 : ovB (mM n d p q) with
    | false => exact ⟨_, _, _, fun w => fmulX_tf n d p q _ _ _ _ w b1 b2 M1 M2 h1 h2, fun w => implMul_tf n d p q w hf hg h1 h2⟩
    | true =>
      have hI : ∀ w, _ := fun w => implMul_t n d p q w hf hg (by rw [h1, h2]; rfl)
      cases h3 : mS n d p q with
      | false =>
        rw [h3] at hI
        exact ⟨_, _, _, fun w => fmul_t0 n d p q _ _ _ _ w b1 b2 M1 M2 h1 h2 h3, hI⟩
      | true =>
        rw [h3] at hI
        exact ⟨_, _, _, fun w => fmul_tt n d p q _ _ _ _ w b1 b2 M1 M2 h1 h2 h3, hI⟩

theorem frac_pt {n d : Int} (h : fracB n d = true) : 1 ≤ d ∧ d ≤ 1000000000000000000 ∧ -1000000000000000000 ≤ n ∧ n ≤ 1000000000000000000 ∧ Int.gcd n d = 1 := by
  unfold fracB at h; exact of_decide_eq_true h
theorem turn_pos (p q : Int) (h : fracB p q = true) (h0 : 0 < p) : fracB q p = true ∧ mkN q p = q ∧ mkD q p = p := by
  obtain ⟨h1, h2, h3, h4, h5⟩ := frac_pt h
  have hg : Int.gcd q p = 1 := by rw [Int.gcd_comm]; exact h5
  refine ⟨?_, ?_, ?_⟩
  · unfold fracB; rw [decide_eq_true_eq]; exact ⟨by omega, by omega, by omega, by omega, hg⟩
  · unfold mkN; rw [if_neg (by omega), hg]; simp
  · unfold mkD; rw [if_neg (by omega), hg]; simp
theorem turn_neg (p q : Int) (h : fracB p q = true) (h0 : p < 0) : fracB (-q) (-p) = true ∧ mkN q p = -q ∧ mkD q p = -p := by
  obtain ⟨h1, h2, h3, h4, h5⟩ := frac_pt h
  have hg : Int.gcd q p = 1 := by rw [Int.gcd_comm]; exact h5
  refine ⟨?_, ?_, ?_⟩
  · unfold fracB; rw [decide_eq_true_eq]; exact ⟨by omega, by omega, by omega, by omega, by rw [Int.gcd_neg, Int.neg_gcd]; exact hg⟩
  · unfold mkN; rw [if_pos h0, hg]; simp
  · unfold mkD; rw [if_pos h0, hg]; simp

theorem l01FIs_bd (n d : Int) (b : Bool) (w : World) (h : fracB n d = b) :
    Calls Try.prog 52 #[.agg #[.int .i64 n, .int .i64 d]] w fun e w' => e = .returned (.bool b) ∧ Below w.heap.size w w' := by
  rw [← h]; exact l01FIs_any n d w
theorem implValid_bd (n d : Int) (b : Bool) (w : World) (h : fracB n d = b) :
    Calls Try.prog 54 #[.agg #[.int .i64 n, .int .i64 d]] w fun e w' => e = .returned (.bool b) ∧ Below w.heap.size w w' := by
  rw [← h]; exact implValid n d w

set_option maxHeartbeats 2000000 in
set_option maxRecDepth 100000 in
theorem specDiv_v (n d p q p' q' N D : Int) (c : Bool) (w : World) (hf : fracB n d = true) (hg : fracB p q = true) (h0 : (p == 0) = false)
    (HK : Hid (∀ w, Calls Try.prog 50 #[.int .i64 q, .int .i64 p] w fun e w' => e = .returned (.agg #[.int .i64 p', .int .i64 q']) ∧ Below w.heap.size w w'))
    (HM : Hid (∀ w, Calls Try.prog 53 #[.agg #[.int .i64 n, .int .i64 d], .agg #[.int .i64 p', .int .i64 q']] w fun e w' => e = .returned (.tuple #[.agg #[.int .i64 N, .int .i64 D], .bool c]) ∧ Below w.heap.size w w')) :
    Calls Try.prog 26 #[.agg #[.int .i64 n, .int .i64 d], .agg #[.int .i64 p, .int .i64 q]] w fun e w' => e = .returned (.tuple #[.agg #[.int .i64 N, .int .i64 D], .bool c]) ∧ Below w.heap.size w w' := by
  have HF := Lib.hid hf
  have HG := Lib.hid hg
  clear hf hg
  have hnew := At2.new ((w.alloc (.cells #[.int .i64 n, .int .i64 d] 35)).alloc (.cells #[.int .i64 p, .int .i64 q] 35)) (.int .i64 0) (.int .i64 0) 35
  have HNEW := Lib.hid hnew
  clear hnew
  go_enter Try.func26, Try.ntmps26
  go_wp2_with fail
  refine (l01FIs_bd n d true _ HF.out).mono ?_; rintro e w1 ⟨rfl, hb1⟩
  have j0 := cell_kept hb1 (a := ⟨w.heap.size, 0, none⟩) (v := .int .i64 n) (by simp [go_sem])
  have j1 := cell_kept hb1 (a := ⟨w.heap.size, 1, none⟩) (v := .int .i64 d) (by simp [go_sem])
  have j2 := cell_kept hb1 (a := ⟨w.heap.size + 1, 0, none⟩) (v := .int .i64 p) (by simp [go_sem])
  have j3 := cell_kept hb1 (a := ⟨w.heap.size + 1, 1, none⟩) (v := .int .i64 q) (by simp [go_sem])
  have hp1 := HNEW.out.below hb1 (by simp)
  simp only [World.size_alloc] at hp1
  have HP1 := Lib.hid hp1
  have HB1 := Lib.hid hb1
  clear hb1 hp1
  go_wp2_with fail
  refine (l01FIs_bd p q true _ HG.out).mono ?_; rintro e w2 ⟨rfl, hb2⟩
  have k0 := cell_kept hb2 j0
  have k1 := cell_kept hb2 j1
  have k2 := cell_kept hb2 j2
  have k3 := cell_kept hb2 j3
  have hp2 := HP1.out.below hb2 HP1.out.lt
  have HB2 := Lib.hid (((((Below.refl w.heap.size w).alloc (Nat.le_refl _) _).alloc (by simp) _).alloc (by simp; omega) _).trans ((HB1.out.trans (hb2.mono HB1.out.size)).mono (by simp; omega)))
  have hlt := hp2.lt
  obtain ⟨p0, p1, p2, p3⟩ := hp2
  clear hb2 j0 j1 j2 j3
  go_wp2
  go_region_held3 (fun w' => w'.cell? ⟨w.heap.size, 0, none⟩ = some (.int .i64 n) ∧ w'.cell? ⟨w.heap.size, 1, none⟩ = some (.int .i64 d) ∧ w'.cell? ⟨w.heap.size + 1, 0, none⟩ = some (.int .i64 p) ∧ w'.cell? ⟨w.heap.size + 1, 1, none⟩ = some (.int .i64 q)) (first | (go_keep; done) | ((try dsimp only); (repeat' apply And.intro) <;> assumption) | (go_split_ands; (refine ⟨?_, ?_, ?_, ?_⟩ <;> (apply cell_kept <;> assumption))) | (go_split_ands; (refine ⟨?_, ?_, ?_, ?_⟩ <;> (exact cell_set_kept (by dsimp only; omega) (cell_set_kept (by dsimp only; omega) (by assumption))))) | ((try dsimp only); (repeat' apply And.intro) <;> (first | assumption | (go_keep; done) | (apply cell_kept <;> assumption)))) (first | (go_at_call 50; refine (HK.out _).mono ?_; rintro e wa ⟨rfl, hba⟩; have sza := Lib.hid hba.size; (try (refine fresh2 (w.heap.size + 1 + 1) (.int .i64 0) (.int .i64 0) hba ?_ ?_ ?_ ?_ ?_ ?_; (focus (first | assumption | (simp [go_sem]; done))); (focus (first | assumption | (simp [go_sem]; done))); (focus (first | assumption | (simp [go_sem]; done))); (focus (first | assumption | (simp [go_sem]; done))); (focus (first | assumption | (simp; done) | (simp; omega) | omega)); intro ae1 ae2 ae3 ae4 ae5))) | (go_at_call 53; refine (HM.out _).mono ?_; rintro e wb ⟨rfl, hbb⟩; have szb := Lib.hid hbb.size; (try (refine fresh2 (w.heap.size + 1 + 1) (.int .i64 0) (.int .i64 0) hbb ?_ ?_ ?_ ?_ ?_ ?_; (focus (first | assumption | (simp [go_sem]; done))); (focus (first | assumption | (simp [go_sem]; done))); (focus (first | assumption | (simp [go_sem]; done))); (focus (first | assumption | (simp [go_sem]; done))); (focus (first | assumption | (simp; done) | (simp; omega) | omega)); intro be1 be2 be3 be4 be5))))
  all_goals
    go_wp2
    refine bodyPost_ret (v := .tuple #[.agg #[.int .i64 N, .int .i64 D], .bool c]) (by simp [results, Try.results26, go_sem, *]) rfl ⟨rfl, ?_⟩
    exact (((HB2.out.trans ((below_dv hba).mono HB2.out.size)).trans (hbb.mono (Nat.le_trans HB2.out.size sza.out))).setCell (by simp; omega) _).setCell (by simp; omega) _

set_option maxHeartbeats 1000000 in
set_option maxRecDepth 100000 in
theorem specDiv_i1 (n d p q : Int) (w : World) (hf : fracB n d = false) :
    Calls Try.prog 26 #[.agg #[.int .i64 n, .int .i64 d], .agg #[.int .i64 p, .int .i64 q]] w fun e w' => e = .returned (.tuple #[.agg #[.int .i64 0, .int .i64 0], .bool false]) ∧ Below w.heap.size w w' := by
  have HF := Lib.hid hf
  clear hf
  have hnew := At2.new ((w.alloc (.cells #[.int .i64 n, .int .i64 d] 35)).alloc (.cells #[.int .i64 p, .int .i64 q] 35)) (.int .i64 0) (.int .i64 0) 35
  have HNEW := Lib.hid hnew
  clear hnew
  go_enter Try.func26, Try.ntmps26
  go_wp2_with fail
  refine (l01FIs_bd n d false _ HF.out).mono ?_; rintro e w1 ⟨rfl, hb1⟩
  have hp1 := HNEW.out.below hb1 (by simp)
  simp only [World.size_alloc] at hp1
  have HB2 := Lib.hid hb1
  have q0 := Lib.hid (hp1.set0 (.int .i64 0)).1
  have q1 := Lib.hid ((hp1.set0 (.int .i64 0)).set1 (.int .i64 0)).2.1
  obtain ⟨p0, p1, p2, p3⟩ := hp1
  clear hb1
  go_wp2
  refine bodyPost_ret (v := .tuple #[.agg #[.int .i64 0, .int .i64 0], .bool false]) (by simp [results, Try.results26, go_sem, q0.out, q1.out]) rfl ⟨rfl, ?_⟩
  exact ((((((Below.refl w.heap.size w).alloc (Nat.le_refl _) _).alloc (by simp) _).alloc (by simp; omega) _).trans (HB2.out.mono (by simp; omega))).setCell (by simp; omega) _).setCell (by simp; omega) _
set_option maxHeartbeats 1000000 in
set_option maxRecDepth 100000 in
theorem specDiv_i2 (n d p q : Int) (w : World) (hf : fracB n d = true) (hg : fracB p q = false) :
    Calls Try.prog 26 #[.agg #[.int .i64 n, .int .i64 d], .agg #[.int .i64 p, .int .i64 q]] w fun e w' => e = .returned (.tuple #[.agg #[.int .i64 0, .int .i64 0], .bool false]) ∧ Below w.heap.size w w' := by
  have HF := Lib.hid hf
  have HG := Lib.hid hg
  clear hf hg
  have hnew := At2.new ((w.alloc (.cells #[.int .i64 n, .int .i64 d] 35)).alloc (.cells #[.int .i64 p, .int .i64 q] 35)) (.int .i64 0) (.int .i64 0) 35
  have HNEW := Lib.hid hnew
  clear hnew
  go_enter Try.func26, Try.ntmps26
  go_wp2_with fail
  refine (l01FIs_bd n d true _ HF.out).mono ?_; rintro e w1 ⟨rfl, hb1⟩
  have j2 := cell_kept hb1 (a := ⟨w.heap.size + 1, 0, none⟩) (v := .int .i64 p) (by simp [go_sem])
  have j3 := cell_kept hb1 (a := ⟨w.heap.size + 1, 1, none⟩) (v := .int .i64 q) (by simp [go_sem])
  have hp1 := HNEW.out.below hb1 (by simp)
  simp only [World.size_alloc] at hp1
  have HP1 := Lib.hid hp1
  have HB1 := Lib.hid hb1
  clear hb1 hp1
  go_wp2_with fail
  refine (l01FIs_bd p q false _ HG.out).mono ?_; rintro e w2 ⟨rfl, hb2⟩
  have k2 := cell_kept hb2 j2
  have hp1 := HP1.out.below hb2 HP1.out.lt
  have HB2 := Lib.hid (HB1.out.trans (hb2.mono HB1.out.size))
  have q0 := Lib.hid (hp1.set0 (.int .i64 0)).1
  have q1 := Lib.hid ((hp1.set0 (.int .i64 0)).set1 (.int .i64 0)).2.1
  obtain ⟨p0, p1, p2, p3⟩ := hp1
  clear hb2 j2 j3
  go_wp2
  refine bodyPost_ret (v := .tuple #[.agg #[.int .i64 0, .int .i64 0], .bool false]) (by simp [results, Try.results26, go_sem, q0.out, q1.out]) rfl ⟨rfl, ?_⟩
  exact ((((((Below.refl w.heap.size w).alloc (Nat.le_refl _) _).alloc (by simp) _).alloc (by simp; omega) _).trans (HB2.out.mono (by simp; omega))).setCell (by simp; omega) _).setCell (by simp; omega) _
set_option maxHeartbeats 1000000 in
set_option maxRecDepth 100000 in
theorem specDiv_i3 (n d p q : Int) (w : World) (hf : fracB n d = true) (hg : fracB p q = true) (h0 : (p == 0) = true) :
    Calls Try.prog 26 #[.agg #[.int .i64 n, .int .i64 d], .agg #[.int .i64 p, .int .i64 q]] w fun e w' => e = .returned (.tuple #[.agg #[.int .i64 0, .int .i64 0], .bool false]) ∧ Below w.heap.size w w' := by
  have HF := Lib.hid hf
  have HG := Lib.hid hg
  clear hf hg
  have hnew := At2.new ((w.alloc (.cells #[.int .i64 n, .int .i64 d] 35)).alloc (.cells #[.int .i64 p, .int .i64 q] 35)) (.int .i64 0) (.int .i64 0) 35
  have HNEW := Lib.hid hnew
  clear hnew
  go_enter Try.func26, Try.ntmps26
  go_wp2_with fail
  refine (l01FIs_bd n d true _ HF.out).mono ?_; rintro e w1 ⟨rfl, hb1⟩
  have j2 := cell_kept hb1 (a := ⟨w.heap.size + 1, 0, none⟩) (v := .int .i64 p) (by simp [go_sem])
  have j3 := cell_kept hb1 (a := ⟨w.heap.size + 1, 1, none⟩) (v := .int .i64 q) (by simp [go_sem])
  have hp1 := HNEW.out.below hb1 (by simp)
  simp only [World.size_alloc] at hp1
  have HP1 := Lib.hid hp1
  have HB1 := Lib.hid hb1
  clear hb1 hp1
  go_wp2_with fail
  refine (l01FIs_bd p q true _ HG.out).mono ?_; rintro e w2 ⟨rfl, hb2⟩
  have k2 := cell_kept hb2 j2
  have hp1 := HP1.out.below hb2 HP1.out.lt
  have HB2 := Lib.hid (HB1.out.trans (hb2.mono HB1.out.size))
  have q0 := Lib.hid (hp1.set0 (.int .i64 0)).1
  have q1 := Lib.hid ((hp1.set0 (.int .i64 0)).set1 (.int .i64 0)).2.1
  obtain ⟨p0, p1, p2, p3⟩ := hp1
  clear hb2 j2 j3
  go_wp2
  refine bodyPost_ret (v := .tuple #[.agg #[.int .i64 0, .int .i64 0], .bool false]) (by simp [results, Try.results26, go_sem, q0.out, q1.out]) rfl ⟨rfl, ?_⟩
  exact ((((((Below.refl w.heap.size w).alloc (Nat.le_refl _) _).alloc (by simp) _).alloc (by simp; omega) _).trans (HB2.out.mono (by simp; omega))).setCell (by simp; omega) _).setCell (by simp; omega) _
set_option maxHeartbeats 1000000 in
set_option maxRecDepth 100000 in
theorem implDiv_i2 (n d p q : Int) (w : World) (hf : fracB p q = false) :
    Calls Try.prog 27 #[.agg #[.int .i64 n, .int .i64 d], .agg #[.int .i64 p, .int .i64 q]] w fun e w' => e = .returned (.tuple #[.agg #[.int .i64 0, .int .i64 0], .bool false]) ∧ Below w.heap.size w w' := by
  have HF := Lib.hid hf
  clear hf
  have hnew := At2.new ((w.alloc (.cells #[.int .i64 n, .int .i64 d] 35)).alloc (.cells #[.int .i64 p, .int .i64 q] 35)) (.int .i64 0) (.int .i64 0) 35
  have HNEW := Lib.hid hnew
  clear hnew
  go_enter Try.func27, Try.ntmps27
  go_wp2_with fail
  refine (implValid_bd p q false _ HF.out).mono ?_; rintro e w1 ⟨rfl, hb1⟩
  have hp1 := HNEW.out.below hb1 (by simp)
  simp only [World.size_alloc] at hp1
  have HB2 := Lib.hid hb1
  have q0 := Lib.hid (hp1.set0 (.int .i64 0)).1
  have q1 := Lib.hid ((hp1.set0 (.int .i64 0)).set1 (.int .i64 0)).2.1
  obtain ⟨p0, p1, p2, p3⟩ := hp1
  clear hb1
  go_wp2
  refine bodyPost_ret (v := .tuple #[.agg #[.int .i64 0, .int .i64 0], .bool false]) (by simp [results, Try.results27, go_sem, q0.out, q1.out]) rfl ⟨rfl, ?_⟩
  exact ((((((Below.refl w.heap.size w).alloc (Nat.le_refl _) _).alloc (by simp) _).alloc (by simp; omega) _).trans (HB2.out.mono (by simp; omega))).setCell (by simp; omega) _).setCell (by simp; omega) _
set_option maxHeartbeats 1000000 in
set_option maxRecDepth 100000 in
theorem implDiv_i3 (n d p q : Int) (w : World) (hf : fracB p q = true) (h0 : (p == 0) = true) :
    Calls Try.prog 27 #[.agg #[.int .i64 n, .int .i64 d], .agg #[.int .i64 p, .int .i64 q]] w fun e w' => e = .returned (.tuple #[.agg #[.int .i64 0, .int .i64 0], .bool false]) ∧ Below w.heap.size w w' := by
  have HF := Lib.hid hf
  clear hf
  have hnew := At2.new ((w.alloc (.cells #[.int .i64 n, .int .i64 d] 35)).alloc (.cells #[.int .i64 p, .int .i64 q] 35)) (.int .i64 0) (.int .i64 0) 35
  have HNEW := Lib.hid hnew
  clear hnew
  go_enter Try.func27, Try.ntmps27
  go_wp2_with fail
  refine (implValid_bd p q true _ HF.out).mono ?_; rintro e w1 ⟨rfl, hb1⟩
  have j2 := cell_kept hb1 (a := ⟨w.heap.size + 1, 0, none⟩) (v := .int .i64 p) (by simp [go_sem])
  have j3 := cell_kept hb1 (a := ⟨w.heap.size + 1, 1, none⟩) (v := .int .i64 q) (by simp [go_sem])
  have hp1 := HNEW.out.below hb1 (by simp)
  simp only [World.size_alloc] at hp1
  have HB2 := Lib.hid hb1
  have q0 := Lib.hid (hp1.set0 (.int .i64 0)).1
  have q1 := Lib.hid ((hp1.set0 (.int .i64 0)).set1 (.int .i64 0)).2.1
  obtain ⟨p0, p1, p2, p3⟩ := hp1
  clear hb1
  go_wp2
  refine bodyPost_ret (v := .tuple #[.agg #[.int .i64 0, .int .i64 0], .bool false]) (by simp [results, Try.results27, go_sem, q0.out, q1.out]) rfl ⟨rfl, ?_⟩
  exact ((((((Below.refl w.heap.size w).alloc (Nat.le_refl _) _).alloc (by simp) _).alloc (by simp; omega) _).trans (HB2.out.mono (by simp; omega))).setCell (by simp; omega) _).setCell (by simp; omega) _
set_option maxRecDepth 100000 in
theorem implDiv_p (n d p q N D : Int) (c : Bool) (w : World) (hf : fracB p q = true) (hs : 0 < p) (HM : Hid (∀ w, Calls Try.prog 25 #[.agg #[.int .i64 n, .int .i64 d], .agg #[.int .i64 q, .int .i64 p]] w fun e w' => e = .returned (.tuple #[.agg #[.int .i64 N, .int .i64 D], .bool c]) ∧ Below w.heap.size w w')) :
    Calls Try.prog 27 #[.agg #[.int .i64 n, .int .i64 d], .agg #[.int .i64 p, .int .i64 q]] w fun e w' => e = .returned (.tuple #[.agg #[.int .i64 N, .int .i64 D], .bool c]) ∧ Below w.heap.size w w' := by
  have h0 : (p == 0) = false := by simp; omega
  have hn0 : ¬ p = 0 := by omega
  have HF := Lib.hid hf
  clear hf
  have hnew := At2.new ((w.alloc (.cells #[.int .i64 n, .int .i64 d] 35)).alloc (.cells #[.int .i64 p, .int .i64 q] 35)) (.int .i64 0) (.int .i64 0) 35
  have HNEW := Lib.hid hnew
  clear hnew
  go_enter Try.func27, Try.ntmps27
  go_wp2_with fail
  refine (implValid_bd p q true _ HF.out).mono ?_; rintro e w1 ⟨rfl, hb1⟩
  have j0 := cell_kept hb1 (a := ⟨w.heap.size, 0, none⟩) (v := .int .i64 n) (by simp [go_sem])
  have j1 := cell_kept hb1 (a := ⟨w.heap.size, 1, none⟩) (v := .int .i64 d) (by simp [go_sem])
  have j2 := cell_kept hb1 (a := ⟨w.heap.size + 1, 0, none⟩) (v := .int .i64 p) (by simp [go_sem])
  have j3 := cell_kept hb1 (a := ⟨w.heap.size + 1, 1, none⟩) (v := .int .i64 q) (by simp [go_sem])
  have hp1 := HNEW.out.below hb1 (by simp)
  simp only [World.size_alloc] at hp1
  have HP1 := Lib.hid hp1
  have HB1 := Lib.hid hb1
  clear hb1 hp1
  go_wp2_with fail
  refine (HM.out _).mono ?_; rintro e w2 ⟨rfl, hb2⟩
  have hp1 := HP1.out.below hb2 HP1.out.lt
  have HB2 := Lib.hid (HB1.out.trans (hb2.mono HB1.out.size))
  have q0 := Lib.hid (hp1.set0 (.int .i64 N)).1
  have q1 := Lib.hid ((hp1.set0 (.int .i64 N)).set1 (.int .i64 D)).2.1
  obtain ⟨p0, p1, p2, p3⟩ := hp1
  clear hb2 j0 j1 j2 j3
  go_wp2
  refine bodyPost_ret (v := .tuple #[.agg #[.int .i64 N, .int .i64 D], .bool c]) (by simp [results, Try.results27, go_sem, q0.out, q1.out]) rfl ⟨rfl, ?_⟩
  exact ((((((Below.refl w.heap.size w).alloc (Nat.le_refl _) _).alloc (by simp) _).alloc (by simp; omega) _).trans (HB2.out.mono (by simp; omega))).setCell (by simp; omega) _).setCell (by simp; omega) _
set_option maxRecDepth 100000 in
theorem implDiv_n (n d p q N D : Int) (c : Bool) (w : World) (hf : fracB p q = true) (hs : p < 0) (hb : -1000000000000000000 ≤ p ∧ -1000000000000000000 ≤ q ∧ q ≤ 1000000000000000000) (HM : Hid (∀ w, Calls Try.prog 25 #[.agg #[.int .i64 n, .int .i64 d], .agg #[.int .i64 (-q), .int .i64 (-p)]] w fun e w' => e = .returned (.tuple #[.agg #[.int .i64 N, .int .i64 D], .bool c]) ∧ Below w.heap.size w w')) :
    Calls Try.prog 27 #[.agg #[.int .i64 n, .int .i64 d], .agg #[.int .i64 p, .int .i64 q]] w fun e w' => e = .returned (.tuple #[.agg #[.int .i64 N, .int .i64 D], .bool c]) ∧ Below w.heap.size w w' := by
  have h0 : (p == 0) = false := by simp; omega
  have hn0 : ¬ p = 0 := by omega
  have wp : IntKind.i64.wrap (-p) = -p := IntWalk.i64_in _ (by omega)
  have wq : IntKind.i64.wrap (-q) = -q := IntWalk.i64_in _ (by omega)
  have HF := Lib.hid hf
  clear hf
  have hnew := At2.new ((w.alloc (.cells #[.int .i64 n, .int .i64 d] 35)).alloc (.cells #[.int .i64 p, .int .i64 q] 35)) (.int .i64 0) (.int .i64 0) 35
  have HNEW := Lib.hid hnew
  clear hnew
  go_enter Try.func27, Try.ntmps27
  go_wp2_with fail
  refine (implValid_bd p q true _ HF.out).mono ?_; rintro e w1 ⟨rfl, hb1⟩
  have j0 := cell_kept hb1 (a := ⟨w.heap.size, 0, none⟩) (v := .int .i64 n) (by simp [go_sem])
  have j1 := cell_kept hb1 (a := ⟨w.heap.size, 1, none⟩) (v := .int .i64 d) (by simp [go_sem])
  have j2 := cell_kept hb1 (a := ⟨w.heap.size + 1, 0, none⟩) (v := .int .i64 p) (by simp [go_sem])
  have j3 := cell_kept hb1 (a := ⟨w.heap.size + 1, 1, none⟩) (v := .int .i64 q) (by simp [go_sem])
  have hp1 := HNEW.out.below hb1 (by simp)
  simp only [World.size_alloc] at hp1
  have HP1 := Lib.hid hp1
  have HB1 := Lib.hid hb1
  clear hb1 hp1
  go_wp2_with fail
  refine (HM.out _).mono ?_; rintro e w2 ⟨rfl, hb2⟩
  have hp1 := HP1.out.below hb2 HP1.out.lt
  have HB2 := Lib.hid (HB1.out.trans (hb2.mono HB1.out.size))
  have q0 := Lib.hid (hp1.set0 (.int .i64 N)).1
  have q1 := Lib.hid ((hp1.set0 (.int .i64 N)).set1 (.int .i64 D)).2.1
  obtain ⟨p0, p1, p2, p3⟩ := hp1
  clear hb2 j0 j1 j2 j3
  go_wp2
  refine bodyPost_ret (v := .tuple #[.agg #[.int .i64 N, .int .i64 D], .bool c]) (by simp [results, Try.results27, go_sem, q0.out, q1.out]) rfl ⟨rfl, ?_⟩
  exact ((((((Below.refl w.heap.size w).alloc (Nat.le_refl _) _).alloc (by simp) _).alloc (by simp; omega) _).trans (HB2.out.mono (by simp; omega))).setCell (by simp; omega) _).setCell (by simp; omega) _

theorem div_both (n d p q : Int) : ∃ (N D : Int) (c : Bool), (∀ w, Calls Try.prog 26 #[.agg #[.int .i64 n, .int .i64 d], .agg #[.int .i64 p, .int .i64 q]] w fun e w' => e = .returned (.tuple #[.agg #[.int .i64 N, .int .i64 D], .bool c]) ∧ Below w.heap.size w w') ∧ (∀ w, Calls Try.prog 27 #[.agg #[.int .i64 n, .int .i64 d], .agg #[.int .i64 p, .int .i64 q]] w fun e w' => e = .returned (.tuple #[.agg #[.int .i64 N, .int .i64 D], .bool c]) ∧ Below w.heap.size w w') := by
  cases hg : fracB p q with
  | false =>
    cases hf : fracB n d with
    | false => exact ⟨_, _, _, fun w => specDiv_i1 n d p q w hf, fun w => implDiv_i2 n d p q w hg⟩
    | true => exact ⟨_, _, _, fun w => specDiv_i2 n d p q w hf hg, fun w => implDiv_i2 n d p q w hg⟩
  | true =>
    cases h0 : (p == 0) with
    | true =>
      cases hf : fracB n d with
      | false => exact ⟨_, _, _, fun w => specDiv_i1 n d p q w hf, fun w => implDiv_i3 n d p q w hg h0⟩
      | true => exact ⟨_, _, _, fun w => specDiv_i3 n d p q w hf hg h0, fun w => implDiv_i3 n d p q w hg h0⟩
    | false =>
      have hp0 : p ≠ 0 := by simpa using h0
      obtain ⟨g1, g2, g3, g4, -⟩ := frac_pt hg
      have mk := fun w => l01FMake_any q p w (by omega) (by omega) (by omega) (by omega) hp0
      by_cases hs : 0 < p
      · obtain ⟨t1, t2, t3⟩ := turn_pos p q hg hs
        rw [t2, t3] at mk
        cases hf : fracB n d with
        | false => exact ⟨_, _, _, fun w => specDiv_i1 n d p q w hf, fun w => implDiv_p n d p q _ _ _ w hg hs (Lib.hid fun w => implMul_i1 n d q p w hf)⟩
        | true =>
          obtain ⟨N, D, c, hS, hI⟩ := fmul_both n d q p hf t1
          exact ⟨N, D, c, fun w => specDiv_v n d p q _ _ N D c w hf hg h0 (Lib.hid mk) (Lib.hid hS), fun w => implDiv_p n d p q N D c w hg hs (Lib.hid hI)⟩
      · obtain ⟨t1, t2, t3⟩ := turn_neg p q hg (by omega)
        rw [t2, t3] at mk
        cases hf : fracB n d with
        | false => exact ⟨_, _, _, fun w => specDiv_i1 n d p q w hf, fun w => implDiv_n n d p q _ _ _ w hg (by omega) ⟨by omega, by omega, by omega⟩ (Lib.hid fun w => implMul_i1 n d (-q) (-p) w hf)⟩
        | true =>
          obtain ⟨N, D, c, hS, hI⟩ := fmul_both n d (-q) (-p) hf t1
          exact ⟨N, D, c, fun w => specDiv_v n d p q _ _ N D c w hf hg h0 (Lib.hid mk) (Lib.hid hS), fun w => implDiv_n n d p q N D c w hg (by omega) ⟨by omega, by omega, by omega⟩ (Lib.hid hI)⟩
end Go.Proofs.Ytejjoejapnnlkaa
