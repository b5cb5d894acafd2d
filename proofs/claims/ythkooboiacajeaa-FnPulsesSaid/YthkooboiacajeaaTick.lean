/- The walks of two laws: the range of gaps, and the tick of a pulse, are the same on both sides. -/
import Derived.Test.YthkooboiacajeaaStep
import Derived.BigQuiet
import Derived.Deep.QuietTactic
import Derived.Deep.RegionWith
namespace Go.Proofs.Ythkooboiacajeaa
open Go.RowKit
set_option linter.unusedVariables false
theorem quiet_eqs {P : Program} {f : FuncId} {args : Array Value} {w : World} {n : Nat} {v : Value}
    (h : Calls P f args (w.drewN n) fun e w' => e = .returned v ∧ w.drewN n = w') : Calls P f args (w.drewN n) fun e w'' => e = .returned v ∧ ∃ m, w'' = w.drewN m :=
  h.mono fun _ _ ⟨he, hm⟩ => ⟨he, n, hm.symm⟩
theorem below_drew1 {B : Nat} {a w : World} (h : Below B a w) : Below B a w.drew := ⟨h.os, h.tape, h.output, h.size, h.block⟩
theorem below_drawn {B : Nat} {a w : World} (h : Below B a w) (n : Nat) : Below B a (w.drewN n) := ⟨h.os, h.tape, h.output, h.size, h.block⟩

theorem implGap_t (s m : Int) (w : World) (h1 : 1 ≤ m) (h2 : m ≤ 1000) (h3 : 1 ≤ s) (h4 : s ≤ m) :
    Calls Try.prog 12 #[.int .i64 s, .int .i64 m] w fun e w' => e = .returned (.tuple #[.int .i64 (m / s), .int .i64 (upQ m s), .bool true]) ∧ Below w.heap.size w w' := by
  have hne : (s == 0) = false := by simp; omega
  have hn0 : ¬ s = 0 := by omega
  have hq : upQ (1 * m - 0) s = upQ m s := by rw [Int.one_mul, Int.sub_zero]
  have HQ := Lib.hid hq
  clear hq
  have hm0 : m / s ≤ m := Int.ediv_le_self _ (by omega)
  have hm1 : 0 ≤ m / s := Int.ediv_nonneg (by omega) (by omega)
  have hdv : IntKind.i64.wrap (m.tdiv s) = m / s := by rw [Int.tdiv_eq_ediv_of_nonneg (by omega)]; exact IntWalk.i64_in _ (by omega)
  have HDV := Lib.hid hdv
  clear hm0 hm1 hdv
  go_enter Try.func12, Try.ntmps12
  go_wp2_with fail
  refine (accValid_t _ _ _ _ h1 h2 h3 h4 (by omega) (by omega)).mono ?_; rintro e w1 ⟨rfl, hb1⟩
  obtain ⟨hc, hf⟩ := bcell hb1
  have PE := Lib.hid (fun w => pulseEnd_any 1 s m 0 w (by omega) (by omega) h1 h2 h3 h4 (by omega) (by omega))
  rw [HQ.out] at PE
  go_wp2_with fail
  go_region_with ((go_at_call 23; refine (PE.out _).mono ?_; rintro e w2 ⟨rfl, hb2⟩))
  all_goals
    go_wp2
    refine bodyPost_ret (v := .tuple #[.int .i64 (m / s), .int .i64 (upQ m s), .bool true]) (by simp [results, Try.results12, go_sem, HDV.out]) rfl ⟨rfl, ?_⟩
    exact ((Below.refl _ _).alloc (Nat.le_refl _) _).trans (((below_drew1 hb1).trans (hb2.mono hb1.size)).mono (by simp))
theorem implGap_f (s m : Int) (w : World) (h : m < 1 ∨ 1000 < m ∨ s < 1 ∨ m < s) :
    Calls Try.prog 12 #[.int .i64 s, .int .i64 m] w fun e w' => e = .returned (.tuple #[.int .i64 0, .int .i64 0, .bool false]) ∧ Below w.heap.size w w' := by
  go_enter Try.func12, Try.ntmps12
  go_wp2_with fail
  refine (accValid_f _ _ _ _ (by omega)).mono ?_; rintro e w1 ⟨rfl, hb1⟩
  go_wp2
  refine bodyPost_ret (v := .tuple #[.int .i64 0, .int .i64 0, .bool false]) (by simp [results, Try.results12, go_sem]) rfl ⟨rfl, ?_⟩
  exact ((Below.refl _ _).alloc (Nat.le_refl _) _).trans (hb1.mono (by simp))

/-- the tick of a pulse -/
def tkQ (s m p k : Int) : Int := upQ ((k + 1) * m - p) s - 1
theorem tk_bd (s m p k : Int) (hk0 : 0 ≤ k) (hk : k ≤ 100000) (h1 : 1 ≤ m) (h2 : m ≤ 1000) (h3 : 1 ≤ s) (h4 : s ≤ m) (h5 : 0 ≤ p) (h6 : p ≤ m - 1) :
    0 ≤ (k + 1) * m ∧ (k + 1) * m ≤ 100001000 ∧ m ≤ (k + 1) * m ∧ 0 ≤ tkQ s m p k ∧ tkQ s m p k ≤ 100001000 ∧ (k + 1) * m - p ≤ (tkQ s m p k + 1) * s ∧ (tkQ s m p k + 1) * s ≤ (k + 1) * m - p + s - 1 := by
  have b1 : 0 ≤ (k + 1) * m := Int.mul_nonneg (by omega) (by omega)
  have b2 : (k + 1) * m ≤ 100001 * 1000 := Int.mul_le_mul (by omega) h2 (by omega) (by omega)
  have b3 : m ≤ (k + 1) * m := by
    have := Int.mul_le_mul_of_nonneg_right (show 1 ≤ k + 1 by omega) (show 0 ≤ m by omega)
    omega
  obtain ⟨q0, q1, q2, q3⟩ := upQ_bd ((k + 1) * m - p) s (by omega) h3
  have q4 : 1 ≤ upQ ((k + 1) * m - p) s := by
    by_cases h : upQ ((k + 1) * m - p) s = 0
    · rw [h] at q2; omega
    · omega
  unfold tkQ
  rw [Int.sub_add_cancel]
  exact ⟨b1, by omega, b3, by omega, by omega, q2, q1⟩
theorem l03Tick_any (s m p k : Int) (w : World) (hk0 : 0 ≤ k) (hk : k ≤ 100000) (h1 : 1 ≤ m) (h2 : m ≤ 1000) (h3 : 1 ≤ s) (h4 : s ≤ m) (h5 : 0 ≤ p) (h6 : p ≤ m - 1) :
    Calls Try.prog 26 #[.int .i64 s, .int .i64 m, .int .i64 p, .int .i64 k] w fun e w' => e = .returned (.int .i64 (tkQ s m p k)) ∧ w = w' := by
  obtain ⟨b1, b2, b3, q0, q1, -, -⟩ := tk_bd s m p k hk0 hk h1 h2 h3 h4 h5 h6
  have e1 : upQ ((k + 1) * m - p) s = tkQ s m p k + 1 := by unfold tkQ; omega
  have E1 := Lib.hid e1
  clear e1
  have w0 : IntKind.i64.wrap (k + 1) = k + 1 := IntWalk.i64_in _ (by omega)
  have w1 : IntKind.i64.wrap ((k + 1) * m) = (k + 1) * m := IntWalk.i64_in _ (by omega)
  have w2 : IntKind.i64.wrap ((k + 1) * m - p) = (k + 1) * m - p := IntWalk.i64_in _ (by omega)
  go_enter Try.func26, Try.ntmps26
  go_wp2_with fail
  refine (l03Up_any _ _ _ (by omega) (by omega) (by omega) (by omega)).mono ?_; rw [E1.out]; rintro e w' ⟨rfl, rfl⟩
  go_wp2
  go_ret
  exact ⟨ret_int (by omega), rfl⟩
theorem specTick_t (s m p k : Int) (w : World) (hk0 : 0 ≤ k) (hk : k ≤ 100000) (h1 : 1 ≤ m) (h2 : m ≤ 1000) (h3 : 1 ≤ s) (h4 : s ≤ m) (h5 : 0 ≤ p) (h6 : p ≤ m - 1) :
    Calls Try.prog 15 #[.int .i64 s, .int .i64 m, .int .i64 p, .int .i64 k] w fun e w' => e = .returned (.tuple #[.int .i64 (tkQ s m p k), .bool true]) ∧ w = w' := by
  go_enter Try.func15, Try.ntmps15
  go_wp2_with fail
  refine (l03Steps_t _ _ _ h1 h2 h3 h4).mono ?_; rintro e w' ⟨rfl, rfl⟩
  go_wp2_with fail
  refine (l00In_t _ _ _ _ h5 h6).mono ?_; rintro e w' ⟨rfl, rfl⟩
  go_wp2_with fail
  refine (l00In_t _ _ _ _ hk0 hk).mono ?_; rintro e w' ⟨rfl, rfl⟩
  go_wp2_with fail
  refine (l03Tick_any _ _ _ _ _ hk0 hk h1 h2 h3 h4 h5 h6).mono ?_; rintro e w' ⟨rfl, rfl⟩
  go_wp2
  go_ret2
  exact ⟨rfl, rfl⟩
theorem specTick_f (s m p k : Int) (w : World) (h : m < 1 ∨ 1000 < m ∨ s < 1 ∨ m < s ∨ p < 0 ∨ m - 1 < p ∨ k < 0 ∨ 100000 < k) :
    Calls Try.prog 15 #[.int .i64 s, .int .i64 m, .int .i64 p, .int .i64 k] w fun e w' => e = .returned (.tuple #[.int .i64 0, .bool false]) ∧ w = w' := by
  by_cases k1 : 1 ≤ m ∧ m ≤ 1000 ∧ 1 ≤ s ∧ s ≤ m
  · obtain ⟨k11, k12, k13, k14⟩ := k1
    by_cases k2 : 0 ≤ p ∧ p ≤ m - 1
    · go_enter Try.func15, Try.ntmps15
      go_wp2_with fail
      refine (l03Steps_t _ _ _ k11 k12 k13 k14).mono ?_; rintro e w' ⟨rfl, rfl⟩
      go_wp2_with fail
      refine (l00In_t _ _ _ _ k2.1 k2.2).mono ?_; rintro e w' ⟨rfl, rfl⟩
      go_wp2_with fail
      refine (l00In_f _ _ _ _ (by omega)).mono ?_; rintro e w' ⟨rfl, rfl⟩
      go_wp2
      go_ret2
      exact ⟨rfl, rfl⟩
    · go_enter Try.func15, Try.ntmps15
      go_wp2_with fail
      refine (l03Steps_t _ _ _ k11 k12 k13 k14).mono ?_; rintro e w' ⟨rfl, rfl⟩
      go_wp2_with fail
      refine (l00In_f _ _ _ _ (by omega)).mono ?_; rintro e w' ⟨rfl, rfl⟩
      go_wp2
      go_ret2
      exact ⟨rfl, rfl⟩
  · go_enter Try.func15, Try.ntmps15
    go_wp2_with fail
    refine (l03Steps_f _ _ _ (by omega)).mono ?_; rintro e w' ⟨rfl, rfl⟩
    go_wp2
    go_ret2
    exact ⟨rfl, rfl⟩
theorem implTick_t (s m p k : Int) (w : World) (hk0 : 0 ≤ k) (hk : k ≤ 100000) (h1 : 1 ≤ m) (h2 : m ≤ 1000) (h3 : 1 ≤ s) (h4 : s ≤ m) (h5 : 0 ≤ p) (h6 : p ≤ m - 1) :
    Calls Try.prog 13 #[.int .i64 s, .int .i64 m, .int .i64 p, .int .i64 k] w fun e w' => e = .returned (.tuple #[.int .i64 (tkQ s m p k), .bool true]) ∧ Below w.heap.size w w' := by
  obtain ⟨b1, b2, b3, q0, q1, -, -⟩ := tk_bd s m p k hk0 hk h1 h2 h3 h4 h5 h6
  have e1 : upQ ((k + 1) * m - p) s = tkQ s m p k + 1 := by unfold tkQ; omega
  have E1 := Lib.hid e1
  clear e1
  have w0 : IntKind.i64.wrap (k + 1) = k + 1 := IntWalk.i64_in _ (by omega)
  have w1 : IntKind.i64.wrap ((k + 1) * m) = (k + 1) * m := IntWalk.i64_in _ (by omega)
  have w2 : IntKind.i64.wrap ((k + 1) * m - p) = (k + 1) * m - p := IntWalk.i64_in _ (by omega)
  go_enter Try.func13, Try.ntmps13
  go_wp2_with fail
  refine (accValid_t _ _ _ _ h1 h2 h3 h4 h5 h6).mono ?_; rintro e w1 ⟨rfl, hb1⟩
  obtain ⟨hc, hf⟩ := bcell hb1
  go_wp2_with fail
  refine (within_i64_t _ _ _ _ hk0 hk).mono ?_; rintro e w' ⟨rfl, rfl⟩
  go_wp2_with fail
  refine (pulseEnd_any (k + 1) s m p _ (by omega) (by omega) h1 h2 h3 h4 h5 h6).mono ?_; rw [E1.out]; rintro e w2 ⟨rfl, hb2⟩
  go_wp2
  go_ret2
  refine ⟨by simp, ((Below.refl _ _).alloc (Nat.le_refl _) _).trans ((hb1.trans (hb2.mono hb1.size)).mono (by simp))⟩
theorem implTick_f (s m p k : Int) (w : World) (h : m < 1 ∨ 1000 < m ∨ s < 1 ∨ m < s ∨ p < 0 ∨ m - 1 < p ∨ k < 0 ∨ 100000 < k) :
    Calls Try.prog 13 #[.int .i64 s, .int .i64 m, .int .i64 p, .int .i64 k] w fun e w' => e = .returned (.tuple #[.int .i64 0, .bool false]) ∧ Below w.heap.size w w' := by
  by_cases k1 : 1 ≤ m ∧ m ≤ 1000 ∧ 1 ≤ s ∧ s ≤ m ∧ 0 ≤ p ∧ p ≤ m - 1
  · obtain ⟨k11, k12, k13, k14, k15, k16⟩ := k1
    go_enter Try.func13, Try.ntmps13
    go_wp2_with fail
    refine (accValid_t _ _ _ _ k11 k12 k13 k14 k15 k16).mono ?_; rintro e w1 ⟨rfl, hb1⟩
    go_wp2_with fail
    refine (within_i64_f _ _ _ _ (by omega)).mono ?_; rintro e w' ⟨rfl, rfl⟩
    go_wp2
    go_ret2
    exact ⟨rfl, ((Below.refl _ _).alloc (Nat.le_refl _) _).trans (hb1.mono (by simp))⟩
  · go_enter Try.func13, Try.ntmps13
    go_wp2_with fail
    refine (accValid_f _ _ _ _ (by omega)).mono ?_; rintro e w1 ⟨rfl, hb1⟩
    go_wp2
    go_ret2
    exact ⟨rfl, ((Below.refl _ _).alloc (Nat.le_refl _) _).trans (hb1.mono (by simp))⟩

end Go.Proofs.Ythkooboiacajeaa
