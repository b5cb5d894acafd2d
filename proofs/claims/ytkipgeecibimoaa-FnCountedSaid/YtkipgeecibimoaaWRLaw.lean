/- The least and the greatest number of ups in windows of a wave: the model's side, both sides, and the law's walk. -/
import Derived.Test.YtkipgeecibimoaaWRange
import Derived.Test.YtkipgeecibimoaaUpsS
namespace Go.Proofs.Ytkipgeecibimoaa
open Go.RowKit Go.Shelf
set_option linter.unusedVariables false
set_option linter.unusedSimpArgs false

theorem l00Min_v (x y : Int) (w : World) : Calls Try.prog 155 #[.int .i64 x, .int .i64 y] w fun e w' => e = .returned (.int .i64 (min x y)) ∧ w = w' := by
  by_cases h : x < y
  · have h1 := decide_eq_true h
    rw [show min x y = x by omega]
    go_enter Try.func155, Try.ntmps155
    go_wp2
    go_ret
    exact ⟨rfl, rfl⟩
  · have h1 := decide_eq_false h
    rw [show min x y = y by omega]
    go_enter Try.func155, Try.ntmps155
    go_wp2
    go_ret
    exact ⟨rfl, rfl⟩
theorem l00Max_v (x y : Int) (w : World) : Calls Try.prog 142 #[.int .i64 x, .int .i64 y] w fun e w' => e = .returned (.int .i64 (max x y)) ∧ w = w' := by
  by_cases h : y < x
  · have h1 := decide_eq_true h
    have h2 : x > y := h
    have h3 := decide_eq_true h2
    rw [show max x y = x by omega]
    go_enter Try.func142, Try.ntmps142
    go_wp2
    go_ret
    exact ⟨rfl, rfl⟩
  · have h1 := decide_eq_false h
    have h2 : ¬ x > y := h
    have h3 := decide_eq_false h2
    rw [show max x y = y by omega]
    go_enter Try.func142, Try.ntmps142
    go_wp2
    go_ret
    exact ⟨rfl, rfl⟩
theorem upsL_none (s : ByteArray) (T k : Nat) (h : k < T) : upsL s T k = [] := by
  induction k with
  | zero => rfl
  | succ k ih => rw [upsL_miss s T k (by omega), ih (by omega)]
theorem last_win (m : Nat → Bool) (T f : Nat) : lastC m T (f + T) = cntN m f T := by
  unfold lastC; rw [show f + T - T = f by omega, Nat.min_eq_right (by omega)]
theorem implWR_f (s : ByteArray) (T : Int) (w : World) (hs : s.size ≤ maxLen) (h : ¬ (canB s T = true ∧ T ≤ (s.size : Int))) :
    Calls Try.prog 20 #[.string s, .int .i64 T] w fun e w' => e = .returned (.tuple #[.int .i64 0, .int .i64 0, .bool false]) ∧ Below w.heap.size w w' := by
  have HC := Lib.hid (fun w => canF_any s T w hs)
  cases hc : canB s T with
  | false =>
    rw [hc] at HC
    go_enter Try.func20, Try.ntmps20
    go_wp2_with fail
    refine (HC.out _).mono ?_; rintro e w1 ⟨rfl, b1⟩
    go_wp2
    go_ret3
    exact ⟨rfl, b1⟩
  | true =>
    rw [hc] at HC
    have hlt : (s.size : Int) < T := by
      rcases Decidable.em (T ≤ (s.size : Int)) with q | q
      · exact absurd ⟨hc, q⟩ h
      · omega
    have hd := decide_eq_true hlt
    go_enter Try.func20, Try.ntmps20
    go_wp2_with fail
    refine (HC.out _).mono ?_; rintro e w1 ⟨rfl, b1⟩
    go_wp2
    go_ret3
    exact ⟨rfl, b1⟩
theorem implWR_t (s : ByteArray) (T : Nat) (w : World) (hs : s.size ≤ maxLen) (hc : canB s (T : Int) = true) (hTs : T ≤ s.size) :
    Calls Try.prog 20 #[.string s, .int .i64 (T : Int)] w fun e w' => e = .returned (.tuple #[.int .i64 (loL T (upsL s T s.size)), .int .i64 (hiL (upsL s T s.size)), .bool true]) ∧ Below w.heap.size w w' :=
  callsIn_wide (n := 5).1 (implWR_in 5 (Nat.le_refl _) s T w hs hc hTs)
end Go.Proofs.Ytkipgeecibimoaa
