/- When a wave has not gone up for too long: the model's side, and the law's walk. -/
import Derived.Test.YtkipgeecibimoaaTOut
import Derived.Test.YtkipgeecibimoaaCWLaw
namespace Go.Proofs.Ytkipgeecibimoaa
open Go.RowKit Go.Shelf
set_option linter.unusedVariables false
set_option linter.unusedSimpArgs false

def toK (s : ByteArray) (T : Nat) : Nat → List Int
  | 0 => []
  | k + 1 => if quietN (upB s) (k + 1) = T then toK s T k ++ [(k : Int)] else toK s T k
theorem toK_len (s : ByteArray) (T k : Nat) : (toK s T k).length ≤ k := by
  induction k with
  | zero => simp [toK]
  | succ k ih => rw [toK]; split <;> first | (simp; omega) | omega
theorem toK_eq (s : ByteArray) (T : Nat) (hT : 1 ≤ T) (k : Nat) : tmL (upsL s T k) = toK s T k ∧ ltL (upsL s T k) = decide (T ≤ quietN (upB s) k) := by
  induction k with
  | zero => exact ⟨rfl, by simp [quietN, upsL, ltL, stL]; omega⟩
  | succ k ih =>
    have hf := quiet_first (upB s) T k hT
    rw [toK]
    by_cases h : T ≤ k + 1
    · have hl := quiet_last (upB s) T (k + 1) hT h
      have hz : ((((lastC (upB s) T (k + 1) : Nat) : Int) == 0) : Bool) = decide (T ≤ quietN (upB s) (k + 1)) := by
        rw [← hl, Bool.eq_iff_iff]; simp
      rw [upsL_hit s T k h, tmL_snoc, ltL_snoc, ih.1, ih.2]
      dsimp only
      rw [hz]
      refine ⟨?_, rfl⟩
      by_cases hq : quietN (upB s) (k + 1) = T
      · rw [if_pos hq]
        rw [show (quietN (upB s) (k + 1) == T) = true from by simp [hq]] at hf
        rw [← hf, if_pos rfl]
        congr 2; omega
      · rw [if_neg hq]
        rw [show (quietN (upB s) (k + 1) == T) = false from by simp [hq]] at hf
        rw [← hf]; rfl
    · have hle := quietN_le (upB s) (k + 1)
      have hle2 := quietN_le (upB s) k
      rw [upsL_miss s T k h, if_neg (by omega)]
      exact ⟨ih.1, by rw [ih.2, decide_eq_false (show ¬ T ≤ quietN (upB s) k by omega), decide_eq_false (show ¬ T ≤ quietN (upB s) (k + 1) by omega)]⟩
theorem implTO_f (s : ByteArray) (T : Int) (w : World) (hs : s.size ≤ maxLen) (hc : canB s T = false) :
    Calls Try.prog 18 #[.string s, .int .i64 T] w fun e W' => ∃ v, e = .returned (.tuple #[v, .bool false]) ∧ Ints W' w.heap.size v [] ∧ Below w.heap.size w W' := by
  have HC := Lib.hid (fun w => canF_any s T w hs)
  rw [hc] at HC
  go_enter Try.func18, Try.ntmps18
  go_wp2_with fail
  refine (HC.out _).mono ?_; rintro e w1 ⟨rfl, b1⟩
  have HB1 := Lib.hid b1
  clear b1
  go_wp2
  go_ret2
  refine ⟨_, rfl, Ints.nil _ _, ?_⟩
  first | exact HB1.out | exact ((Below.refl w.heap.size w).alloc (Nat.le_refl _) _).trans (HB1.out.mono (by simp))
end Go.Proofs.Ytkipgeecibimoaa
