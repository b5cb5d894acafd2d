/- How often a wave goes up in windows, one behind the other: the model's side, and the law's walk. -/
import Derived.Test.YtkipgeecibimoaaCWin
import Derived.Test.YtkipgeecibimoaaUpsS
namespace Go.Proofs.Ytkipgeecibimoaa
open Go.RowKit Go.Shelf
set_option linter.unusedVariables false
set_option linter.unusedSimpArgs false

def cwK (s : ByteArray) (T : Nat) : Nat → List Int
  | 0 => []
  | k + 1 => if (k + 1) % T = 0 then cwK s T k ++ [((lastC (upB s) T (k + 1) : Nat) : Int)] else cwK s T k
theorem cwK_eq (s : ByteArray) (T : Nat) (hT : 1 ≤ T) (k : Nat) : cwL T (upsL s T k) = cwK s T k := by
  induction k with
  | zero => rfl
  | succ k ih =>
    rw [cwK]
    by_cases h : T ≤ k + 1
    · rw [upsL_hit s T k h]
      by_cases h0 : (k + 1) % T = 0
      · rw [if_pos h0, cwL_hit T _ _ (by show Int.tmod ((k + 1 : Nat) : Int) (T : Int) = 0; rw [show Int.tmod ((k + 1 : Nat) : Int) (T : Int) = (((k + 1) % T : Nat) : Int) from rfl, h0]; rfl), ih]
      · rw [if_neg h0, cwL_miss T _ _ (by show ¬ Int.tmod ((k + 1 : Nat) : Int) (T : Int) = 0; rw [show Int.tmod ((k + 1 : Nat) : Int) (T : Int) = (((k + 1) % T : Nat) : Int) from rfl]; omega), ih]
    · rw [upsL_miss s T k h, if_neg (by rw [Nat.mod_eq_of_lt (by omega)]; omega), ih]
theorem cwK_gap (s : ByteArray) (T f : Nat) (hf : f % T = 0) : ∀ d, d < T → cwK s T (f + d) = cwK s T f := by
  intro d
  induction d with
  | zero => intro _; rfl
  | succ d ih =>
    intro h
    rw [← Nat.add_assoc, cwK, if_neg (by
      have e : (f + d + 1) % T = (d + 1) % T := by rw [Nat.add_assoc, Nat.add_mod, hf, Nat.zero_add, Nat.mod_mod]
      rw [e, Nat.mod_eq_of_lt h]; omega), ih (by omega)]
theorem cwK_next (s : ByteArray) (T f : Nat) (hT : 1 ≤ T) (hf : f % T = 0) : cwK s T (f + T) = cwK s T f ++ [((lastC (upB s) T (f + T) : Nat) : Int)] := by
  obtain ⟨t, rfl⟩ : ∃ t, T = t + 1 := ⟨T - 1, by omega⟩
  have e : (f + t + 1) % (t + 1) = 0 := by rw [Nat.add_assoc, Nat.add_mod_right, hf]
  rw [← Nat.add_assoc, cwK, if_pos e, cwK_gap s (t + 1) f hf t (by omega)]
theorem cwK_len (s : ByteArray) (T k : Nat) : (cwK s T k).length ≤ k := by
  induction k with
  | zero => simp [cwK]
  | succ k ih => rw [cwK]; split <;> first | (simp; omega) | omega
theorem last_winC (m : Nat → Bool) (T f : Nat) : cntN m f (f + T - f) = lastC m T (f + T) := by
  unfold lastC; rw [show f + T - T = f by omega, Nat.min_eq_right (by omega), show f + T - f = T by omega]
theorem cell_one_atC (W : World) (x : Value) (t : TypeId) (q : Nat) (hq : q = W.heap.size) : ∀ j u, [x][j]? = some u → (W.alloc (.cells #[x] t)).cell? ((⟨q, 0, none⟩ : Addr).add j) = some u := by subst hq; exact cell_one_new _ _ _
theorem ints_belowC {B : Nat} {w wr w1 : World} {v : Value} {l : List Int} (hB : Below B w wr) (hBw : B ≤ w.heap.size) (h : Ints wr B v l) (o : Obj) (hg : (wr.alloc o).grownBy w1 v.ownBlock) : Below B w w1 :=
  (hB.alloc (Nat.le_trans hBw hB.size) o).grown hg (by have := hB.size; simp; omega) (fun k e => ((World.ownsRow.alloc h o).lt k e).1)
theorem implCW_f (s : ByteArray) (T : Int) (w : World) (hs : s.size ≤ maxLen) (hc : canB s T = false) :
    Calls Try.prog 19 #[.string s, .int .i64 T] w fun e W' => ∃ v, e = .returned (.tuple #[v, .bool false]) ∧ Ints W' w.heap.size v [] ∧ Below w.heap.size w W' := by
  have HC := Lib.hid (fun w => canF_any s T w hs)
  rw [hc] at HC
  go_enter Try.func19, Try.ntmps19
  go_wp2_with fail
  refine (HC.out _).mono ?_; rintro e w1 ⟨rfl, b1⟩
  have HB1 := Lib.hid b1
  clear b1
  go_wp2
  go_ret2
  refine ⟨_, rfl, Ints.nil _ _, ?_⟩
  first | exact HB1.out | exact ((Below.refl w.heap.size w).alloc (Nat.le_refl _) _).trans (HB1.out.mono (by simp))
end Go.Proofs.Ytkipgeecibimoaa
