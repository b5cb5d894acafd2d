/- Filtered waves: the program's side, both sides, and the laws' walks. -/
import Derived.Test.YtkipgeecibimoaaFilt
import Derived.Test.YtkipgeecibimoaaFltS
namespace Go.Proofs.Ytkipgeecibimoaa
open Go.RowKit Go.Shelf
set_option linter.unusedVariables false

theorem filt_none (s : ByteArray) (T : Int) (v : Value) (w : World) (hs : s.size ≤ maxLen) (hc : canB s T = false) :
    Calls Try.prog 69 #[.string s, .int .i64 T, v] w fun e w' => e = .returned (.tuple #[.string ⟨#[]⟩, .bool false]) ∧ Below w.heap.size w w' := by
  have HC := Lib.hid (fun w => canF_any s T w hs)
  rw [hc] at HC
  go_enter Try.func69, Try.ntmps69
  go_wp2_with fail
  refine (HC.out _).mono ?_; rintro e w1 ⟨rfl, b1⟩
  go_wp2
  go_ret2
  exact ⟨rfl, b1⟩
theorem below_boxed {w w' : World} (o : Obj) (h : (w.alloc o).grownBy w' (some w.heap.size)) : Below w.heap.size w w' := by
  have h0 : Below w.heap.size w (w.alloc o) := (Below.refl _ _).alloc (Nat.le_refl _) _
  exact ⟨h.os.trans h0.os, h.tape.trans h0.tape, h.output.trans h0.output, Nat.le_trans h0.size h.size, fun k hk => (h.block k (Nat.lt_of_lt_of_le hk h0.size) (by simp; omega)).trans (h0.block k hk)⟩
theorem fraw (T : Int) (h : 1 ≤ T ∧ T ≤ 50) : ∃ n : Nat, T = (n : Int) := ⟨T.toNat, by omega⟩
theorem even_tmod (T : Int) (h : T.tmod 2 ≠ 0 → False) : T.tmod 2 = 0 := Decidable.byContradiction fun q => h q
end Go.Proofs.Ytkipgeecibimoaa
