/- How many of the last ticks have the level 1, on the model's side. -/
import Derived.Test.YtkipgeecibimoaaOnesS
import Derived.Test.YtkipgeecibimoaaCanF
import Derived.Test.YtkipgeecibimoaaWinF
import Derived.WalkSmall
namespace Go.Proofs.Ytkipgeecibimoaa
open Go.RowKit
set_option linter.unusedVariables false

theorem count_cnt (s : ByteArray) (a n : Nat) (h : a + n ≤ s.size) : ((s.data.toList.take (a + n)).drop a).count 49 = cntN (bit s) a n := by
  induction n with
  | zero => rw [List.drop_of_length_le (by simp; omega)]; rfl
  | succ n ih =>
    have hlt : a + n < s.size := by omega
    rw [show a + (n + 1) = (a + n) + 1 by omega, take_snoc s (a + n) hlt, List.drop_append_of_le_length (by simp; omega), List.count_append, ih (by omega), cntN]
    congr 1
    have e := bit_at s (a + n) hlt
    cases hb : bit s (a + n) with
    | true =>
      rw [hb] at e
      have e2 : s[a + n] = 49 := by
        apply UInt8.toNat_inj.1
        have : (s[a + n].toNat : Int) = 49 := by simpa using e
        show s[a + n].toNat = 49
        omega
      rw [e2]; rfl
    | false =>
      rw [hb] at e
      have e2 : s[a + n] ≠ 49 := fun q => by rw [q] at e; revert e; decide
      simp [List.count_singleton, e2]
theorem extract_list (s : ByteArray) (a b : Nat) : (s.extract a b).data.toList = (s.data.toList.take b).drop a := by
  rw [ByteArray.data_extract, Array.toList_extract]
  simp [List.extract_eq_take_drop, List.drop_take]
theorem wave_extract {s : ByteArray} (h : waveB s.data.toList = true) (a b : Nat) : waveB (s.extract a b).data.toList = true := by
  have hl := wave_le h
  unfold waveB at *
  simp only [Bool.and_eq_true, decide_eq_true_eq] at *
  rw [extract_list]
  refine ⟨List.all_eq_true.2 fun x hx => List.all_eq_true.1 h.1 x (List.mem_of_mem_take (List.mem_of_mem_drop hx)), ?_⟩
  simp; omega
theorem l00Max_z (n : Nat) (x : Int) (w : World) (h : x = (n : Int) ∨ (x < 0 ∧ n = 0)) :
    Calls Try.prog 142 #[.int .i64 0, .int .i64 x] w fun e w' => e = .returned (.int .i64 (n : Int)) ∧ w = w' := by
  by_cases hx : x < 0
  · obtain rfl : n = 0 := by omega
    have h1 := decide_eq_true (show (0 : Int) > x by omega)
    go_enter Try.func142, Try.ntmps142
    go_wp2
    go_ret
    exact ⟨rfl, rfl⟩
  · obtain rfl : x = (n : Int) := by omega
    have h1 := decide_eq_false (show ¬ (0 : Int) > (n : Int) by omega)
    have h2 : ¬ (n : Int) < 0 := by omega
    go_enter Try.func142, Try.ntmps142
    go_wp2
    go_ret
    exact ⟨rfl, rfl⟩
end Go.Proofs.Ytkipgeecibimoaa
