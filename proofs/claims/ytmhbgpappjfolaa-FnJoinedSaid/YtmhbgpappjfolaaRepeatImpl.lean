/- A wave several times, on both sides, and the walk of its law. -/
import Derived.Test.YtmhbgpappjfolaaIn64
import Derived.Test.YtmhbgpappjfolaaWaveStr
import Derived.Test.YtmhbgpappjfolaaShelf
namespace Go.Proofs.Ytmhbgpappjfolaa
open Go.RowKit

theorem wave_size2 (s : ByteArray) (h : waveB s.data.toList = true) : s.size ≤ 400 := by
  unfold waveB at h
  simp only [Bool.and_eq_true, decide_eq_true_eq, size_toList] at h
  omega
def repA (s : ByteArray) (k : Nat) : ByteArray := ⟨(Lib.repeatL s.data.toList k).toArray⟩
theorem repL_snoc (l : List UInt8) (k : Nat) : Lib.repeatL l k ++ l = Lib.repeatL l (k + 1) := by
  induction k with
  | zero => simp [Lib.repeatL]
  | succ n ih => rw [Lib.repeatL, List.append_assoc, ih]; rfl
theorem repA_size (s : ByteArray) (k : Nat) (h : s.size ≤ 400) (hk : k ≤ 400) : (repA s k).size ≤ 160000 := by
  have h1 : (repA s k).size = k * s.size := by
    show (Lib.repeatL s.data.toList k).toArray.size = _
    rw [List.size_toArray, Lib.repeatL_length, size_toList]
  rw [h1]
  exact Nat.mul_le_mul hk h
theorem repA_snoc (s : ByteArray) (k : Nat) : repA s k ++ s = repA s (k + 1) := by
  unfold repA
  apply ByteArray.ext
  rw [ByteArray.data_append]
  apply Array.ext'
  rw [Array.toList_append, ← repL_snoc]

theorem implRepeat_f1 (s : ByteArray) (t : Int) (w : World) (hs : s.size ≤ maxLen) (hwv : waveB s.data.toList = false) :
    Calls Try.prog 23 #[.string s, .int .i64 t] w fun e w' => e = .returned (.tuple #[.string ⟨#[]⟩, .bool false]) ∧ Below w.heap.size w w' := by
  have HWV := Lib.hid hwv
  clear hwv
  go_enter Try.func23, Try.ntmps23
  go_wp2_with fail
  refine ((implIsWave s _ hs).mono (R' := fun e w' => e = .returned (.bool false) ∧ Below w.heap.size w w') (fun e w' h => by rw [HWV.out] at h; exact h)).mono ?_
  rintro e w1 ⟨rfl, hb1⟩
  go_wp2
  go_ret2
  exact ⟨rfl, hb1⟩
theorem implRepeat_f2 (s : ByteArray) (t : Int) (w : World) (hs : s.size ≤ maxLen) (hwv : waveB s.data.toList = true) (ht : t < 0 ∨ 400 < t) :
    Calls Try.prog 23 #[.string s, .int .i64 t] w fun e w' => e = .returned (.tuple #[.string ⟨#[]⟩, .bool false]) ∧ Below w.heap.size w w' := by
  have HWV := Lib.hid hwv
  clear hwv
  go_enter Try.func23, Try.ntmps23
  go_wp2_with fail
  refine ((implIsWave s _ hs).mono (R' := fun e w' => e = .returned (.bool true) ∧ Below w.heap.size w w') (fun e w' h => by rw [HWV.out] at h; exact h)).mono ?_
  rintro e w1 ⟨rfl, hb1⟩
  go_wp2_with fail
  refine (within_i64_f _ _ _ _ ht).mono ?_; rintro e w' ⟨rfl, rfl⟩
  go_wp2
  go_ret2
  exact ⟨rfl, hb1⟩
theorem implRepeat_f3 (s : ByteArray) (t : Int) (w : World) (hs : s.size ≤ maxLen) (hwv : waveB s.data.toList = true) (h0 : 0 ≤ t) (h4 : t ≤ 400) (hm : 400 < (s.size : Int) * t) (hm2 : (s.size : Int) * t ≤ 160000) :
    Calls Try.prog 23 #[.string s, .int .i64 t] w fun e w' => e = .returned (.tuple #[.string ⟨#[]⟩, .bool false]) ∧ Below w.heap.size w w' := by
  have HWV := Lib.hid hwv
  clear hwv
  go_enter Try.func23, Try.ntmps23
  go_wp2_with fail
  refine ((implIsWave s _ hs).mono (R' := fun e w' => e = .returned (.bool true) ∧ Below w.heap.size w w') (fun e w' h => by rw [HWV.out] at h; exact h)).mono ?_
  rintro e w1 ⟨rfl, hb1⟩
  go_wp2_with fail
  refine (within_i64_t _ _ _ _ h0 h4).mono ?_; rintro e w' ⟨rfl, rfl⟩
  go_wp2
  go_ret2
  exact ⟨rfl, hb1⟩
set_option maxRecDepth 100000 in
theorem implRepeat_t (s : ByteArray) (m : Nat) (w : World) (hs : s.size ≤ maxLen) (hwv : waveB s.data.toList = true) (h4 : m ≤ 400) (hm : (s.size : Int) * m ≤ 400) (hm0 : 0 ≤ (s.size : Int) * m) :
    Calls Try.prog 23 #[.string s, .int .i64 m] w fun e w' => e = .returned (.tuple #[.string (repA s m), .bool true]) ∧ Below w.heap.size w w' := by
  have hnat : s.size * m ≤ 400 := by
    have : ((s.size * m : Nat) : Int) ≤ 400 := by rw [Int.natCast_mul]; exact hm
    omega
  have HWV := Lib.hid hwv
  clear hwv
  go_enter Try.func23, Try.ntmps23
  go_wp2_with fail
  refine ((implIsWave s _ hs).mono (R' := fun e w' => e = .returned (.bool true) ∧ Below w.heap.size w w') (fun e w' h => by rw [HWV.out] at h; exact h)).mono ?_
  rintro e w1 ⟨rfl, hb1⟩
  go_wp2_with fail
  refine (within_i64_t _ _ _ _ (by omega) (by omega)).mono ?_; rintro e w' ⟨rfl, rfl⟩
  go_wp2_with fail
  refine (Try.strings_Repeat s m _ (by omega) (by omega)).mono ?_; rintro e w2 ⟨rfl, hb2⟩
  go_wp2
  go_ret2
  exact ⟨rfl, hb1.trans (hb2.mono hb1.size)⟩
end Go.Proofs.Ytmhbgpappjfolaa
