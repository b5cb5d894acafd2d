/- A wave several times, on both sides, and the walk of its law. -/
import Derived.Test.YtlhgpalobdnfoabIn64
import Derived.Test.YtlhgpalobdnfoabWaveStr
import Derived.Test.YtlhgpalobdnfoabShelf
namespace Go.Proofs.Ytlhgpalobdnfoab
open Go.RowKit

theorem wave_size2 (s : ByteArray) (h : waveB s.data.toList = true) : s.size ≤ 400 := by
  unfold waveB at h
  simp only [Bool.and_eq_true, decide_eq_true_eq, size_toList] at h
  omega
def repA (s : ByteArray) (k : Nat) : ByteArray := ⟨(Lib.repeatL s.data.toList k).toArray⟩
theorem repL_snoc (l : List UInt8) (k : Nat) : Lib.repeatL l k ++ l = Lib.repeatL l (k + 1) := by
  induction k with
  | zero => simp [Lib.repeatL]
  | succ n ih => rw [Lib.repeatL, List.append_assoc, ih]; rfl
theorem repA_size (s : ByteArray) (k : Nat) (h : s.size ≤ 400) (hk : k ≤ 400) : (repA s k).size ≤ 160000 := by
  have h1 : (repA s k).size = k * s.size := by
    show (Lib.repeatL s.data.toList k).toArray.size = _
    rw [List.size_toArray, Lib.repeatL_length, size_toList]
  rw [h1]
  exact Nat.mul_le_mul hk h
theorem repA_snoc (s : ByteArray) (k : Nat) : repA s k ++ s = repA s (k + 1) := by
  unfold repA
  apply ByteArray.ext
  rw [ByteArray.data_append]
  apply Array.ext'
  rw [Array.toList_append, ← repL_snoc]

theorem implRepeat_f1 (s : ByteArray) (t : Int) (w : World) (hs : s.size ≤ maxLen) (hwv : waveB s.data.toList = false) :
    Calls Try.prog 16 #[.string s, .int .i64 t] w fun e w' => e = .returned (.tuple #[.string ⟨#[]⟩, .bool false]) ∧ Below w.heap.size w w' := by
  have HWV := Lib.hid hwv
  clear hwv
  go_enter Try.func16, Try.ntmps16
  go_wp2_with fail
  refine ((implIsWave s _ hs).mono (R' := fun e w' => e = .returned (.bool false) ∧ Below w.heap.size w w') (fun e w' h => by rw [HWV.out] at h; exact h)).mono ?_
  rintro e w1 ⟨rfl, hb1⟩
  go_wp2
  go_ret2
  exact ⟨rfl, hb1⟩
theorem implRepeat_f2 (s : ByteArray) (t : Int) (w : World) (hs : s.size ≤ maxLen) (hwv : waveB s.data.toList = true) (ht : t < 0 ∨ 400 < t) :
    Calls Try.prog 16 #[.string s, .int .i64 t] w fun e w' => e = .returned (.tuple #[.string ⟨#[]⟩, .bool false]) ∧ Below w.heap.size w w' := by
  have HWV := Lib.hid hwv
  clear hwv
  go_enter Try.func16, Try.ntmps16
  go_wp2_with fail
  refine ((implIsWave s _ hs).mono (R' := fun e w' => e = .returned (.bool true) ∧ Below w.heap.size w w') (fun e w' h => by rw [HWV.out] at h; exact h)).mono ?_
  rintro e w1 ⟨rfl, hb1⟩
  go_wp2_with fail
  refine (within_i64_f _ _ _ _ ht).mono ?_; rintro e w' ⟨rfl, rfl⟩
  go_wp2
  go_ret2
  exact ⟨rfl, hb1⟩
theorem implRepeat_f3 (s : ByteArray) (t : Int) (w : World) (hs : s.size ≤ maxLen) (hwv : waveB s.data.toList = true) (h0 : 0 ≤ t) (h4 : t ≤ 400) (hm : 400 < (s.size : Int) * t) (hm2 : (s.size : Int) * t ≤ 160000) :
    Calls Try.prog 16 #[.string s, .int .i64 t] w fun e w' => e = .returned (.tuple #[.string ⟨#[]⟩, .bool false]) ∧ Below w.heap.size w w' := by
  have HWV := Lib.hid hwv
  clear hwv
  go_enter Try.func16, Try.ntmps16
  go_wp2_with fail
  refine ((implIsWave s _ hs).mono (R' := fun e w' => e = .returned (.bool true) ∧ Below w.heap.size w w') (fun e w' h => by rw [HWV.out] at h; exact h)).mono ?_
  rintro e w1 ⟨rfl, hb1⟩
  go_wp2_with fail
  refine (within_i64_t _ _ _ _ h0 h4).mono ?_; rintro e w' ⟨rfl, rfl⟩
  go_wp2
  go_ret2
  exact ⟨rfl, hb1⟩
theorem specRepeat_f1 (s : ByteArray) (t : Int) (w : World) (hs : s.size ≤ maxLen) (hwv : waveB s.data.toList = false) :
    Calls Try.prog 15 #[.string s, .int .i64 t] w fun e w' => e = .returned (.tuple #[.string ⟨#[]⟩, .bool false]) ∧ Below w.heap.size w w' := by
  have HWV := Lib.hid hwv
  clear hwv
  go_enter Try.func15, Try.ntmps15
  go_wp2_with fail
  refine ((l01Wave_any s _ hs).mono (R' := fun e w' => e = .returned (.bool false) ∧ w = w') (fun e w' h => by rw [HWV.out] at h; exact h)).mono ?_
  rintro e w' ⟨rfl, rfl⟩
  go_wp2
  go_ret2
  exact ⟨rfl, Below.refl _ _⟩
theorem specRepeat_f2 (s : ByteArray) (t : Int) (w : World) (hs : s.size ≤ maxLen) (hwv : waveB s.data.toList = true) (ht : t < 0 ∨ 400 < t) :
    Calls Try.prog 15 #[.string s, .int .i64 t] w fun e w' => e = .returned (.tuple #[.string ⟨#[]⟩, .bool false]) ∧ Below w.heap.size w w' := by
  have HWV := Lib.hid hwv
  clear hwv
  go_enter Try.func15, Try.ntmps15
  go_wp2_with fail
  refine ((l01Wave_any s _ hs).mono (R' := fun e w' => e = .returned (.bool true) ∧ w = w') (fun e w' h => by rw [HWV.out] at h; exact h)).mono ?_
  rintro e w' ⟨rfl, rfl⟩
  go_wp2_with fail
  refine (l00In_f _ _ _ _ ht).mono ?_; rintro e w' ⟨rfl, rfl⟩
  go_wp2
  go_ret2
  exact ⟨rfl, Below.refl _ _⟩
theorem specRepeat_f3 (s : ByteArray) (t : Int) (w : World) (hs : s.size ≤ maxLen) (hwv : waveB s.data.toList = true) (h0 : 0 ≤ t) (h4 : t ≤ 400) (hm : 400 < (s.size : Int) * t) (hm2 : (s.size : Int) * t ≤ 160000) :
    Calls Try.prog 15 #[.string s, .int .i64 t] w fun e w' => e = .returned (.tuple #[.string ⟨#[]⟩, .bool false]) ∧ Below w.heap.size w w' := by
  have HWV := Lib.hid hwv
  clear hwv
  go_enter Try.func15, Try.ntmps15
  go_wp2_with fail
  refine ((l01Wave_any s _ hs).mono (R' := fun e w' => e = .returned (.bool true) ∧ w = w') (fun e w' h => by rw [HWV.out] at h; exact h)).mono ?_
  rintro e w' ⟨rfl, rfl⟩
  go_wp2_with fail
  refine (l00In_t _ _ _ _ h0 h4).mono ?_; rintro e w' ⟨rfl, rfl⟩
  go_wp2
  go_ret2
  exact ⟨rfl, Below.refl _ _⟩
set_option maxRecDepth 100000 in
theorem implRepeat_t (s : ByteArray) (m : Nat) (w : World) (hs : s.size ≤ maxLen) (hwv : waveB s.data.toList = true) (h4 : m ≤ 400) (hm : (s.size : Int) * m ≤ 400) (hm0 : 0 ≤ (s.size : Int) * m) :
    Calls Try.prog 16 #[.string s, .int .i64 m] w fun e w' => e = .returned (.tuple #[.string (repA s m), .bool true]) ∧ Below w.heap.size w w' := by
  have hnat : s.size * m ≤ 400 := by
    have : ((s.size * m : Nat) : Int) ≤ 400 := by rw [Int.natCast_mul]; exact hm
    omega
  have HWV := Lib.hid hwv
  clear hwv
  go_enter Try.func16, Try.ntmps16
  go_wp2_with fail
  refine ((implIsWave s _ hs).mono (R' := fun e w' => e = .returned (.bool true) ∧ Below w.heap.size w w') (fun e w' h => by rw [HWV.out] at h; exact h)).mono ?_
  rintro e w1 ⟨rfl, hb1⟩
  go_wp2_with fail
  refine (within_i64_t _ _ _ _ (by omega) (by omega)).mono ?_; rintro e w' ⟨rfl, rfl⟩
  go_wp2_with fail
  refine (Try.strings_Repeat s m _ (by omega) (by omega)).mono ?_; rintro e w2 ⟨rfl, hb2⟩
  go_wp2
  go_ret2
  exact ⟨rfl, hb1.trans (hb2.mono hb1.size)⟩
set_option maxRecDepth 100000 in
theorem specRepeat_t (s : ByteArray) (m : Nat) (w : World) (hs : s.size ≤ maxLen) (hwv : waveB s.data.toList = true) (h4 : m ≤ 400) (hm : (s.size : Int) * m ≤ 400) (hm0 : 0 ≤ (s.size : Int) * m) :
    Calls Try.prog 15 #[.string s, .int .i64 m] w fun e w' => e = .returned (.tuple #[.string (repA s m), .bool true]) ∧ Below w.heap.size w w' := by
  have hd : decide ((400 : Int) < (s.size : Int) * (m : Int)) = false := by simp; omega
  have hsz := wave_size2 s hwv
  have HWV := Lib.hid hwv
  clear hwv
  go_enter Try.func15, Try.ntmps15
  go_wp2_with fail
  refine ((l01Wave_any s _ hs).mono (R' := fun e w' => e = .returned (.bool true) ∧ w = w') (fun e w' h => by rw [HWV.out] at h; exact h)).mono ?_
  rintro e w' ⟨rfl, rfl⟩
  go_wp2_with fail
  refine (l00In_t _ _ _ _ (by omega) (by omega)).mono ?_; rintro e w' ⟨rfl, rfl⟩
  go_wp2
  go_loop [1, 6] (fun t v => ∃ k : Nat, k ≤ m ∧ t = .int .i64 ((m : Int) - k) ∧ v = .string (repA s k)) (fun t _ => (intOf t).toNat)
  case atStart => exact ⟨0, Nat.zero_le _, by simp, rfl⟩
  case round =>
    obtain ⟨k, hk, rfl, rfl⟩ := hrel
    by_cases hlt : k < m
    · have HS := Lib.hid (repA_snoc s k)
      have hrs := repA_size s k hsz (by omega)
      have hnl : ¬ maxLen < (repA s k).size + s.size := by unfold maxLen; omega
      have hgt : 0 < (m : Int) - k := by omega
      go_wp2
      go_round
      case rel => exact ⟨k + 1, by omega, by go_num, by rw [HS.out]⟩
      case measure => simp [intOf]; omega
    · obtain rfl : k = m := by omega
      go_wp2
      go_ret2
      exact ⟨rfl, Below.refl _ _⟩
theorem walk_FnExactRepeatWave (s : ByteArray) (t : Int) (w : World) (hs : s.size ≤ maxLen) (_wt : (Lit.int .i64 t).wf = true) :
    Calls Try.prog 4 #[.string s, .int .i64 t] w fun e w' => e = .returned (.bool true) ∧ Below w.heap.size w w' := by
  by_cases hl : (s.size : Int) ≤ 1048576
  · skip
    obtain ⟨r, c, hS, hI⟩ : ∃ (r : ByteArray) (c : Bool), (∀ w, Calls Try.prog 15 #[.string s, .int .i64 t] w fun e w' => e = .returned (.tuple #[.string r, .bool c]) ∧ Below w.heap.size w w') ∧ (∀ w, Calls Try.prog 16 #[.string s, .int .i64 t] w fun e w' => e = .returned (.tuple #[.string r, .bool c]) ∧ Below w.heap.size w w') := by
      cases hwv : waveB s.data.toList with
      | false => exact ⟨_, _, fun w => specRepeat_f1 s t w hs hwv, fun w => implRepeat_f1 s t w hs hwv⟩
      | true =>
        have hsz := wave_size2 s hwv
        by_cases ht : 0 ≤ t ∧ t ≤ 400
        · have hb0 : 0 ≤ (s.size : Int) * t := Int.mul_nonneg (by omega) ht.1
          have hb1 : (s.size : Int) * t ≤ 400 * 400 := Int.mul_le_mul (by omega) ht.2 ht.1 (by omega)
          by_cases hm : (s.size : Int) * t ≤ 400
          · obtain ⟨m, rfl⟩ := Int.eq_ofNat_of_zero_le ht.1
            exact ⟨_, _, fun w => specRepeat_t s m w hs hwv (by omega) hm hb0, fun w => implRepeat_t s m w hs hwv (by omega) hm hb0⟩
          · exact ⟨_, _, fun w => specRepeat_f3 s t w hs hwv ht.1 ht.2 (by omega) (by omega), fun w => implRepeat_f3 s t w hs hwv ht.1 ht.2 (by omega) (by omega)⟩
        · exact ⟨_, _, fun w => specRepeat_f2 s t w hs hwv (by omega), fun w => implRepeat_f2 s t w hs hwv (by omega)⟩
    have HS := Lib.hid hS
    have HI := Lib.hid hI
    clear hS hI
    go_enter Try.func4, Try.ntmps4
    go_wp2_with fail
    refine (HS.out _).mono ?_; rintro e w1 ⟨rfl, b1⟩
    go_wp2_with fail
    refine (HI.out _).mono ?_; rintro e w2 ⟨rfl, b2⟩
    go_wp2
    go_ret
    exact ⟨rfl, b1.trans (b2.mono b1.size)⟩
  · go_enter Try.func4, Try.ntmps4
    go_wp2
    go_ret
    exact ⟨rfl, Below.refl _ _⟩
end Go.Proofs.Ytlhgpalobdnfoab
