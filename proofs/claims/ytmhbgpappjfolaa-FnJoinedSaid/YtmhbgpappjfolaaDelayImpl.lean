/- A wave that comes later, on the side of the program; and the walk of its law. -/
import Derived.Test.YtmhbgpappjfolaaDelaySpec
import Derived.Test.YtmhbgpappjfolaaIn64
import Derived.Test.YtmhbgpappjfolaaWaveStr
import Derived.Test.YtmhbgpappjfolaaShelf
import Derived.Deep.RegionWith
import Derived.IntWalk
namespace Go.Proofs.Ytmhbgpappjfolaa
open Go.RowKit

theorem repeatL_zero (c : Nat) : Lib.repeatL [48] c = List.replicate c (48 : UInt8) := by
  induction c with
  | zero => rfl
  | succ n ih => simp [Lib.repeatL, List.replicate_succ, ih]
theorem repeat_any (c : Nat) (w : World) (hc : c ≤ 400) :
    Calls Try.prog 63 #[.string ⟨#[48]⟩, .int .i64 c] w fun e w' => e = .returned (.string ⟨(List.replicate c (48 : UInt8)).toArray⟩) ∧ Below w.heap.size w w' := by
  refine (Try.strings_Repeat ⟨#[48]⟩ c w (by omega) (by show 1 * c ≤ _; omega)).mono ?_
  rintro e w' ⟨rfl, hb⟩
  exact ⟨by rw [← repeatL_zero], hb⟩
theorem wave_size (s : ByteArray) (h : waveB s.data.toList = true) : s.size ≤ 400 := by
  unfold waveB at h
  simp only [Bool.and_eq_true, decide_eq_true_eq, size_toList] at h
  omega

theorem delay_str (s : ByteArray) (t m : Nat) (hm : min t s.size = m) : (⟨Array.replicate m 48⟩ ++ s.extract 0 (s.size - m) : ByteArray) = ⟨(delL t s.data.toList s.size).toArray⟩ := by
  apply ByteArray.ext
  rw [ByteArray.data_append]
  apply Array.ext'
  rw [Array.toList_append]
  apply List.ext_getElem
  · simp [delL]; omega
  · intro i h1 h2
    rw [List.getElem_append]
    simp [delL, List.getD_eq_getElem?_getD]
    have h3 : i < s.size := by simpa [delL] using h2
    by_cases hi : i < m
    · simp [hi]; intro h; omega
    · have h4 : i - t < s.size := by omega
      have h5 : m = t := by omega
      subst h5
      simp [hi]
      rw [Array.getElem?_eq_getElem h4]
      rfl

set_option maxHeartbeats 1000000 in
set_option maxRecDepth 100000 in
theorem implDelay_t (s : ByteArray) (t : Nat) (w : World) (hs : s.size ≤ maxLen) (ht : t ≤ 400) (hwv : waveB s.data.toList = true) :
    Calls Try.prog 22 #[.string s, .int .i64 t] w fun e w' => e = .returned (.tuple #[.string ⟨(delL t s.data.toList s.size).toArray⟩, .bool true]) ∧ Below w.heap.size w w' := by
  have hsz := wave_size s hwv
  have HWV := Lib.hid hwv
  clear hwv
  obtain ⟨m, hm⟩ : ∃ m : Nat, min t s.size = m := ⟨_, rfl⟩
  have hm1 : m ≤ t := by omega
  have hm2 : m ≤ s.size := by omega
  have hmin : min (t : Int) (s.size : Int) = (m : Int) := by omega
  have HD := Lib.hid (delay_str s t m hm)
  clear hm
  go_enter Try.func22, Try.ntmps22
  go_wp2_with fail
  refine ((implIsWave s _ hs).mono (R' := fun e w' => e = .returned (.bool true) ∧ Below w.heap.size w w') (fun e w' h => by rw [HWV.out] at h; exact h)).mono ?_
  rintro e w1 ⟨rfl, hb1⟩
  go_wp2_with fail
  refine (within_i64_t _ _ _ _ (by omega) (by omega)).mono ?_; rintro e w' ⟨rfl, rfl⟩
  go_wp2
  have e1 : IntKind.i64.wrap ((s.size : Int) - (m : Int)) = (s.size : Int) - (m : Int) := IntWalk.i64_in _ (by omega)
  have e2 : 0 ≤ (s.size : Int) - (m : Int) := by omega
  have e3 : ((s.size : Int) - (m : Int)).toNat = s.size - m := by omega
  have e4 : s.size - m ≤ s.size := by omega
  go_region_with (go_at_call 63; refine (repeat_any m _ (by omega)).mono ?_; rintro e w2 ⟨rfl, hb2⟩)
  all_goals go_wp2
  all_goals go_ret2
  all_goals exact ⟨by rw [← HD.out]; rfl, hb1.trans (⟨hb2.os, hb2.tape, hb2.output, hb2.size, fun k hk => hb2.block k (Nat.lt_of_lt_of_le hk hb1.size)⟩ : Below w.heap.size w1 w2)⟩
theorem implDelay_f1 (s : ByteArray) (t : Int) (w : World) (hs : s.size ≤ maxLen) (hwv : waveB s.data.toList = false) :
    Calls Try.prog 22 #[.string s, .int .i64 t] w fun e w' => e = .returned (.tuple #[.string ⟨#[]⟩, .bool false]) ∧ Below w.heap.size w w' := by
  have HWV := Lib.hid hwv
  clear hwv
  go_enter Try.func22, Try.ntmps22
  go_wp2_with fail
  refine ((implIsWave s _ hs).mono (R' := fun e w' => e = .returned (.bool false) ∧ Below w.heap.size w w') (fun e w' h => by rw [HWV.out] at h; exact h)).mono ?_
  rintro e w1 ⟨rfl, hb1⟩
  go_wp2
  go_ret2
  exact ⟨rfl, hb1⟩
theorem implDelay_f2 (s : ByteArray) (t : Int) (w : World) (hs : s.size ≤ maxLen) (hwv : waveB s.data.toList = true) (ht : t < 0 ∨ 400 < t) :
    Calls Try.prog 22 #[.string s, .int .i64 t] w fun e w' => e = .returned (.tuple #[.string ⟨#[]⟩, .bool false]) ∧ Below w.heap.size w w' := by
  have HWV := Lib.hid hwv
  clear hwv
  go_enter Try.func22, Try.ntmps22
  go_wp2_with fail
  refine ((implIsWave s _ hs).mono (R' := fun e w' => e = .returned (.bool true) ∧ Below w.heap.size w w') (fun e w' h => by rw [HWV.out] at h; exact h)).mono ?_
  rintro e w1 ⟨rfl, hb1⟩
  go_wp2_with fail
  refine (within_i64_f _ _ _ _ ht).mono ?_; rintro e w' ⟨rfl, rfl⟩
  go_wp2
  go_ret2
  exact ⟨rfl, hb1⟩
end Go.Proofs.Ytmhbgpappjfolaa
