/- IsClean: the law's walk. -/
import Derived.Test.YtlobloaabghceaaClean3
namespace Go.Proofs.Ytlobloaabghceaa
open Go.RowKit Go.Shelf
set_option linter.unusedVariables false
set_option linter.unusedSimpArgs false
theorem waveC_size {s : ByteArray} (hw : waveB s.data.toList = true) : s.size ≤ 400 := by
  unfold waveB at hw; simp only [Bool.and_eq_true, decide_eq_true_eq, size_toList] at hw; omega
theorem clean_both (s : ByteArray) (a : ByteArray) (b : ByteArray) (h_s : s.size ≤ maxLen) (h_a : a.size ≤ maxLen) (h_b : b.size ≤ maxLen) (l_s : (s.size : Int) ≤ 1048576) (l_a : (a.size : Int) ≤ 1048576) (l_b : (b.size : Int) ≤ 1048576) : ∃ (r0 : Bool), (∀ w, Calls Try.prog 7 #[.string s, .string a, .string b] w fun e w' => e = .returned (.bool r0) ∧ Below w.heap.size w w') ∧ (∀ w, Calls Try.prog 8 #[.string s, .string a, .string b] w fun e w' => e = .returned (.bool r0) ∧ Below w.heap.size w w') := by
  cases h : are3B s a b with
  | false => exact ⟨false, fun w => specIs_f s a b w h_s h_a h_b h, fun w => implClean_f s a b w h_s h_a h_b h⟩
  | true =>
    obtain ⟨hw, hwa, ha, hwb, hb⟩ := (are3B_iff s a b).1 h
    have z1 := waveC_size hw
    have z2 := waveC_size hwa
    have z3 := waveC_size hwb
    refine ⟨cleanV s a b, fun w => specIs_t s a b _ w h_s h_a h_b h (fun w => ?_), fun w => implClean s a b w z1 hw hwa hwb ha hb⟩
    rw [← clean_val s a b hw hwa hwb ha hb]
    exact specClean s a b w z1 hw z2 hwa z3 hwb
set_option maxHeartbeats 1000000 in
set_option maxRecDepth 100000 in
theorem walk_FnExactIsClean (s : ByteArray) (a : ByteArray) (b : ByteArray) (w : World) (h_s : s.size ≤ maxLen) (h_a : a.size ≤ maxLen) (h_b : b.size ≤ maxLen) :
    Calls Try.prog 3 #[.string s, .string a, .string b] w fun e w' => e = .returned (.bool true) ∧ Below w.heap.size w w' := by
  by_cases l_s : (s.size : Int) ≤ 1048576
  case neg =>
    go_enter Try.func3, Try.ntmps3
    go_wp2
    go_ret
    exact ⟨rfl, Below.refl _ _⟩
  by_cases l_a : (a.size : Int) ≤ 1048576
  case neg =>
    go_enter Try.func3, Try.ntmps3
    go_wp2
    go_ret
    exact ⟨rfl, Below.refl _ _⟩
  by_cases l_b : (b.size : Int) ≤ 1048576
  case neg =>
    go_enter Try.func3, Try.ntmps3
    go_wp2
    go_ret
    exact ⟨rfl, Below.refl _ _⟩
  obtain ⟨r0, hS, hI⟩ := clean_both s a b h_s h_a h_b l_s l_a l_b
  have HS := Lib.hid hS
  have HI := Lib.hid hI
  clear hS hI
  go_enter Try.func3, Try.ntmps3
  go_wp2_with fail
  refine (HS.out _).mono ?_; rintro e w1 ⟨rfl, b1⟩
  go_wp2_with fail
  refine (HI.out _).mono ?_; rintro e w2 ⟨rfl, b2⟩
  go_wp2
  go_ret
  exact ⟨rfl, b1.trans (b2.mono b1.size)⟩
end Go.Proofs.Ytlobloaabghceaa
