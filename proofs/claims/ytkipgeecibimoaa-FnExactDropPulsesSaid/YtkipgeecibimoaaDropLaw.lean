/- The walk of a law: DropPulses answers the same on both sides. -/
import Derived.Test.YtkipgeecibimoaaDropI
import Derived.Test.YtkipgeecibimoaaDropS
namespace Go.Proofs.Ytkipgeecibimoaa
open Go.RowKit

theorem drop_both (s : ByteArray) (T : Int) (hs : s.size ≤ maxLen) : ∃ (r0 : ByteArray) (r1 : Bool), (∀ w, Calls Try.prog 12 #[.string s, .int .i64 T] w fun e w' => e = .returned (.tuple #[.string r0, .bool r1]) ∧ Below w.heap.size w w') ∧ (∀ w, Calls Try.prog 13 #[.string s, .int .i64 T] w fun e w' => e = .returned (.tuple #[.string r0, .bool r1]) ∧ Below w.heap.size w w') := by
  cases hc : canB s T with
  | true =>
    obtain ⟨hw, hT1, hT2⟩ := canB_t hc
    obtain ⟨n, rfl⟩ := Int.eq_ofNat_of_zero_le (show 0 ≤ T by omega)
    exact ⟨_, _, fun w => specDrop_t s n w hs hc, fun w => implDrop_t s n w hs hc⟩
  | false => exact ⟨_, _, fun w => specDrop_f s T w hs hc, fun w => implDrop_f s T w hs hc⟩
set_option maxHeartbeats 1000000 in
set_option maxRecDepth 100000 in
theorem walk_FnExactDropPulses (s : ByteArray) (T : Int) (w : World) (h_s : s.size ≤ maxLen) (h_T : (Lit.int .i64 T).wf = true) :
    Calls Try.prog 3 #[.string s, .int .i64 T] w fun e w' => e = .returned (.bool true) ∧ Below w.heap.size w w' := by
  by_cases l_s : (s.size : Int) ≤ 1048576
  case neg =>
    go_enter Try.func3, Try.ntmps3
    go_wp2
    go_ret
    exact ⟨rfl, Below.refl _ _⟩
  obtain ⟨r0, r1, hS, hI⟩ := drop_both s T h_s
  have HS := Lib.hid hS
  have HI := Lib.hid hI
  clear hS hI
  go_enter Try.func3, Try.ntmps3
  go_wp2_with fail
  refine (HS.out _).mono ?_; rintro e w1 ⟨rfl, b1⟩
  go_wp2_with fail
  refine (HI.out _).mono ?_; rintro e w2 ⟨rfl, b2⟩
  go_wp2
  go_ret
  exact ⟨rfl, b1.trans (b2.mono b1.size)⟩
end Go.Proofs.Ytkipgeecibimoaa
