/- The walk of a law: FillGaps answers the same on both sides. -/
import Derived.Test.YtkipgeecibimoaaDoorFillI
import Derived.Test.YtkipgeecibimoaaDoorFillS
namespace Go.Proofs.YtkipgeecibimoaaDoor
open Go.RowKit

theorem fill_both (s : ByteArray) (T : Int) (w0 : World) (mx : Int) (hmx : w0.cell? ⟨2, 0, none⟩ = some (.int .i64 mx)) (hs : s.size ≤ maxLen) : ∃ (r0 : ByteArray) (r1 : Bool), (∀ w, Calls Tryd.prog 6 #[.string s, .int .i64 T] w fun e w' => e = .returned (.tuple #[.string r0, .bool r1]) ∧ Below w.heap.size w w') ∧ (∀ w, Below w0.heap.size w0 w → Calls Tryd.prog 7 #[.string s, .int .i64 T] w fun e w' => e = .returned (.tuple #[.string r0, .bool r1]) ∧ Below w.heap.size w w') := by
  have hlt := World.block_lt_of_cell? w0 _ hmx
  cases hc : canB s T with
  | true =>
    obtain ⟨hw, hT1, hT2⟩ := canB_t hc
    obtain ⟨n, rfl⟩ := Int.eq_ofNat_of_zero_le (show 0 ≤ T by omega)
    exact ⟨_, _, fun w => specFill_t s n w hs hc, fun w hb => implFill_t s n w mx ((hb.cell (p := ⟨2, 0, none⟩) hlt).trans hmx) hs hc⟩
  | false => exact ⟨_, _, fun w => specFill_f s T w hs hc, fun w _ => implFill_f s T w hs hc⟩
set_option maxHeartbeats 1000000 in
set_option maxRecDepth 100000 in
theorem walk_FnExactFillGaps (s : ByteArray) (T : Int) (w : World) (h_s : s.size ≤ maxLen) (h_T : (Lit.int .i64 T).wf = true) (mx : Int) (hmx : w.cell? ⟨2, 0, none⟩ = some (.int .i64 mx)) :
    Calls Tryd.prog 3 #[.string s, .int .i64 T] w fun e w' => e = .returned (.bool true) ∧ Below w.heap.size w w' := by
  by_cases l_s : (s.size : Int) ≤ 1048576
  case neg =>
    clear hmx
    go_enter Tryd.func3, Tryd.ntmps3
    go_wp2
    go_ret
    exact ⟨rfl, Below.refl _ _⟩
  obtain ⟨r0, r1, hS, hI⟩ := fill_both s T w mx hmx h_s
  have HS := Lib.hid hS
  have HI := Lib.hid hI
  clear hS hI hmx
  go_enter Tryd.func3, Tryd.ntmps3
  go_wp2_with fail
  refine (HS.out _).mono ?_; rintro e w1 ⟨rfl, b1⟩
  have HB := Lib.hid b1
  clear b1
  go_wp2_with fail
  refine (HI.out _ HB.out).mono ?_; rintro e w2 ⟨rfl, b2⟩
  have hfin := HB.out.trans (b2.mono HB.out.size)
  go_wp2
  go_ret
  exact ⟨rfl, hfin⟩
end Go.Proofs.YtkipgeecibimoaaDoor
