/- WaveOf: both sides answer alike. -/
import Derived.Test.YtkfakoodejpjmaaWvS
namespace Go.Proofs.Ytkfakoodejpjmaa
open Go.RowKit
set_option linter.unusedVariables false
set_option maxHeartbeats 1000000 in
theorem walk_FnExactWaveOf (p o h t : Int) (w : World) (_wp : (Lit.int .i64 p).wf = true) (_wo : (Lit.int .i64 o).wf = true) (_wh : (Lit.int .i64 h).wf = true) (_wt : (Lit.int .i64 t).wf = true) :
    Calls Try.prog 3 #[.agg #[.int .i64 p, .int .i64 o], .int .i64 h, .int .i64 t] w fun e w' => e = .returned (.bool true) ∧ Below w.heap.size w w' := by
  obtain ⟨r, c, hS, hI⟩ : ∃ (r : ByteArray) (c : Bool), (∀ w, Calls Try.prog 8 #[.agg #[.int .i64 p, .int .i64 o], .int .i64 h, .int .i64 t] w fun e w' => e = .returned (.tuple #[.string r, .bool c]) ∧ Below w.heap.size w w') ∧ (∀ w, Calls Try.prog 10 #[.agg #[.int .i64 p, .int .i64 o], .int .i64 h, .int .i64 t] w fun e w' => e = .returned (.tuple #[.string r, .bool c]) ∧ Below w.heap.size w w') := by
    cases hv : clkB p o with
    | false => exact ⟨_, _, fun w => specWave_v p o h t w hv, fun w => implWave_v p o h t w hv⟩
    | true =>
      by_cases hh : 0 ≤ h ∧ h ≤ p
      · by_cases ht : 0 ≤ t ∧ t ≤ 400
        · obtain ⟨hn, rfl⟩ := Int.eq_ofNat_of_zero_le hh.1
          obtain ⟨tn, rfl⟩ := Int.eq_ofNat_of_zero_le ht.1
          exact ⟨_, _, fun w => specWave_t p o hn tn w hv hh.2 (by omega), fun w => implWave_t p o hn tn _ w hv hh.2 (by omega) rfl⟩
        · exact ⟨_, _, fun w => specWave_n p o h t w hv hh ht, fun w => implWave_n p o h t w hv hh ht⟩
      · exact ⟨_, _, fun w => specWave_h p o h t w hv hh, fun w => implWave_h p o h t w hv hh⟩
  have HS := Lib.hid hS
  have HI := Lib.hid hI
  clear hS hI
  go_enter Try.func3, Try.ntmps3
  go_wp2_with fail
  refine (toCk_any _ _ _).mono ?_; rintro e w1 ⟨rfl, hb1⟩
  go_wp2_with fail
  refine (HS.out _).mono ?_; rintro e w2 ⟨rfl, hb2⟩
  have hb := bel_call hb1 hb2
  have HB := Lib.hid (bel_call (bel_alloc w _) hb)
  have A2 := Lib.hid ((CkAt.new w p o 23).call hb)
  obtain ⟨-, c20, c21⟩ := A2.out
  clear hb hb1 hb2
  go_wp2_with fail
  refine (toCk_any _ _ _).mono ?_; rintro e w3 ⟨rfl, hb3⟩
  go_wp2_with fail
  refine (HI.out _).mono ?_; rintro e w4 ⟨rfl, hb4⟩
  have HB4 := Lib.hid (bel_call (bel_call HB.out hb3) hb4)
  go_wp2
  go_ret
  exact ⟨rfl, HB4.out⟩
end Go.Proofs.Ytkfakoodejpjmaa
