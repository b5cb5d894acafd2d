/- The text of runs: both sides, and the law's walk. -/
import Derived.Test.YtipidbceempeiaaDoorRunI
import Derived.Test.YtipidbceempeiaaDoorRunS
import Derived.Test.YtipidbceempeiaaDoorShelf
namespace Go.Proofs.YtipidbceempeiaaDoor
open Go.RowKit Go.Shelf
set_option linter.unusedVariables false
set_option linter.unusedSimpArgs false

def runX (s : ByteArray) : ByteArray := if s.size = 0 then ⟨#[110, 111, 110, 101]⟩ else ⟨(runT (runsL s)).toArray⟩
set_option maxHeartbeats 400000 in
set_option maxRecDepth 100000 in
theorem l01Runs_none (s : ByteArray) (w : World) (h0 : s.size = 0) :
    Calls Tryd.prog 7 #[.string s] w fun e w' => e = .returned (.string ⟨#[110, 111, 110, 101]⟩) ∧ Below w.heap.size w w' := by
  go_enter Tryd.func7, Tryd.ntmps7
  go_wp2
  go_loopw [3, 4, 5] (fun t f i wr => t = .string ⟨#[]⟩ ∧ f = .int .i64 0 ∧ i = .int .i64 1 ∧ wr = w) (fun _ _ i _ => 0)
  case atStart => exact ⟨rfl, rfl, rfl, rfl⟩
  case round =>
    obtain ⟨rfl, rfl, rfl, rfl⟩ := hrel
    have hkI : ¬ (1 : Int) ≤ (s.size : Int) := by omega
    go_wp2
    go_ret
    exact ⟨rfl, Below.refl _ _⟩
theorem waveB_size (s : ByteArray) (h : waveB s.data.toList = true) : s.size ≤ 400 ∧ s.data.toList.all lvlB = true := by
  unfold waveB at h; simp only [Bool.and_eq_true, decide_eq_true_eq, size_toList] at h
  exact ⟨by omega, h.1⟩
set_option maxHeartbeats 400000 in
theorem specRunsOf_t (s : ByteArray) (w : World) (hs : s.size ≤ maxLen) (hw : waveB s.data.toList = true) :
    Calls Tryd.prog 4 #[.string s] w fun e w' => e = .returned (.tuple #[.string (runX s), .bool true]) ∧ Below w.heap.size w w' := by
  have HW := Lib.hid (fun w => l01Wave_any s w hs)
  have HR : Hid (∀ w, Calls Tryd.prog 7 #[.string s] w fun e w' => e = .returned (.string (runX s)) ∧ Below w.heap.size w w') := fun w => by
    obtain ⟨h1, h2⟩ := waveB_size s hw
    unfold runX
    split
    · exact l01Runs_none s w (by assumption)
    · exact l01Runs_any s w h1 h2 (by omega)
  rw [hw] at HW
  clear hw
  go_enter Tryd.func4, Tryd.ntmps4
  go_wp2_with fail
  refine (HW.out _).mono ?_; rintro e w1 ⟨rfl, rfl⟩
  go_wp2_with fail
  refine (HR.out _).mono ?_; rintro e w2 ⟨rfl, b2⟩
  have HB2 := Lib.hid b2
  clear b2
  go_wp2
  go_ret2
  exact ⟨rfl, HB2.out⟩
set_option maxHeartbeats 400000 in
theorem specRunsOf_f (s : ByteArray) (w : World) (hs : s.size ≤ maxLen) (hw : waveB s.data.toList = false) :
    Calls Tryd.prog 4 #[.string s] w fun e w' => e = .returned (.tuple #[.string ⟨#[]⟩, .bool false]) ∧ Below w.heap.size w w' := by
  have HW := Lib.hid (fun w => l01Wave_any s w hs)
  rw [hw] at HW
  clear hw
  go_enter Tryd.func4, Tryd.ntmps4
  go_wp2_with fail
  refine (HW.out _).mono ?_; rintro e w1 ⟨rfl, rfl⟩
  go_wp2
  go_ret2
  exact ⟨rfl, Below.refl _ _⟩
set_option maxHeartbeats 400000 in
set_option maxRecDepth 100000 in
theorem implRuns_f (s : ByteArray) (w : World) (hs : s.size ≤ maxLen) (hw : waveB s.data.toList = false) :
    Calls Tryd.prog 5 #[.string s] w fun e W' => e = .returned (.tuple #[.string ⟨#[]⟩, .bool false]) ∧ Below w.heap.size w W' := by
  have HC := Lib.hid (fun w => implIsWave s w hs)
  rw [hw] at HC
  clear hw
  go_enter Tryd.func5, Tryd.ntmps5
  go_wp2_with fail
  refine (HC.out _).mono ?_; rintro e w1 ⟨rfl, b1⟩
  have HB1 := Lib.hid b1
  clear b1
  go_wp2
  go_ret2
  exact ⟨rfl, HB1.out⟩
set_option maxHeartbeats 400000 in
set_option maxRecDepth 100000 in
theorem implRuns_0 (s : ByteArray) (w : World) (hs : s.size ≤ maxLen) (hw : waveB s.data.toList = true) (h0 : s.size = 0) :
    Calls Tryd.prog 5 #[.string s] w fun e W' => e = .returned (.tuple #[.string ⟨#[110, 111, 110, 101]⟩, .bool true]) ∧ Below w.heap.size w W' := by
  have HC := Lib.hid (fun w => implIsWave s w hs)
  rw [hw] at HC
  have hnl : s.toList = [] := by
    rw [ByteArray.toList_eq]
    have := size_toList s
    cases hl : s.data.toList with
    | nil => rfl
    | cons _ _ => rw [hl] at this; simp at this; omega
  have hne : s.toList.isEmpty = true := by rw [hnl]; rfl
  have hne2 : (s.toList == []) = true := by rw [hnl]; rfl
  clear hw hnl
  go_enter Tryd.func5, Tryd.ntmps5
  go_wp2_with fail
  refine (HC.out _).mono ?_; rintro e w1 ⟨rfl, b1⟩
  have HB1 := Lib.hid b1
  clear b1
  go_wp2
  go_ret2
  exact ⟨rfl, HB1.out⟩
theorem implRuns_t (s : ByteArray) (w : World) (hs : s.size ≤ maxLen) (hw : waveB s.data.toList = true) (hd : DoorW w) :
    Calls Tryd.prog 5 #[.string s] w fun e W' => e = .returned (.tuple #[.string (runX s), .bool true]) ∧ Below w.heap.size w W' := by
  unfold runX
  split
  · exact implRuns_0 s w hs hw (by assumption)
  · exact callsIn_wide.1 (implRuns_in 8 (Nat.le_refl _) s w hs hw (by omega) hd)
theorem runs_both (s : ByteArray) (hs : s.size ≤ maxLen) :
    ∃ t b, (∀ w, Calls Tryd.prog 4 #[.string s] w fun e w' => e = .returned (.tuple #[.string t, .bool b]) ∧ Below w.heap.size w w') ∧
      (∀ w, DoorW w → Calls Tryd.prog 5 #[.string s] w fun e w' => e = .returned (.tuple #[.string t, .bool b]) ∧ Below w.heap.size w w') := by
  cases hc : waveB s.data.toList with
  | true => exact ⟨_, _, fun w => specRunsOf_t s w hs hc, fun w hd => implRuns_t s w hs hc hd⟩
  | false => exact ⟨_, _, fun w => specRunsOf_f s w hs hc, fun w _ => implRuns_f s w hs hc⟩
set_option maxHeartbeats 1000000 in
set_option maxRecDepth 100000 in
theorem walk_FnExactRunsOf (s : ByteArray) (w : World) (h_s : s.size ≤ maxLen) (hd : DoorW w) :
    Calls Tryd.prog 3 #[.string s] w fun e w' => e = .returned (.bool true) ∧ Below w.heap.size w w' := by
  by_cases l_s : (s.size : Int) ≤ 1048576
  case neg =>
    clear hd
    go_enter Tryd.func3, Tryd.ntmps3
    go_wp2
    go_ret
    exact ⟨rfl, Below.refl _ _⟩
  obtain ⟨r0, r1, hS, hI⟩ := runs_both s h_s
  have HS := Lib.hid hS
  have HI := Lib.hid hI
  have HD := Lib.hid hd
  clear hS hI hd
  go_enter Tryd.func3, Tryd.ntmps3
  go_wp2_with fail
  refine (HS.out _).mono ?_; rintro e w1 ⟨rfl, b1⟩
  have HB := Lib.hid b1
  clear b1
  go_wp2_with fail
  refine (HI.out _ (HD.out.on HB.out)).mono ?_; rintro e w2 ⟨rfl, b2⟩
  have hfin := HB.out.trans (b2.mono HB.out.size)
  go_wp2
  go_ret
  exact ⟨rfl, hfin⟩
end Go.Proofs.YtipidbceempeiaaDoor
