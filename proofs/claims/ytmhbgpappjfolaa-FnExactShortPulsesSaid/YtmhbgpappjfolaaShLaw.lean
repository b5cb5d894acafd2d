/- The ticks at which pulses begin that are too short: where the call fails, and the law's walk. -/
import Derived.Test.YtmhbgpappjfolaaShort
namespace Go.Proofs.Ytmhbgpappjfolaa
open Go.RowKit Go.Shelf
set_option linter.unusedVariables false
set_option linter.unusedSimpArgs false

theorem specSh_f (c : Int) (s : ByteArray) (w : World) (hs : s.size ≤ maxLen) (hw : waveB s.data.toList = false) :
    Calls Try.prog 33 #[.string s, .int .i64 c] w fun e w' => ShoR w [] false e w' := by
  have HWB := Lib.hid hw
  clear hw
  go_enter Try.func33, Try.ntmps33
  go_wp2_with fail
  refine (l01Wave_any s _ hs).mono ?_
  rw [HWB.out]
  rintro e w' ⟨rfl, rfl⟩
  go_wp2
  go_ret2
  exact ⟨_, rfl, Ints.nil _ _, Below.refl _ _⟩
theorem specSh_g (c : Int) (s : ByteArray) (w : World) (hs : s.size ≤ maxLen) (hw : waveB s.data.toList = true) (hc : c < 1 ∨ 400 < c) :
    Calls Try.prog 33 #[.string s, .int .i64 c] w fun e w' => ShoR w [] false e w' := by
  have HWB := Lib.hid hw
  clear hw
  go_enter Try.func33, Try.ntmps33
  go_wp2_with fail
  refine (l01Wave_any s _ hs).mono ?_
  rw [HWB.out]
  rintro e w' ⟨rfl, rfl⟩
  go_wp2_with fail
  refine (l00In_f _ _ _ _ hc).mono ?_; rintro e w' ⟨rfl, rfl⟩
  go_wp2
  go_ret2
  exact ⟨_, rfl, Ints.nil _ _, Below.refl _ _⟩
theorem implSh_f (c : Int) (s : ByteArray) (w : World) (hs : s.size ≤ maxLen) (hw : waveB s.data.toList = false) :
    Calls Try.prog 34 #[.string s, .int .i64 c] w fun e w' => ShoR w [] false e w' := by
  have HWB := Lib.hid hw
  clear hw
  go_enter Try.func34, Try.ntmps34
  go_wp2_with fail
  refine (implIsWave s _ hs).mono ?_
  rw [HWB.out]
  rintro e w1 ⟨rfl, b1⟩
  have HB1 := Lib.hid b1
  clear b1
  go_wp2
  go_ret2
  exact ⟨_, rfl, Ints.nil _ _, HB1.out⟩
theorem implSh_g (c : Int) (s : ByteArray) (w : World) (hs : s.size ≤ maxLen) (hw : waveB s.data.toList = true) (hc : c < 1 ∨ 400 < c) :
    Calls Try.prog 34 #[.string s, .int .i64 c] w fun e w' => ShoR w [] false e w' := by
  have HWB := Lib.hid hw
  clear hw
  go_enter Try.func34, Try.ntmps34
  go_wp2_with fail
  refine (implIsWave s _ hs).mono ?_
  rw [HWB.out]
  rintro e w1 ⟨rfl, b1⟩
  have HB1 := Lib.hid b1
  clear b1
  go_wp2_with fail
  refine (within_i64_f _ _ _ _ hc).mono ?_; rintro e w' ⟨rfl, rfl⟩
  go_wp2
  go_ret2
  exact ⟨_, rfl, Ints.nil _ _, HB1.out⟩
theorem wave_size {s : ByteArray} (hw : waveB s.data.toList = true) : s.size ≤ 400 := by
  unfold waveB at hw; simp only [Bool.and_eq_true, decide_eq_true_eq, size_toList] at hw; omega
theorem short_ex (c : Int) (s : ByteArray) (hs : s.size ≤ maxLen) : ∃ (l : List Int) (b : Bool), l.length ≤ 1048576 ∧
    (∀ w, Calls Try.prog 33 #[.string s, .int .i64 c] w fun e W' => ∃ v, e = .returned (.tuple #[v, .bool b]) ∧ Ints W' w.heap.size v l ∧ Below w.heap.size w W') ∧
    (∀ w, Calls Try.prog 34 #[.string s, .int .i64 c] w fun e W' => ∃ v, e = .returned (.tuple #[v, .bool b]) ∧ Ints W' w.heap.size v l ∧ Below w.heap.size w W') := by
  cases hw : waveB s.data.toList with
  | false => exact ⟨[], false, Nat.zero_le _, fun w => specSh_f c s w hs hw, fun w => implSh_f c s w hs hw⟩
  | true =>
    by_cases hc : c < 1 ∨ 400 < c
    · exact ⟨[], false, Nat.zero_le _, fun w => specSh_g c s w hs hw hc, fun w => implSh_g c s w hs hw hc⟩
    · have h4 := wave_size hw
      exact ⟨_, true, Nat.le_trans (shL_len _ _ _ _) (Nat.le_trans (edgesL_len _ _ _) (by omega)), fun w => specSh_t c s w h4 hw (by omega) (by omega), fun w => implSh_t c s w h4 hw (by omega) (by omega)⟩

set_option maxHeartbeats 1000000 in
set_option maxRecDepth 100000 in
theorem walk_FnExactShortPulses (s : ByteArray) (c : Int) (w : World) (hs : s.size ≤ maxLen) (_w0 : (Lit.int .i64 c).wf = true) :
    Calls Try.prog 9 #[.string s, .int .i64 c] w fun e w' => e = .returned (.bool true) ∧ Below w.heap.size w w' := by
  by_cases hl : (s.size : Int) ≤ 1048576
  · obtain ⟨l, b, hlen, hS, hI⟩ : ∃ (l : List Int) (b : Bool), l.length ≤ 1048576 ∧ (∀ w, Calls Try.prog 33 #[.string s, .int .i64 c] w fun e W' => ∃ v, e = .returned (.tuple #[v, .bool b]) ∧ Ints W' w.heap.size v l ∧ Below w.heap.size w W') ∧ (∀ w, Calls Try.prog 34 #[.string s, .int .i64 c] w fun e W' => ∃ v, e = .returned (.tuple #[v, .bool b]) ∧ Ints W' w.heap.size v l ∧ Below w.heap.size w W') := by
      obtain ⟨l, b, hl2, h1, h2⟩ := short_ex c s hs
      exact ⟨l, b, hl2, h1, h2⟩
    have HS := Lib.hid hS
    have HI := Lib.hid hI
    clear hS hI
    go_enter Try.func9, Try.ntmps9
    go_wp2_with fail
    refine (HS.out _).mono ?_; rintro e w1 ⟨v0, rfl, i0, b1⟩
    go_wp2_with fail
    refine (HI.out _).mono ?_; rintro e w2 ⟨v1, rfl, i1, b2⟩
    have HI0 := Lib.hid i0
    have HI1 := Lib.hid i1
    clear i0 i1
    go_wp2_with fail
    refine (eqInts_same _ _ v1 v0 l _ HI1.out (HI0.out.keep b2 (Nat.le_refl _))).mono ?_; rintro e w' ⟨rfl, q, rfl⟩
    go_wp2_with fail
    refine (markInts _ v1 l 1 (w2.drewN q) HI1.out (by omega) (by omega)).mono ?_; rintro e w3 ⟨rfl, i3, b3, z3⟩
    have HI3 := Lib.hid i3
    have HZ := Lib.hid z3
    clear i3 z3
    go_wp2_with fail
    refine (heldInts _ v1 l.length 1 _ HI3.out (by omega) (by omega)).mono ?_; rintro e w' ⟨rfl, rfl⟩
    go_wp2_with fail
    refine (HI.out _).mono ?_; rintro e w4 ⟨v2, rfl, i4, b4⟩
    have HI4 := Lib.hid i4
    have B3 : Below w1.heap.size w2 w3 := ⟨b3.os, b3.tape, b3.output, b3.size, b3.block⟩
    have hs2 := b2.size
    have hs3 := B3.size
    have HI0' := Lib.hid ((HI0.out.keepLt (HI0.out.keep b2 (Nat.le_refl _)) B3 (Nat.le_refl _)).keep b4 (Nat.le_refl _))
    have HI3' := Lib.hid (HI3.out.keep b4 (Nat.le_refl _))
    clear i4 b3
    go_wp2_with fail
    refine (eqInts_same _ _ v2 v0 l _ HI4.out HI0'.out).mono ?_; rintro e w' ⟨rfl, q2, rfl⟩
    go_wp2_with fail
    refine (heldInts _ v1 l.length 1 (w4.drewN q2) HI3'.out (by omega) (by omega)).mono ?_; rintro e w' ⟨rfl, rfl⟩
    go_wp2
    go_ret
    have hs1 := b1.size
    have hfin := (((b1.trans (b2.mono hs1)).trans (B3.mono hs1)).trans (b4.mono (by omega)))
    exact ⟨rfl, ⟨hfin.os, hfin.tape, hfin.output, hfin.size, hfin.block⟩⟩
  · go_enter Try.func9, Try.ntmps9
    go_wp2
    go_ret
    exact ⟨rfl, Below.refl _ _⟩
end Go.Proofs.Ytmhbgpappjfolaa
