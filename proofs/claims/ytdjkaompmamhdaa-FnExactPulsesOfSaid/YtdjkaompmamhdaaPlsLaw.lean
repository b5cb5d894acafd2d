/- The walk of a law: PulsesOf answers the same on both sides, and its answer is memory of its own. -/
import Derived.Test.YtdjkaompmamhdaaPlsS
namespace Go.Proofs.Ytdjkaompmamhdaa
open Go.RowKit

set_option maxHeartbeats 1000000 in
set_option maxRecDepth 100000 in
theorem walk_FnExactPulsesOf (s : ByteArray) (w : World) (hs : s.size ≤ maxLen) :
    Calls Try.prog 3 #[.string s] w fun e w' => e = .returned (.bool true) ∧ Below w.heap.size w w' := by
  by_cases hl : (s.size : Int) ≤ 1048576
  · obtain ⟨l, b, hlen, hS, hI⟩ : ∃ (l : List Int) (b : Bool), l.length ≤ 1048576 ∧ (∀ w, Calls Try.prog 4 #[.string s] w fun e W' => ∃ v, e = .returned (.tuple #[v, .bool b]) ∧ Ints W' w.heap.size v l ∧ Below w.heap.size w W') ∧ (∀ w, Calls Try.prog 5 #[.string s] w fun e W' => ∃ v, e = .returned (.tuple #[v, .bool b]) ∧ Ints W' w.heap.size v l ∧ Below w.heap.size w W') := by
      cases hwv : waveB s.data.toList with
      | true =>
        have h4 : s.size ≤ 400 := by
          have h := hwv
          unfold waveB at h; simp only [Bool.and_eq_true, decide_eq_true_eq, size_toList] at h; omega
        exact ⟨plsL (runsL s), true, by rw [← pulR_end]; have := pulR_len s s.size (Nat.le_refl _); omega, fun w => by rw [← pulR_end]; exact specPls_t s w hs hwv (by omega), fun w => callsIn_wide (n := 8).1 (implPls_in 8 (Nat.le_refl _) s w hs hwv)⟩
      | false => exact ⟨[], false, Nat.zero_le _, fun w => (specPls_f s w hs hwv).mono fun e W' h => ⟨_, h.1, Ints.nil _ _, h.2⟩, fun w => (implPls_f s w hs hwv).mono fun e W' h => ⟨_, h.1, Ints.nil _ _, h.2⟩⟩
    have HS := Lib.hid hS
    have HI := Lib.hid hI
    clear hS hI
    go_enter Try.func3, Try.ntmps3
    go_wp2_with fail
    refine (HS.out _).mono ?_; rintro e w1 ⟨v0, rfl, i0, b1⟩
    go_wp2_with fail
    refine (HI.out _).mono ?_; rintro e w2 ⟨v1, rfl, i1, b2⟩
    have HI0 := Lib.hid i0
    have HI1 := Lib.hid i1
    clear i0 i1
    go_wp2_with fail
    refine (eqInts_same _ _ v1 v0 l _ HI1.out (HI0.out.keep b2 (Nat.le_refl _))).mono ?_; rintro e w' ⟨rfl, q, rfl⟩
    go_wp2_with fail
    refine (markInts _ v1 l 1 (w2.drewN q) HI1.out (by omega) (by omega)).mono ?_; rintro e w3 ⟨rfl, i3, b3, z3⟩
    have HI3 := Lib.hid i3
    have HZ := Lib.hid z3
    clear i3 z3
    go_wp2_with fail
    refine (heldInts _ v1 l.length 1 _ HI3.out (by omega) (by omega)).mono ?_; rintro e w' ⟨rfl, rfl⟩
    go_wp2_with fail
    refine (HI.out _).mono ?_; rintro e w4 ⟨v2, rfl, i4, b4⟩
    have HI4 := Lib.hid i4
    have B3 : Below w1.heap.size w2 w3 := ⟨b3.os, b3.tape, b3.output, b3.size, b3.block⟩
    have hs2 := b2.size
    have hs3 := B3.size
    have HI0' := Lib.hid ((HI0.out.keepLt (HI0.out.keep b2 (Nat.le_refl _)) B3 (Nat.le_refl _)).keep b4 (Nat.le_refl _))
    have HI3' := Lib.hid (HI3.out.keep b4 (Nat.le_refl _))
    clear i4 b3
    go_wp2_with fail
    refine (eqInts_same _ _ v2 v0 l _ HI4.out HI0'.out).mono ?_; rintro e w' ⟨rfl, q2, rfl⟩
    go_wp2_with fail
    refine (heldInts _ v1 l.length 1 (w4.drewN q2) HI3'.out (by omega) (by omega)).mono ?_; rintro e w' ⟨rfl, rfl⟩
    go_wp2
    go_ret
    have hs1 := b1.size
    have hfin := (((b1.trans (b2.mono hs1)).trans (B3.mono hs1)).trans (b4.mono (by omega)))
    exact ⟨rfl, ⟨hfin.os, hfin.tape, hfin.output, hfin.size, hfin.block⟩⟩
  · go_enter Try.func3, Try.ntmps3
    go_wp2
    go_ret
    exact ⟨rfl, Below.refl _ _⟩
end Go.Proofs.Ytdjkaompmamhdaa
