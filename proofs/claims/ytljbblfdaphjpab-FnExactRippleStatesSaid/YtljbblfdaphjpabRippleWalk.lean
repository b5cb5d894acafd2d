/- The walk of a law: the states of a ripple are the same on both sides, in memory of their own. -/
import Derived.Test.YtljbblfdaphjpabRipple
namespace Go.Proofs.Ytljbblfdaphjpab
open Go.RowKit

set_option maxHeartbeats 1000000 in
set_option maxRecDepth 100000 in
theorem walk_FnExactRippleStates (b x : Int) (w : World) (_wb : (Lit.int .i64 b).wf = true) (_wx : (Lit.int .i64 x).wf = true) :
    Calls Try.prog 14 #[.int .i64 b, .int .i64 x] w fun e w' => e = .returned (.bool true) ∧ Below w.heap.size w w' := by
  obtain ⟨l, okb, hlen, hS, hI⟩ : ∃ (l : List Int) (okb : Bool), l.length ≤ 1048576 ∧ (∀ w, Calls Try.prog 45 #[.int .i64 b, .int .i64 x] w fun e W' => ∃ v, e = .returned (.tuple #[v, .bool okb]) ∧ Ints W' w.heap.size v l ∧ Below w.heap.size w W') ∧ (∀ w, Calls Try.prog 46 #[.int .i64 b, .int .i64 x] w fun e W' => ∃ v, e = .returned (.tuple #[v, .bool okb]) ∧ Ints W' w.heap.size v l ∧ Below w.heap.size w W') := by
    by_cases h : StateOk b x
    · exact ⟨_, true, (by rw [ints_len]; have := ripGo_len b.toNat 0 x.toNat; have := h.2.1; omega), fun w => specRip_t b x w h, fun w => implRip_t b x w h⟩
    · exact ⟨[], false, (by simp), fun w => specRip_f b x w h, fun w => implRip_f b x w h⟩
  have HS := Lib.hid hS
  have HI := Lib.hid hI
  clear hS hI
  go_enter Try.func14, Try.ntmps14
  go_wp2_with fail
  refine (HS.out _).mono ?_; rintro e w1 ⟨v0, rfl, i0, b1⟩
  go_wp2_with fail
  refine (HI.out _).mono ?_; rintro e w2 ⟨v1, rfl, i1, b2⟩
  have HI0 := Lib.hid i0
  have HI1 := Lib.hid i1
  clear i0 i1
  go_wp2_with fail
  refine (eqInts_same _ _ v1 v0 l _ HI1.out (HI0.out.keep b2 (Nat.le_refl _))).mono ?_; rintro e w' ⟨rfl, q, rfl⟩
  go_wp2_with fail
  refine (markInts _ v1 l 1 (w2.drewN q) HI1.out (by omega) (by omega)).mono ?_; rintro e w3 ⟨rfl, i3, b3, z3⟩
  have HI3 := Lib.hid i3
  have HZ := Lib.hid z3
  clear i3 z3
  go_wp2_with fail
  refine (heldInts _ v1 l.length 1 _ HI3.out (by omega) (by omega)).mono ?_; rintro e w' ⟨rfl, rfl⟩
  go_wp2_with fail
  refine (HI.out _).mono ?_; rintro e w4 ⟨v2, rfl, i4, b4⟩
  have HI4 := Lib.hid i4
  have B3 : Below w1.heap.size w2 w3 := ⟨b3.os, b3.tape, b3.output, b3.size, b3.block⟩
  have hs2 := b2.size
  have hs3 := B3.size
  have HI0' := Lib.hid ((HI0.out.keepLt (HI0.out.keep b2 (Nat.le_refl _)) B3 (Nat.le_refl _)).keep b4 (Nat.le_refl _))
  have HI3' := Lib.hid (HI3.out.keep b4 (Nat.le_refl _))
  clear i4 b3
  go_wp2_with fail
  refine (eqInts_same _ _ v2 v0 l _ HI4.out HI0'.out).mono ?_; rintro e w' ⟨rfl, q2, rfl⟩
  go_wp2_with fail
  refine (heldInts _ v1 l.length 1 (w4.drewN q2) HI3'.out (by omega) (by omega)).mono ?_; rintro e w' ⟨rfl, rfl⟩
  go_wp2
  go_ret
  have hs1 := b1.size
  have hfin := (((b1.trans (b2.mono hs1)).trans (B3.mono hs1)).trans (b4.mono (by omega)))
  exact ⟨rfl, ⟨hfin.os, hfin.tape, hfin.output, hfin.size, hfin.block⟩⟩
end Go.Proofs.Ytljbblfdaphjpab
