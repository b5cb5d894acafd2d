/- The walk of a law: ReadList answers the same on both sides, and its answer is memory of its own. -/
import Derived.Test.YtemjohkieehojaaDoorRlI
import Derived.Test.YtemjohkieehojaaDoorRlN
namespace Go.Proofs.YtemjohkieehojaaDoor
open Go.RowKit
set_option linter.unusedVariables false
set_option maxHeartbeats 1000000 in
set_option maxRecDepth 100000 in
theorem walk_FnExactReadList (s : ByteArray) (w : World) (_hs : s.size ≤ maxLen) (hd : DoorE w) :
    Calls Tryd.prog 3 #[.string s] w fun e w' => e = .returned (.bool true) ∧ Below w.heap.size w w' := by
  by_cases hl : (s.size : Int) ≤ 1048576
  · obtain ⟨l, b, hlen, hS, hI⟩ : ∃ (l : List Int) (b : Bool), l.length ≤ 1048576 ∧ (∀ w, Calls Tryd.prog 6 #[.string s] w fun e W' => ∃ v, e = .returned (.tuple #[v, .bool b]) ∧ Ints W' w.heap.size v l ∧ Below w.heap.size w W') ∧ (∀ w, DoorE w → Calls Tryd.prog 7 #[.string s] w fun e W' => ∃ v, e = .returned (.tuple #[v, .bool b]) ∧ Ints W' w.heap.size v l ∧ Below w.heap.size w W') := by
      by_cases hne : s = (⟨#[110, 111, 110, 101]⟩ : ByteArray)
      · exact ⟨[], true, Nat.zero_le _, fun w => specRl_none s w hne, fun w _ => implRl_none s w hne⟩
      · exact ⟨_, _, numL_len _ _ _ (by decide), fun w => specRl s w (by omega) hne, fun w h => callsIn_wide (n := 8).1 (implNums_in 8 (Nat.le_refl _) s w (by omega) hne h)⟩
    have HS := Lib.hid hS
    have HI := Lib.hid hI
    have HD := Lib.hid hd
    clear hS hI hd
    go_enter Tryd.func3, Tryd.ntmps3
    go_wp2_with fail
    refine (HS.out _).mono ?_; rintro e w1 ⟨v0, rfl, i0, b1⟩
    have HB1 := Lib.hid b1
    go_wp2_with fail
    refine (HI.out _ (HD.out.on b1)).mono ?_; rintro e w2 ⟨v1, rfl, i1, b2⟩
    have HI0 := Lib.hid i0
    have HI1 := Lib.hid i1
    clear i0 i1
    go_wp2_with fail
    refine (eqInts_same _ _ v1 v0 l _ HI1.out (HI0.out.keep b2 (Nat.le_refl _))).mono ?_; rintro e w' ⟨rfl, q, rfl⟩
    go_wp2_with fail
    refine (markInts _ v1 l 1 (w2.drewN q) HI1.out (by omega) (by omega)).mono ?_; rintro e w3 ⟨rfl, i3, b3, z3⟩
    have HI3 := Lib.hid i3
    have HZ := Lib.hid z3
    clear i3 z3
    have B3 : Below w1.heap.size w2 w3 := ⟨b3.os, b3.tape, b3.output, b3.size, b3.block⟩
    have hs1 := b1.size
    have hs2 := b2.size
    have hs3 := B3.size
    have HD3 := Lib.hid (HD.out.on ((b1.trans (b2.mono hs1)).trans (B3.mono hs1)))
    go_wp2_with fail
    refine (heldInts _ v1 l.length 1 _ HI3.out (by omega) (by omega)).mono ?_; rintro e w' ⟨rfl, rfl⟩
    go_wp2_with fail
    refine (HI.out _ HD3.out).mono ?_; rintro e w4 ⟨v2, rfl, i4, b4⟩
    have HI4 := Lib.hid i4
    have HI0' := Lib.hid ((HI0.out.keepLt (HI0.out.keep b2 (Nat.le_refl _)) B3 (Nat.le_refl _)).keep b4 (Nat.le_refl _))
    have HI3' := Lib.hid (HI3.out.keep b4 (Nat.le_refl _))
    clear i4 b3
    go_wp2_with fail
    refine (eqInts_same _ _ v2 v0 l _ HI4.out HI0'.out).mono ?_; rintro e w' ⟨rfl, q2, rfl⟩
    go_wp2_with fail
    refine (heldInts _ v1 l.length 1 (w4.drewN q2) HI3'.out (by omega) (by omega)).mono ?_; rintro e w' ⟨rfl, rfl⟩
    go_wp2
    go_ret
    have hfin := (((b1.trans (b2.mono hs1)).trans (B3.mono hs1)).trans (b4.mono (by omega)))
    exact ⟨rfl, ⟨hfin.os, hfin.tape, hfin.output, hfin.size, hfin.block⟩⟩
  · go_enter Tryd.func3, Tryd.ntmps3
    go_wp2
    go_ret
    exact ⟨rfl, Below.refl _ _⟩
end Go.Proofs.YtemjohkieehojaaDoor
