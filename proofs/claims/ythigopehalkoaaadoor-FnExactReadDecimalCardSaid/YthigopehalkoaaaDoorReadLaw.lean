/- ReadDecimal is the same on both sides. -/
import Derived.Test.YthigopehalkoaaaDoorReadSpec
import Derived.Test.YthigopehalkoaaaDoorReadImpl
import Derived.Test.YthigopehalkoaaaDoorDoorE
namespace Go.Proofs.YthigopehalkoaaaDoor
open Go.RowKit
set_option linter.unusedVariables false
/-- the answer of ReadDecimal -/
def rdV (l : List UInt8) : Value := .tuple #[.int .i64 ((rd 1000000000000000 l).getD 0), .bool (rd 1000000000000000 l).isSome]
theorem implReadDecimal (s : ByteArray) (w : World) (hs : s.size ≤ 1048576) (hd : DoorE w) :
    Calls Tryd.prog 16 #[.string s] w fun e w' => e = .returned (rdV s.data.toList) ∧ Below w.heap.size w w' := by
  have HR := Lib.hid (implRead s 1000000000000000 w (by decide) hs hd)
  clear hd
  unfold rdV
  go_enter Tryd.func16, Tryd.ntmps16
  go_wp2_with fail
  refine HR.out.mono ?_; rintro e w1 ⟨rfl, hb⟩
  have HB := Lib.hid hb
  clear hb
  go_wp2
  go_ret2
  exact ⟨rfl, HB.out⟩
theorem specReadDecimal (s : ByteArray) (w : World) (hs : s.size ≤ 1048576) :
    Calls Tryd.prog 15 #[.string s] w fun e w' => e = .returned (rdV s.data.toList) ∧ Below w.heap.size w w' := by
  have HR := Lib.hid (l01Value_any s w hs)
  unfold rdV
  go_enter Tryd.func15, Tryd.ntmps15
  go_wp2_with fail
  refine HR.out.mono ?_; rintro e w1 ⟨rfl, hb⟩
  have HB := Lib.hid hb
  clear hb
  go_wp2
  go_ret2
  exact ⟨rfl, HB.out⟩
theorem walk_FnExactReadDecimal (s : ByteArray) (w : World) (_hs : s.size ≤ maxLen) (hd : DoorE w) :
    Calls Tryd.prog 4 #[.string s] w fun e w' => e = .returned (.bool true) ∧ Below w.heap.size w w' := by
  by_cases hl : (s.size : Int) ≤ 1048576
  · have HS := Lib.hid (fun W => specReadDecimal s W (by omega))
    have HI := Lib.hid (fun W => implReadDecimal s W (by omega))
    obtain ⟨n, b, hv⟩ : ∃ (n : Int) (b : Bool), rdV s.data.toList = .tuple #[.int .i64 n, .bool b] := ⟨_, _, rfl⟩
    rw [hv] at HS HI
    have HD := Lib.hid hd
    clear hv hd
    go_enter Tryd.func4, Tryd.ntmps4
    go_wp2_with fail
    refine (HS.out _).mono ?_; rintro e w1 ⟨rfl, hb1⟩
    have HB1 := Lib.hid hb1
    clear hb1
    go_wp2_with fail
    refine (HI.out _ (HD.out.on HB1.out)).mono ?_; rintro e w2 ⟨rfl, hb2⟩
    have HB2 := Lib.hid (HB1.out.trans (hb2.mono HB1.out.size))
    clear hb2
    go_wp2
    go_ret
    exact ⟨rfl, HB2.out⟩
  · go_enter Tryd.func4, Tryd.ntmps4
    go_wp2
    go_ret
    exact ⟨rfl, Below.refl _ _⟩
end Go.Proofs.YthigopehalkoaaaDoor
