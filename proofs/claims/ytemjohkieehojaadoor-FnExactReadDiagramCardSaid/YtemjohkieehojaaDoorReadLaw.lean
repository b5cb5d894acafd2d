/- ReadDecimal is the same on both sides. -/
import Derived.Test.YtemjohkieehojaaDoorReadSpec
import Derived.Test.YtemjohkieehojaaDoorReadImpl
import Derived.Test.YtemjohkieehojaaDoorDoorE
namespace Go.Proofs.YtemjohkieehojaaDoor
open Go.RowKit
set_option linter.unusedVariables false
/-- the answer of ReadDecimal -/
def rdV (l : List UInt8) : Value := .tuple #[.int .i64 ((rd 1000000000000000 l).getD 0), .bool (rd 1000000000000000 l).isSome]
theorem implReadDecimal (s : ByteArray) (w : World) (hs : s.size ≤ 1048576) (hd : DoorE w) :
    Calls Tryd.prog 20 #[.string s] w fun e w' => e = .returned (rdV s.data.toList) ∧ Below w.heap.size w w' := by
  have HR := Lib.hid (implRead s 1000000000000000 w (by decide) hs hd)
  clear hd
  unfold rdV
  go_enter Tryd.func20, Tryd.ntmps20
  go_wp2_with fail
  refine HR.out.mono ?_; rintro e w1 ⟨rfl, hb⟩
  have HB := Lib.hid hb
  clear hb
  go_wp2
  go_ret2
  exact ⟨rfl, HB.out⟩
end Go.Proofs.YtemjohkieehojaaDoor
