/- Levels that two waves make, on the side of the program. -/
import Derived.Test.YtmhbgpappjfolaaNotImpl
import Derived.Test.YtmhbgpappjfolaaJoinSpec
import Derived.Test.YtmhbgpappjfolaaIn64
import Derived.Deep.RegionWith
namespace Go.Proofs.Ytmhbgpappjfolaa
open Go.RowKit

/-- the level of a tick that is on or off -/
def lvOf (b : Bool) : Int := if b then 49 else 48
theorem lvOf_bd (b : Bool) : 0 ≤ lvOf b ∧ lvOf b ≤ 127 := by cases b <;> simp [lvOf]
theorem levelOf_lv (b : Bool) (w : World) :
    Calls Try.prog 61 #[.bool b] w fun e w' => e = .returned (.int .i32 (lvOf b)) ∧ w = w' := levelOf_any b w

theorem isJoined_any (op : Int) (x y : Bool) (w : World) :
    Calls Try.prog 55 #[.int .i64 op, .bool x, .bool y] w fun e w' => e = .returned (.bool (joinZ op x y)) ∧ w = w' := by
  by_cases h0 : op = 0
  · subst h0
    cases x <;> cases y
    all_goals
      go_enter Try.func55, Try.ntmps55
      go_wp2
      go_ret
      exact ⟨rfl, rfl⟩
  · have b0 : (op == 0) = false := by simp [h0]
    by_cases h1 : op = 1
    · subst h1
      cases x <;> cases y
      all_goals
        go_enter Try.func55, Try.ntmps55
        go_wp2
        go_ret
        exact ⟨rfl, rfl⟩
    · have b1 : (op == 1) = false := by simp [h1]
      by_cases h2 : op = 2
      · subst h2
        cases x <;> cases y
        all_goals
          go_enter Try.func55, Try.ntmps55
          go_wp2
          go_ret
          exact ⟨rfl, rfl⟩
      · have b2 : (op == 2) = false := by simp [h2]
        have HZ : Hid (joinZ op x y = (x && !y)) := by simp [joinZ, h0, h1, h2, Hid]
        cases x <;> cases y
        all_goals
          go_enter Try.func55, Try.ntmps55
          go_wp2
          go_ret
          exact ⟨ret_bool (by rw [HZ.out]; rfl), rfl⟩

theorem joinL_cells (op : Int) (a b : ByteArray) (k : Nat) (h : k < a.size) (h2 : k < b.size) : Lib.byteCells (joinL op (a.data.toList.take (k + 1)) (b.data.toList.take (k + 1))) = Lib.byteCells (joinL op (a.data.toList.take k) (b.data.toList.take k)) ++ [.int .u8 (lvOf (joinZ op ((a[k].toNat : Int) == 49) ((b[k].toNat : Int) == 49)))] := by
  rw [joinL_snoc op a b k h h2]
  have e : ((joinB op a[k] b[k]).toNat : Int) = lvOf (joinZ op ((a[k].toNat : Int) == 49) ((b[k].toNat : Int) == 49)) := by
    unfold joinB onB lvOf
    split <;> rfl
  simp [Lib.byteCells, e]

end Go.Proofs.Ytmhbgpappjfolaa
