/- What calls into Go's library want of the world: its tables and its variables; and that all which leaves old blocks as they were leaves these. -/
import Derived.Test.YtemjohkieehojaaDoorRows
import Derived.MakeChecks
import Derived.Lib.LaidTab
import Derived.Lib.AppendIntMem
import Derived.Stop.LaidErr
import Derived.LaidMore
import Derived.WalkKit
import Derived.Below
namespace Go.Proofs.YtemjohkieehojaaDoor
open Go.RowKit

theorem var_below {P : Program} {w w' : World} {n : String} {cs : Array Value} (h : w.var? P n = some cs) (hb : Below w.heap.size w w') : w'.var? P n = some cs := by
  unfold World.var? at *
  cases hg : P.globalNamed n with
  | none => simp [hg] at h
  | some g =>
    simp only [hg, Option.bind_some] at h ⊢
    have hlt : g < w.heap.size := by
      rcases Nat.lt_or_ge g w.heap.size with h' | h'
      · exact h'
      · rw [Array.getElem?_eq_none h'] at h; simp at h
    rw [hb.block g hlt]
    exact h
/-- the table of powers of ten -/
structure DoorW (W : World) : Prop where
  tab : Lib.TabIs Tryd.prog W "internal/strconv.uint64pow10" .u64 Lib.pow10Tab
theorem DoorW.on {W W' : World} (h : DoorW W) (hb : Below W.heap.size W W') : DoorW W' := ⟨Lib.tabBelow_of_tabIs h.tab W' hb⟩
theorem doorW_of {W : World} {n1 n2 : String} {d1 d2 : DataW Unit} {rest : List (String × DataW Unit)} (h : laidMet Tryd.prog ((n1, d1) :: (n2, d2) :: ("internal/strconv.uint64pow10", Rows.laid_internal_strconv_uint64pow10) :: rest) W) : DoorW W :=
  ⟨Lib.tabIs_of_head (g := 5) (t := 137) (e := 98) (n := 20) (by kernel_rfl) (by kernel_rfl) (by kernel_rfl) (by kernel_rfl) (by kernel_rfl) (by kernel_rfl) (show laidMet Tryd.prog (("internal/strconv.uint64pow10", Lib.tabData .u64 Lib.pow10Tab) :: rest) W from h.tail.tail)⟩
/-- and the two errors of numerals -/
structure DoorE (W : World) : Prop where
  tab : DoorW W
  rng : ∃ tp p, W.var? Tryd.prog "strconv.ErrRange" = some #[.iface tp p]
  syn : ∃ tp p, W.var? Tryd.prog "strconv.ErrSyntax" = some #[.iface tp p]
theorem DoorE.on {W W' : World} (h : DoorE W) (hb : Below W.heap.size W W') : DoorE W' := by
  obtain ⟨t, ⟨t1, p1, h1⟩, ⟨t2, p2, h2⟩⟩ := h
  exact ⟨t.on hb, ⟨t1, p1, var_below h1 hb⟩, ⟨t2, p2, var_below h2 hb⟩⟩
end Go.Proofs.YtemjohkieehojaaDoor
