/- What the diagram's text tells, on both sides. -/
import Derived.Test.YtemjohkieehojaaDoorRdM
import Derived.Test.YtemjohkieehojaaDoorRecsB
namespace Go.Proofs.YtemjohkieehojaaDoor
open Go.RowKit
set_option linter.unusedVariables false
set_option linter.unusedSimpArgs false
def ansE (T : List UInt8) : Int := ((dgA T).map (·.1)).getD 0
def ansL (T : List UInt8) : List T3 := ((dgA T).map (·.2)).getD []
def RdR (s : ByteArray) (w : World) (e : Ending) (w' : World) : Prop := ∃ a cap, e = .returned (.tuple #[.agg #[.int .i64 (ansE s.data.toList), .slice a (ansL s.data.toList).length cap], .bool (dgA s.data.toList).isSome]) ∧ Recs w' w.heap.size (.slice a (ansL s.data.toList).length cap) (ansL s.data.toList).length (fl3 (ansL s.data.toList)) ∧ Below w.heap.size w w'
theorem recs_setD {w : World} {B n g : Nat} {v : Value} {F : List Int} (h : Recs w B v n F) (hg : g < B) (i : Nat) (x : Value) : Recs (w.setCell ⟨g, i, none⟩ x) B v n F := by
  refine ⟨h.1, World.ownsRow.kept h.2 (row := some g) ⟨rfl, rfl, rfl, by simp, fun k _ hk => Below.heap_setCell _ _ _ k (fun e => hk (by rw [e]))⟩ ?_⟩
  cases q : v.ownBlock with
  | none => exact .inl rfl
  | some b => exact .inr (fun e => by
      have := (World.ownsRow.lt h.2 b q).1
      have e2 : b = g := by injection e
      omega)
end Go.Proofs.YtemjohkieehojaaDoor
