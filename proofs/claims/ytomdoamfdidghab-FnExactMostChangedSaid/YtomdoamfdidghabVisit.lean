/- A set of visited places, kept in a map that the call has made. -/
import Derived.Test.YtomdoamfdidghabHas
import Derived.Test.YtomdoamfdidghabKept
import Derived.Maps.Own
import Derived.Maps.OwnOps
import Derived.Maps.Views
import Derived.OwnWalk
namespace Go.Proofs.Ytomdoamfdidghab
open Go.RowKit Go.Maps
set_option linter.unusedVariables false

theorem vkey : Keyed Try.prog 2 := int_keyed Try.underlying2
theorem vzero (w : World) : (zeroValue 4).run Try.prog w = .ok (.bool false) w := by kernel_rfl
/-- block b is a map of at most n entries that has exactly the numbers of S, each with true -/
def Vis (w : World) (b n : Nat) (S : List Int) : Prop :=
  ∃ D : DataW Unit, IsMap D ∧ w.ownsMap Try.prog 2 (plainElem Try.prog 4) b n D ∧ ∀ x : Int, D.atKey (.int .i64 x) (.lit (.bool false)) = .lit (.bool (decide (x ∈ S)))
theorem Vis.made (w : World) : Vis (w.alloc (.map #[] 0)) w.heap.size 0 [] :=
  ⟨.map [], isMap_empty, World.ownsMap_made _ _ _ _, fun x => by simp; rfl⟩
theorem Vis.lt {w : World} {b n : Nat} {S : List Int} (h : Vis w b n S) : b < w.heap.size := by
  obtain ⟨D, _, h, _⟩ := h; exact h.lt
theorem Vis.below {w w' : World} {b n N : Nat} {S : List Int} (h : Vis w b n S) (hb : Below N w w') (hN : b < N) : Vis w' b n S := by
  obtain ⟨D, hD, h, ha⟩ := h
  refine ⟨D, hD, ?_, ha⟩
  obtain ⟨es, clock, h1, F, h2, h3⟩ := h
  exact ⟨es, clock, (hb.block b hN).trans h1, F, h2, h3⟩
theorem Vis.grown {w w' : World} {b n : Nat} {S : List Int} {row : Option Nat} (h : Vis w b n S) (hg : w.grownBy w' row) (hne : some b ≠ row) : Vis w' b n S := by
  obtain ⟨D, hD, h, ha⟩ := h
  exact ⟨D, hD, h.kept hg hne, ha⟩
theorem Vis.look {w : World} {b n : Nat} {S : List Int} (h : Vis w b n S) (x : Int) (hw : (Lit.int .i64 x).wf = true) :
    (Instr.lookup 51 (.map (some b)) (.int .i64 x) false).run Try.prog w = .ok (.bool (decide (x ∈ S))) w := by
  obtain ⟨D, hD, h, ha⟩ := h
  obtain ⟨v, ps, hrun, hv⟩ := h.lookup vkey Try.underlying51 (vzero w) (plainElem_bool Try.underlying4 false) (keyOf_int_mk Try.underlying2 hw)
  rw [ha x] at hv
  have e : v = .bool (decide (x ∈ S)) := by
    unfold plainElem at hv
    rw [Try.underlying4] at hv
    cases v <;> simp at hv
    rw [hv.1]
  rw [hrun, e]
theorem Vis.put {w : World} {b n : Nat} {S : List Int} {D : DataW Unit} {x : Int} (hD : IsMap D) (ha : ∀ x : Int, D.atKey (.int .i64 x) (.lit (.bool false)) = .lit (.bool (decide (x ∈ S))))
    (h : w.ownsMap Try.prog 2 (plainElem Try.prog 4) b n (D.put (.int .i64 x) (.lit (.bool true)))) : Vis w b n (S ++ [x]) := by
  refine ⟨_, hD.put _ _, h, fun y => ?_⟩
  by_cases e : y = x
  · subst e
    rw [atKey_put_same hD (by trivial)]
    simp
  · rw [atKey_put_other (by intro h; injection h with _ h; exact e h), ha y]
    simp [e]
end Go.Proofs.Ytomdoamfdidghab
