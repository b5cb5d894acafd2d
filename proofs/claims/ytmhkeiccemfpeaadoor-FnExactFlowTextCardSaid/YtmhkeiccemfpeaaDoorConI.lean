/- Is there a number in a row of which a function says so: slices.ContainsFunc over []int64, for any function value that answers by the number alone. -/
import Derived.Test.YtmhkeiccemfpeaaDoorHas
import Derived.Laws.EntriesVeiled
import Derived.Shelf.Abstract
namespace Go.Proofs.YtmhkeiccemfpeaaDoor
open Go.RowKit Go.Shelf
set_option linter.unusedVariables false
set_option linter.unusedSimpArgs false

theorem anyI_hit (p : Int → Bool) (L : List Int) (k : Nat) (h : k < L.length) (hp : p L[k] = true) : L.any p = true := List.any_eq_true.2 ⟨_, List.getElem_mem h, hp⟩
theorem anyI_miss (p : Int → Bool) (L : List Int) (h : ∀ j (h : j < L.length), p L[j] = false) : L.any p = false := by
  rw [List.any_eq_false]
  intro x hx
  obtain ⟨j, hj, rfl⟩ := List.getElem_of_mem hx
  simp [h j hj]
end Go.Proofs.YtmhkeiccemfpeaaDoor
