/- Can all numbers of a list be those of moves? On both sides. -/
import Derived.Test.YtmhkeiccemfpeaaDoorConI
import Derived.Test.YtmhkeiccemfpeaaDoorIn64
namespace Go.Proofs.YtmhkeiccemfpeaaDoor
open Go.RowKit Go.Shelf
set_option linter.unusedVariables false
set_option linter.unusedSimpArgs false

def movK (x : Int) : Bool := decide (-20 ≤ x ∧ x ≤ 20)
def movB (l : List Int) : Bool := l.all movK
theorem mov_at {l : List Int} (h : movB l = true) (k : Nat) (hk : k < l.length) : -20 ≤ l[k] ∧ l[k] ≤ 20 := by
  have := List.all_eq_true.1 h _ (List.getElem_mem hk)
  simpa [movK] using this
theorem mov_bad (l : List Int) (k : Nat) (hk : k < l.length) (h : ¬ (-20 ≤ l[k] ∧ l[k] ≤ 20)) : movB l = false := by
  unfold movB
  rw [List.all_eq_false]
  exact ⟨_, List.getElem_mem hk, by simpa [movK] using h⟩
theorem mov_all (l : List Int) (h : ∀ k (hk : k < l.length), -20 ≤ l[k] ∧ l[k] ≤ 20) : movB l = true := by
  unfold movB
  rw [List.all_eq_true]
  intro x hx
  obtain ⟨k, hk, rfl⟩ := List.getElem_of_mem hx
  exact decide_eq_true (h k hk)
theorem mov_any (l : List Int) : (l.any fun x => !movK x) = !movB l := by
  unfold movB
  induction l with
  | nil => rfl
  | cons x l ih => simp only [List.any_cons, List.all_cons, ih, Bool.not_and]

end Go.Proofs.YtmhkeiccemfpeaaDoor
