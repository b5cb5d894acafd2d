/- The model's l00Put: a number among others, once. What it holds, not in which order. -/
import Derived.Test.YtemjohkieehojaaDoorHas
import Derived.OwnWalk
namespace Go.Proofs.YtemjohkieehojaaDoor
open Go.RowKit
set_option linter.unusedVariables false
set_option linter.unusedSimpArgs false
theorem ints_snocP {w1 : World} {B : Nat} {v : Value} {l : List Int} {x : Int} (h : w1.ownsRow B 2 1 v (l.length + 1) (l.map (Value.int .i64) ++ [.int .i64 x])) : Ints w1 B v (l ++ [x]) := by
  unfold Ints; rw [List.length_append, List.map_append]; exact h
theorem ints_belowP {w wr w1 : World} {v : Value} {l : List Int} (hB : Below w.heap.size w wr) (hbuf : Ints wr w.heap.size v l) (o : Obj) (hg : (wr.alloc o).grownBy w1 v.ownBlock) : Below w.heap.size w w1 :=
  (hB.alloc hB.size o).grown hg (by have := hB.size; simp; omega) (fun k e => (World.ownsRow.lt (World.ownsRow.alloc hbuf o) k e).1)
/-- what is put so far -/
def PutL (l : List Int) (x : Int) (i : Nat) (d : Bool) (O : List Int) : Prop := (∀ z, z ∈ O ↔ z ∈ l.take i ∨ (d = true ∧ z = x)) ∧ O.length ≤ i + (if d then 1 else 0)
theorem PutL.step {l : List Int} {x : Int} {i : Nat} {d d' : Bool} {O O' : List Int} (h : PutL l x i d O) (hi : i < l.length) (hO : ∀ z, z ∈ O' ↔ z ∈ O ∨ (d' = true ∧ z = x)) (hl : O'.length ≤ i + (if d' then 1 else 0)) (hd : d = true → d' = true) : PutL l x (i + 1) d' (O' ++ [l[i]]) := by
  refine ⟨fun z => ?_, by rw [List.length_append, List.length_singleton]; omega⟩
  rw [List.mem_append, hO, h.1, List.take_succ_eq_append_getElem hi, List.mem_append, List.mem_singleton]
  constructor
  · rintro (((h1 | h1) | h1) | h1)
    · exact .inl (.inl h1)
    · exact .inr ⟨hd h1.1, h1.2⟩
    · exact .inr h1
    · exact .inl (.inr h1)
  · rintro ((h1 | h1) | h1)
    · exact .inl (.inl (.inl h1))
    · exact .inr h1
    · exact .inl (.inr h1)
/-- a step that finds the number itself -/
theorem PutL.same {l : List Int} {x : Int} {i : Nat} {O : List Int} (h : PutL l x i false O) (hi : i < l.length) (hx : l[i] = x) : PutL l x (i + 1) true (O ++ [l[i]]) := by
  refine ⟨fun z => ?_, by rw [List.length_append, List.length_singleton]; have := h.2; simp at this ⊢; omega⟩
  rw [List.mem_append, h.1, List.take_succ_eq_append_getElem hi, List.mem_append, List.mem_singleton]
  simp only [Bool.false_eq_true, false_and, or_false, true_and]
  constructor
  · rintro (h1 | h1)
    · exact .inl (.inl h1)
    · exact .inl (.inr h1)
  · rintro ((h1 | h1) | h1)
    · exact .inl h1
    · exact .inr h1
    · exact .inr (by rw [hx]; exact h1)
def PutR (l : List Int) (x : Int) (w : World) (e : Ending) (w' : World) : Prop := ∃ v l', e = .returned v ∧ Ints w' w.heap.size v l' ∧ (∀ z, z ∈ l' ↔ z ∈ l ∨ z = x) ∧ l'.length ≤ l.length + 1 ∧ Below w.heap.size w w'
end Go.Proofs.YtemjohkieehojaaDoor
