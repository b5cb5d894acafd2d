/- ShiftMoves on both sides. -/
import Derived.Test.YtmhkeiccemfpeaaDoorMoves
import Derived.Test.YtmhkeiccemfpeaaDoorKept
import Derived.OwnWalk
import Derived.Lib.SliceRun
namespace Go.Proofs.YtmhkeiccemfpeaaDoor
open Go.RowKit Go.Shelf
set_option linter.unusedVariables false
set_option linter.unusedSimpArgs false

theorem Ints.rowW {w W : World} {B n cap : Nat} {a : Option Addr} {l : List Int} (h : Ints w B (.slice a n cap) l) (hb : Below w.heap.size w W) : RowAt W a l := (h.keep hb (Nat.le_refl _)).row.1
theorem Ints.lowS {w : World} {B C : Nat} {v : Value} {l : List Int} (h : Ints w B v l) (hc : C ≤ B) : Ints w C v l := by
  rcases h with ⟨h1, ⟨rfl, hn⟩ | ⟨g, cap, cur, rfl, hg, rest⟩⟩
  · exact ⟨h1, .inl ⟨rfl, hn⟩⟩
  · exact ⟨h1, .inr ⟨g, cap, cur, rfl, by omega, rest⟩⟩
theorem ints_snocS {w1 : World} {B : Nat} {v : Value} {l : List Int} {x : Int} (h : w1.ownsRow B 2 1 v (l.length + 1) (l.map (Value.int .i64) ++ [.int .i64 x])) : Ints w1 B v (l ++ [x]) := by
  unfold Ints; rw [List.length_append, List.map_append]; exact h
theorem ints_belowS {w wr w1 : World} {v : Value} {l : List Int} (hB : Below w.heap.size w wr) (hbuf : Ints wr w.heap.size v l) (o : Obj) (hg : (wr.alloc o).grownBy w1 v.ownBlock) : Below w.heap.size w w1 :=
  (hB.alloc hB.size o).grown hg (by have := hB.size; simp; omega) (fun k e => (World.ownsRow.lt (World.ownsRow.alloc hbuf o) k e).1)
def addL (by_ : Int) (l : List Int) : List Int := l.map fun x => x + by_
theorem addL_len (b : Int) (l : List Int) : (addL b l).length = l.length := by simp [addL]
theorem addL_get (b : Int) (l : List Int) (k : Nat) (h : k < (addL b l).length) : (addL b l)[k] = l[k]'(by rw [addL_len] at h; exact h) + b := by simp [addL]
def shfB (l : List Int) (b : Int) : Bool := decide (1 ≤ l.length ∧ l.length ≤ 8) && (movB l && (decide (-40 ≤ b ∧ b ≤ 40) && movB (addL b l)))
def shfL (l : List Int) (b : Int) : List Int := if shfB l b = true then addL b l else []
theorem shfL_no {l : List Int} {b : Int} (h : shfB l b = false) : shfL l b = [] := by unfold shfL; rw [h]; rfl
theorem shfL_yes {l : List Int} {b : Int} (h : shfB l b = true) : shfL l b = addL b l := by unfold shfL; rw [h]; rfl
def ShfR (l : List Int) (b : Int) (w : World) (e : Ending) (w' : World) : Prop := ∃ v, e = .returned (.tuple #[v, .bool (shfB l b)]) ∧ Ints w' w.heap.size v (shfL l b) ∧ Below w.heap.size w w'
theorem ShfR.no {l : List Int} {b : Int} {w w' : World} (h : shfB l b = false) (hb : Below w.heap.size w w') : ShfR l b w (.returned (.tuple #[.slice none 0 0, .bool false])) w' :=
  ⟨_, by rw [h], by rw [shfL_no h]; exact Ints.nil _ _, hb⟩
theorem ShfR.yes {l : List Int} {b : Int} {w w' : World} {v : Value} (h : shfB l b = true) (hi : Ints w' w.heap.size v (addL b l)) (hb : Below w.heap.size w w') : ShfR l b w (.returned (.tuple #[v, .bool true])) w' :=
  ⟨v, by rw [h], by rw [shfL_yes h]; exact hi, hb⟩

theorem within_int_t (x lo hi : Int) (w : World) (h1 : lo ≤ x) (h2 : x ≤ hi) :
    Calls Tryd.prog 36 #[.int .i64 x, .int .i64 lo, .int .i64 hi] w fun e w' => e = .returned (.bool true) ∧ w = w' := by
  go_enter Tryd.func36, Tryd.ntmps36
  go_wp2
  go_ret
  exact ⟨by simp, rfl⟩
theorem within_int_f (x lo hi : Int) (w : World) (h : x < lo ∨ hi < x) :
    Calls Tryd.prog 36 #[.int .i64 x, .int .i64 lo, .int .i64 hi] w fun e w' => e = .returned (.bool false) ∧ w = w' := by
  by_cases h1 : lo ≤ x
  all_goals
    go_enter Tryd.func36, Tryd.ntmps36
    go_wp2
    go_ret
    exact ⟨by simp; try omega, rfl⟩
theorem shf_set (b : Int) (l : List Int) (k : Nat) (hk : k < l.length) : (addL b (l.take k) ++ l.drop k).set k (l[k] + b) = addL b (l.take (k + 1)) ++ l.drop (k + 1) := by
  have e1 : (addL b (l.take k)).length = k := by rw [addL_len, List.length_take]; omega
  rw [List.set_append, if_neg (by omega), e1, Nat.sub_self, List.drop_eq_getElem_cons hk, List.set_cons_zero]
  rw [List.take_succ_eq_append_getElem hk]
  unfold addL
  rw [List.map_append, List.append_assoc]
  rfl
theorem shf_get (b : Int) (l : List Int) (k : Nat) (hk : k < l.length) (h : k < (addL b (l.take k) ++ l.drop k).length) : (addL b (l.take k) ++ l.drop k)[k] = l[k] := by
  have e1 : (addL b (l.take k)).length = k := by rw [addL_len, List.length_take]; omega
  rw [List.getElem_append_right (by omega)]
  simp [e1]
theorem shf_len (b : Int) (l : List Int) (k : Nat) (hk : k ≤ l.length) : (addL b (l.take k) ++ l.drop k).length = l.length := by
  rw [List.length_append, addL_len, List.length_take, List.length_drop]; omega
end Go.Proofs.YtmhkeiccemfpeaaDoor
