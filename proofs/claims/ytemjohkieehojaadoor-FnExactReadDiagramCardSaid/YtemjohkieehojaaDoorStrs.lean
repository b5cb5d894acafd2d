/- Strings in a slice: rows that came in and rows of the call's own; the copy, the size, and that two are the same. -/
import Derived.Test.YtemjohkieehojaaDoorWords
import Derived.Test.YtemjohkieehojaaDoorRows
import Derived.LoopTactic
import Derived.Maps.AppendAt
import Derived.BigQuiet
import Derived.Deep.QuietTactic
import Derived.OwnWalk
import Derived.IntWalk
namespace Go.Proofs.YtemjohkieehojaaDoor
open Go.RowKit
set_option linter.unusedVariables false
set_option linter.unusedSimpArgs false
theorem info_str : (Tryd.prog.info? 9).map (fun i => (i.zero, i.size, i.bytes)) = some (some (.string ByteArray.empty), 1, 16) := by kernel_rfl
/-- the slice at a holds the strings l -/
def SRow (w : World) (a : Option Addr) (l : List ByteArray) : Prop := l = [] ∨ ∃ b off, a = some ⟨b, off, none⟩ ∧ b < w.heap.size ∧ ∀ k (hk : k < l.length), w.cell? ⟨b, off + k, none⟩ = some (.string l[k])
theorem SRow.keep {w w' : World} {a : Option Addr} {l : List ByteArray} (h : SRow w a l) {N : Nat} (hb : Below N w w') (hN : w.heap.size ≤ N) : SRow w' a l := by
  rcases h with h | ⟨b, off, h1, h2, h3⟩
  · exact .inl h
  · exact .inr ⟨b, off, h1, Nat.lt_of_lt_of_le h2 hb.size, fun k hk => (hb.cell (p := ⟨b, off + k, none⟩) (Nat.lt_of_lt_of_le h2 hN)).trans (h3 k hk)⟩
theorem SRow.at {w : World} {a : Option Addr} {l : List ByteArray} (h : SRow w a l) (k : Nat) (hk : k < l.length) : ∃ b off, a = some ⟨b, off, none⟩ ∧ b < w.heap.size ∧ w.cell? ⟨b, off + k, none⟩ = some (.string l[k]) := by
  rcases h with h | ⟨b, off, h1, h2, h3⟩
  · rw [h] at hk; simp at hk
  · exact ⟨b, off, h1, h2, h3 k hk⟩
/-- the slice value v of the call's own, in blocks from B on, holds the strings l -/
def Strs (w : World) (B : Nat) (v : Value) (l : List ByteArray) : Prop := w.ownsRow B 9 1 v l.length (l.map Value.string)
theorem Strs.nil (w : World) (B : Nat) : Strs w B (.slice none 0 0) [] := World.ownsRow_nil _ _ _ _
theorem Strs.lit (w : World) : Strs (w.alloc (.cells #[] 9)) w.heap.size (.slice (some ⟨w.heap.size, 0, none⟩) 0 0) [] :=
  World.ownsRow_lit w #[] 0 (Nat.le_refl _) (Nat.zero_le _) rfl
theorem Strs.form {w : World} {B : Nat} {v : Value} {l : List ByteArray} (h : Strs w B v l) : ∃ a cap, v = .slice a l.length cap ∧ l.length ≤ maxLen ∧
    ∀ k (hk : k < l.length), ∃ g, a = some ⟨g, 0, none⟩ ∧ B ≤ g ∧ g < w.heap.size ∧ w.cell? ⟨g, k, none⟩ = some (.string l[k]) ∧ w.frozen? ⟨g, k, none⟩ = false := by
  have h' := h
  rcases h with ⟨_, ⟨rfl, hn⟩ | ⟨g, cap, cur, rfl, hg, hh, hc, hm, hs, ht⟩⟩
  · exact ⟨none, 0, by rw [hn], by rw [hn]; exact Nat.zero_le _, fun k hk => by omega⟩
  · refine ⟨_, cap, rfl, Nat.le_trans hc hm, fun k hk => ⟨g, rfl, hg, (Array.getElem?_eq_some_iff.1 hh).1, ?_, ?_⟩⟩
    · rw [World.ownsRow.cellAt h' k (by omega)]; simp [List.getElem?_eq_getElem hk]
    · exact World.ownsRow.frozenAt h' k
theorem Strs.keep {w w' : World} {B : Nat} {v : Value} {l : List ByteArray} (h : Strs w B v l) {N : Nat} (hb : Below N w w') (hN : w.heap.size ≤ N) : Strs w' B v l := by
  rcases h with ⟨h1, ⟨rfl, hn⟩ | ⟨g, cap, cur, rfl, hg, hh, hc, hm, hs, ht⟩⟩
  · exact ⟨h1, .inl ⟨rfl, hn⟩⟩
  · exact ⟨h1, .inr ⟨g, cap, cur, rfl, hg, (hb.block g (by have := (Array.getElem?_eq_some_iff.1 hh).1; omega)).trans hh, hc, hm, hs, ht⟩⟩
theorem Strs.low {w : World} {B C : Nat} {v : Value} {l : List ByteArray} (h : Strs w B v l) (hc : C ≤ B) : Strs w C v l := by
  rcases h with ⟨h1, ⟨rfl, hn⟩ | ⟨g, cap, cur, rfl, hg, rest⟩⟩
  · exact ⟨h1, .inl ⟨rfl, hn⟩⟩
  · exact ⟨h1, .inr ⟨g, cap, cur, rfl, by omega, rest⟩⟩
theorem Strs.set {w : World} {B : Nat} {v : Value} {l : List ByteArray} (h : Strs w B v l) (p : Addr) (x : Value) (hp : p.block < B) : Strs (w.setCell p x) B v l := by
  rcases h with ⟨h1, ⟨rfl, hn⟩ | ⟨g, cap, cur, rfl, hg, hh, rest⟩⟩
  · exact ⟨h1, .inl ⟨rfl, hn⟩⟩
  · exact ⟨h1, .inr ⟨g, cap, cur, rfl, hg, (Below.heap_setCell _ _ _ _ (by omega)).trans hh, rest⟩⟩
theorem Strs.row {w : World} {B n cap : Nat} {a : Option Addr} {l : List ByteArray} (h : Strs w B (.slice a n cap) l) : SRow w a l ∧ n = l.length ∧ l.length ≤ maxLen := by
  obtain ⟨a', cap', hv, hm, hk⟩ := h.form
  simp only [Value.slice.injEq] at hv
  obtain ⟨rfl, rfl, rfl⟩ := hv
  refine ⟨?_, rfl, hm⟩
  by_cases h0 : l = []
  · exact .inl h0
  · have hp : 0 < l.length := by cases l with | nil => exact absurd rfl h0 | cons x xs => simp
    obtain ⟨g, h1, _, h2, _, _⟩ := hk 0 hp
    refine .inr ⟨g, 0, h1, h2, fun k hk2 => ?_⟩
    obtain ⟨g', h1', _, _, h3, _⟩ := hk k hk2
    rw [h1] at h1'
    injection h1' with e
    injection e with e1
    subst e1
    rw [Nat.zero_add]; exact h3
theorem Strs.put {w : World} {B g cap n : Nat} {l : List ByteArray} (h : Strs w B (.slice (some ⟨g, 0, none⟩) n cap) l) (j : Nat) (x : ByteArray) : Strs (w.setCell ⟨g, j, none⟩ (.string x)) B (.slice (some ⟨g, 0, none⟩) n cap) (l.set j x) := by
  have hn : n = l.length := by
    obtain ⟨a, c, he, _⟩ := h.form
    simp at he; exact he.2.1
  subst hn
  have := (World.ownsRow.stored h j (.string x)).1
  unfold Strs
  rw [List.length_set, List.map_set]
  exact this
theorem nones_list (n : Nat) : (Go.madeCells #[Value.string ByteArray.empty] n).toList = (List.replicate n ByteArray.empty).map Value.string := by
  apply List.ext_getElem
  · simp [Go.madeCells]
  · intro i h1 h2; simp [Go.madeCells, Nat.mod_one]
def cpyS (l : List ByteArray) (k : Nat) : List ByteArray := l.take k ++ List.replicate (l.length - k) ByteArray.empty
theorem cpyS_len (l : List ByteArray) (k : Nat) (hk : k ≤ l.length) : (cpyS l k).length = l.length := by simp [cpyS]; omega
theorem cpyS_step (l : List ByteArray) (k : Nat) (hk : k < l.length) : (cpyS l k).set k l[k] = cpyS l (k + 1) := by
  unfold cpyS
  rw [List.set_append, if_neg (by simp; omega)]
  have e : l.length - k = (l.length - (k + 1)) + 1 := by omega
  have ht : (l.take k).length = k := by simp; omega
  rw [ht, Nat.sub_self, e, List.replicate_succ, List.set_cons_zero]
  rw [List.take_succ_eq_append_getElem hk, List.append_assoc]
  rfl
theorem cpyS_end (l : List ByteArray) : cpyS l l.length = l := by simp [cpyS]
end Go.Proofs.YtemjohkieehojaaDoor
