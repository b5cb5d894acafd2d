/- A wave without short pulses: the model's side. -/
import Derived.Test.YtkipgeecibimoaaDoorDropM2
import Derived.Test.YtkipgeecibimoaaDoorCanF
import Derived.Test.YtkipgeecibimoaaDoorPulS
import Derived.Test.YtkipgeecibimoaaDoorBytes
import Derived.Laws.MakeOwn
namespace Go.Proofs.YtkipgeecibimoaaDoor
open Go.RowKit
set_option linter.unusedVariables false
set_option linter.unusedSimpArgs false

theorem Buf.form {w : World} {B : Nat} {v : Value} {l : List UInt8} (h : Buf w B v l) : ∃ a cap, v = .slice a l.length cap ∧ l.length ≤ maxLen ∧
    ∀ k (hk : k < l.length), ∃ g, a = some ⟨g, 0, none⟩ ∧ B ≤ g ∧ g < w.heap.size ∧ w.cell? ⟨g, k, none⟩ = some (.int .u8 ((l[k]).toNat : Int)) ∧ w.frozen? ⟨g, k, none⟩ = false := by
  have h' := h
  rcases h with ⟨_, ⟨rfl, hn⟩ | ⟨g, cap, cur, rfl, hg, hh, hc, hm, hs, ht⟩⟩
  · exact ⟨none, 0, by rw [hn], by rw [hn]; exact Nat.zero_le _, fun k hk => by omega⟩
  · refine ⟨_, cap, rfl, Nat.le_trans hc hm, fun k hk => ⟨g, rfl, hg, (Array.getElem?_eq_some_iff.1 hh).1, ?_, ?_⟩⟩
    · rw [World.ownsRow.cellAt h' k (by omega)]; simp [byCells, List.getElem?_eq_getElem hk]
    · exact World.ownsRow.frozenAt h' k
theorem Buf.put {w : World} {B g cap n : Nat} {l : List UInt8} (h : Buf w B (.slice (some ⟨g, 0, none⟩) n cap) l) (j : Nat) (x : UInt8) : Buf (w.setCell ⟨g, j, none⟩ (.int .u8 (x.toNat : Int))) B (.slice (some ⟨g, 0, none⟩) n cap) (l.set j x) := by
  have hn : n = l.length := by
    obtain ⟨a, c, he, _⟩ := h.form
    simp at he; exact he.2.1
  subst hn
  have := (World.ownsRow.stored h j (.int .u8 (x.toNat : Int))).1
  unfold Buf byCells at *
  rw [List.length_set, List.map_set]
  exact this
/-- a byte's place in a slice of bytes of the call's own -/
theorem Buf.at {w : World} {B n cap : Nat} {a : Option Addr} {l : List UInt8} (h : Buf w B (.slice a n cap) l) (k : Nat) (hk : k < l.length) :
    ∃ g, a = some ⟨g, 0, none⟩ ∧ B ≤ g ∧ (∃ x, w.cell? ⟨g, k, none⟩ = some (.int .u8 x)) ∧ w.frozen? ⟨g, k, none⟩ = false ∧ n = l.length ∧ ∀ x : UInt8, Buf (w.setCell ⟨g, k, none⟩ (.int .u8 (x.toNat : Int))) B (.slice a n cap) (l.set k x) := by
  obtain ⟨a', cap', hv, _, kk⟩ := h.form
  simp only [Value.slice.injEq] at hv
  obtain ⟨g, hg, hBg, hgs, hcell, hfr⟩ := kk k hk
  obtain ⟨rfl, rfl, rfl⟩ := hv
  subst hg
  exact ⟨g, rfl, hBg, ⟨_, hcell⟩, hfr, rfl, fun x => h.put k x⟩
theorem below_dN {B : Nat} {w w' : World} (n : Nat) (h : Below B w w') : Below B w (w'.drewN n) := ⟨h.os, h.tape, h.output, h.size, h.block⟩
theorem zerosB (n : Nat) : (Go.madeCells #[Value.int .u8 0] n).toList = byCells (List.replicate n 0) := by
  apply List.ext_getElem
  · simp [Go.madeCells, byCells]
  · intro i h1 h2; simp [Go.madeCells, Nat.mod_one, byCells]
theorem fill_step (c d : UInt8) (n k : Nat) (h : k < n) : (List.replicate k c ++ List.replicate (n - k) d).set k c = List.replicate (k + 1) c ++ List.replicate (n - (k + 1)) d := by
  rw [List.set_append, if_neg (by simp)]
  have e : n - k = (n - (k + 1)) + 1 := by omega
  rw [List.length_replicate, Nat.sub_self, e, List.replicate_succ, List.set_cons_zero, List.replicate_succ', List.append_assoc]
  rfl
/-- painted by the pulses of ps, and from u up to i -/
def midP (t : Int) (n : Nat) (ps : List (Int × Int)) (u i : Nat) : List UInt8 := (List.range n).map (fun j : Nat => if hitP t ps (j : Int) || decide (u ≤ j ∧ j < i) then 49 else 48)
theorem midP_len (t : Int) (n : Nat) (ps : List (Int × Int)) (u i : Nat) : (midP t n ps u i).length = n := by simp [midP]
theorem midP_start (t : Int) (n : Nat) (ps : List (Int × Int)) (u : Nat) : midP t n ps u u = paintP t n ps := by
  unfold midP paintP
  apply List.map_congr_left
  intro j _
  have : decide (u ≤ j ∧ j < u) = false := decide_eq_false (by omega)
  rw [this, Bool.or_false]
theorem midP_step (t : Int) (n : Nat) (ps : List (Int × Int)) (u i : Nat) (h : i < n) (hu : u ≤ i) : (midP t n ps u i).set i 49 = midP t n ps u (i + 1) := by
  apply List.ext_getElem
  · simp [midP]
  · intro j h1 h2
    simp only [midP, List.getElem_set, List.getElem_map, List.getElem_range]
    by_cases e : i = j
    · subst e
      simp [hu]
    · rw [if_neg e]
      have : decide (u ≤ j ∧ j < i) = decide (u ≤ j ∧ j < i + 1) := by rw [decide_eq_decide]; omega
      rw [this]
theorem midP_end (t : Int) (n : Nat) (ps : List (Int × Int)) (u d : Nat) (h : t ≤ (d : Int) - (u : Int)) : midP t n ps u d = paintP t n (ps ++ [((u : Int), (d : Int))]) := by
  unfold midP paintP
  apply List.map_congr_left
  intro j _
  rw [hitP_snoc]
  have : decide (u ≤ j ∧ j < d) = decide ((u : Int) ≤ (j : Int) ∧ (j : Int) < (d : Int) ∧ t ≤ (d : Int) - (u : Int)) := by rw [decide_eq_decide]; omega
  rw [this]
theorem paintP_no (t : Int) (n : Nat) (ps : List (Int × Int)) (u d : Int) (h : ¬ t ≤ d - u) : paintP t n (ps ++ [(u, d)]) = paintP t n ps := by
  unfold paintP
  apply List.map_congr_left
  intro j _
  rw [hitP_snoc]
  have : decide (u ≤ (j : Int) ∧ (j : Int) < d ∧ t ≤ d - u) = false := by simp; omega
  rw [this, Bool.or_false]
theorem take_next (us es : List Int) (k : Nat) (hk : k < us.length) (he : es.length = us.length) : (us.zip es).take (k + 1) = (us.zip es).take k ++ [(us.getD k 0, es.getD k 0)] := by
  rw [List.take_succ_eq_append_getElem (by simp; omega)]
  congr 1
  simp [List.getD_eq_getElem?_getD, List.getElem?_eq_getElem hk, List.getElem?_eq_getElem (show k < es.length by omega)]

end Go.Proofs.YtkipgeecibimoaaDoor
