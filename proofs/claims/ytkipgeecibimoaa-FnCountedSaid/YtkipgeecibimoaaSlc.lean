/- A list of numbers that a loop over windows collects in a variable of the call's own. -/
import Derived.Test.YtkipgeecibimoaaWRange
import Derived.Test.YtkipgeecibimoaaEdgeSpec
import Derived.Deep.Onto
namespace Go.Proofs.Ytkipgeecibimoaa
open Go.RowKit Go.Shelf
set_option linter.unusedVariables false
set_option linter.unusedSimpArgs false

/-- the variable in block Lb holds the list so far; some blocks hold what they held; nothing lies changed below L -/
def SlcI (Lb B L Z : Nat) (f : List (Int × Int) → List Int) (fix : List (Int × Int) → List (Nat × Obj)) (w1 : World) (pre : List (Int × Int)) (W : World) : Prop :=
  (∃ v, Boxed W Lb 30 v ∧ Ints W B v (f pre)) ∧ (∀ p ∈ fix pre, W.heap[p.1]? = some p.2) ∧ Below L w1 W ∧ Z ≤ W.heap.size
theorem row_not {ts : List TypeId} {W : World} {B : Nat} {v : Value} {l : List Int} {o : Obj} {r : Nat} (h : Ints W B v l) (hr : W.heap[r]? = some o) (ho : o.isCells = false ∨ isMine ts o = true) (ht : ts.contains 2 = false) : v.ownBlock ≠ some r := by
  intro e
  rcases h.2 with ⟨rfl, _⟩ | ⟨g, cap, cur, rfl, _, hgb, _⟩
  · simp [Value.ownBlock] at e
  · obtain rfl : g = r := by simpa [Value.ownBlock] using e
    rw [hr] at hgb
    simp only [Option.some.injEq] at hgb
    subst hgb
    rcases ho with h | h
    · cases h
    · simp only [isMine] at h; rw [ht] at h; cases h
theorem mine_i64 : MineW.contains 2 = false := by decide
theorem SlcI.own (Lb B L Z : Nat) (f : List (Int × Int) → List Int) (fix : List (Int × Int) → List (Nat × Obj)) (w1 : World) (B' : Nat) (h1 : Lb < B') (h2 : ∀ pre, ∀ p ∈ fix pre, p.1 < B') (h3 : L ≤ B') (h4 : L ≤ Z) : OwnFromM MineW B' (SlcI Lb B L Z f fix w1) := by
  intro pre W W' row h hg hr
  have hne : ∀ k, k < B' → some k ≠ row := fun k hk e => by
    have := (hr k e.symm).1; omega
  obtain ⟨⟨v, hv, hi⟩, hfix, hb, hz⟩ := h
  refine ⟨⟨v, hv.kept hg (hne _ h1), ?_⟩, fun p hp => ?_, ?_, Nat.le_trans hz hg.size⟩
  · refine World.ownsRow.kept hi hg ?_
    cases row with
    | none => cases q : v.ownBlock with
      | none => exact .inl rfl
      | some g => exact .inr (by simp)
    | some r =>
      obtain ⟨-, o, ho, hm⟩ := hr r rfl
      exact .inr (row_not hi ho hm mine_i64)
  · have := hfix p hp
    exact (hg.block p.1 (Array.getElem?_eq_some_iff.1 this).1 (hne _ (h2 pre p hp))).trans this
  · exact ⟨hg.os.trans hb.os, hg.tape.trans hb.tape, hg.output.trans hb.output, Nat.le_trans hb.size hg.size, fun k hk => (hg.block k (by omega) (hne k (by omega))).trans (hb.block k hk)⟩
/-- a step that turns no cells of the iterator's, and what is held of it -/
theorem slc_append {Lb B L Z : Nat} {f : List (Int × Int) → List Int} {fix : List (Int × Int) → List (Nat × Obj)} {w1 W w3 : World} {pre : List (Int × Int)} {x : Int × Int} {v v' : Value} {tmp : Obj} {y : Int} {B' : Nat}
    (hv : Boxed W Lb 30 v) (hi : Ints W B v (f pre)) (hfix : ∀ p ∈ fix pre, W.heap[p.1]? = some p.2) (hb : Below L w1 W) (hz : Z ≤ W.heap.size) (hLZ : L ≤ Z) (hBL : L ≤ B) (hBW : B ≤ W.heap.size) (hLb : L ≤ Lb) (hLB' : Lb < B')
    (hown' : w3.ownsRow B 2 1 v' ((f pre).length + 1) ((f pre).map (Value.int .i64) ++ [.int .i64 y])) (hgrow : (W.alloc tmp).grownBy w3 v.ownBlock) (hf : f (pre ++ [x]) = f pre ++ [y]) (hx : fix (pre ++ [x]) = fix pre)
    (hne : ∀ p ∈ fix pre, p.1 ≠ Lb ∧ (∃ c t, p.2 = .cells c t (0, 0) ∧ t ≠ 2)  ∨ (p.1 < B ∧ p.1 ≠ Lb)) :
    KeepsFrom B' W (w3.setCell ⟨Lb, 0, none⟩ v') ∧ KeepsMine MineW W (w3.setCell ⟨Lb, 0, none⟩ v') ∧ SlcI Lb B L Z f fix w1 (pre ++ [x]) (w3.setCell ⟨Lb, 0, none⟩ v') := by
  have hwz : (W.alloc tmp).heap.size = W.heap.size + 1 := by simp
  have hv1 : Boxed w3 Lb 30 v := (hv.alloc tmp).kept hgrow (hv.not_row (by decide) hi)
  have hlt3 : W.heap.size ≤ w3.heap.size := Nat.le_trans (by simp) hgrow.size
  have hko : KeepsOthers W (w3.setCell ⟨Lb, 0, none⟩ v') := ((KeepsOthers.alloc W tmp).trans (KeepsOthers.of_grownBy hgrow fun j o ej hj => by
    rcases hi.2 with ⟨rfl, _⟩ | ⟨g, cap, cur, rfl, _, hgb, _⟩
    · simp [Value.ownBlock] at ej
    · obtain rfl : g = j := by simpa [Value.ownBlock] using ej
      have h2 : (W.alloc tmp).heap[g]? = some _ := (Below.heap_alloc W tmp g (Array.getElem?_eq_some_iff.1 hgb).1).trans hgb
      rw [h2] at hj; cases hj; rfl)).trans (KeepsOthers.setCell _ _ _)
  have hmine1 : KeepsMine MineW (W.alloc tmp) w3 := KeepsMine.of_grownBy hgrow fun j o ej hj => by
    rcases hi.2 with ⟨rfl, _⟩ | ⟨g, cap, cur, rfl, _, hgb, _⟩
    · simp [Value.ownBlock] at ej
    · obtain rfl : g = j := by simpa [Value.ownBlock] using ej
      have h2 : (W.alloc tmp).heap[g]? = some _ := (Below.heap_alloc W tmp g (Array.getElem?_eq_some_iff.1 hgb).1).trans hgb
      rw [h2] at hj; cases hj
      simp only [isMine]; exact mine_i64
  have hmine2 : KeepsMine MineW w3 (w3.setCell ⟨Lb, 0, none⟩ v') := KeepsMine.of_grownBy (grown_set w3 Lb 0 v') fun j o ej hj => by
    cases ej
    rw [show w3.heap[Lb]? = _ from hv1] at hj; cases hj
    simp only [isMine]; decide
  have hown3 : Ints w3 B v' (f (pre ++ [x])) := by rw [hf]; exact Ints.snoc hown'
  refine ⟨hko.from _, ((KeepsMine.alloc _ _ _).trans hmine1).trans hmine2, ⟨v', hv1.set v', World.ownsRow.kept hown3 (grownBy_setCell' w3 Lb v') (.inr (hv1.not_row (by decide) hown3).symm)⟩, fun p hp => ?_, ?_, ?_⟩
  · rw [hx] at hp
    have h0 := hfix p hp
    have hlt := (Array.getElem?_eq_some_iff.1 h0).1
    have hnb : p.1 ≠ Lb ∧ some p.1 ≠ v.ownBlock := by
      rcases hne p hp with ⟨h1, c, t, h2, h3⟩ | ⟨h1, h2⟩
      · refine ⟨h1, fun e => ?_⟩
        rcases hi.2 with ⟨rfl, _⟩ | ⟨g, cap, cur, rfl, _, hgb, _⟩
        · simp [Value.ownBlock] at e
        · have e2 : p.1 = g := by simpa [Value.ownBlock] using e
          rw [e2, hgb] at h0
          rw [h2] at h0
          simp only [Option.some.injEq, Obj.cells.injEq] at h0
          exact h3 h0.2.1.symm
      · refine ⟨h2, fun e => ?_⟩
        have := (World.ownsRow.lt hi p.1 e.symm).1
        omega
    exact ((set_other hnb.1).trans ((hgrow.block p.1 (by omega) hnb.2).trans (Below.heap_alloc W tmp p.1 hlt))).trans h0
  · have h1 : Below L w1 (W.alloc tmp) := hb.alloc (by omega) _
    have h2 : Below L w1 w3 := h1.grown hgrow (by omega) (fun k e => Nat.le_trans hBL (World.ownsRow.lt hi k e).1)
    exact h2.setCell (by simpa using hLb) _
  · have := hlt3; simp; omega
end Go.Proofs.Ytkipgeecibimoaa
