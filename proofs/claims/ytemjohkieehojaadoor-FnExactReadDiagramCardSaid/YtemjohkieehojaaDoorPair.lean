/- Words: a block of two cells that a call keeps. -/
import Derived.Test.YtemjohkieehojaaDoorInts
import Derived.Deep.AppendLies
namespace Go.Proofs.YtemjohkieehojaaDoor
open Go.RowKit

def At2 (w : World) (g : Nat) (a b : Value) : Prop := w.cell? ⟨g, 0, none⟩ = some a ∧ w.cell? ⟨g, 1, none⟩ = some b ∧ w.frozen? ⟨g, 0, none⟩ = false ∧ w.frozen? ⟨g, 1, none⟩ = false
theorem At2.new (w : World) (a b : Value) (t : TypeId) : At2 (w.alloc (.cells #[a, b] t)) w.heap.size a b := by
  refine ⟨?_, ?_, ?_, ?_⟩ <;> simp
theorem At2.lt {w : World} {g : Nat} {a b : Value} (h : At2 w g a b) : g < w.heap.size := by
  have := World.block_lt_of_cell? w _ h.1
  simpa using this
theorem At2.below {N g : Nat} {w w' : World} {a b : Value} (h : At2 w g a b) (hb : Below N w w') (hg : g < N) : At2 w' g a b :=
  ⟨(hb.cell (p := ⟨g, 0, none⟩) hg).trans h.1, (hb.cell (p := ⟨g, 1, none⟩) hg).trans h.2.1, (hb.frozen (p := ⟨g, 0, none⟩) hg).trans h.2.2.1, (hb.frozen (p := ⟨g, 1, none⟩) hg).trans h.2.2.2⟩
theorem At2.grown {g : Nat} {w w' : World} {a b : Value} {row : Option Nat} (h : At2 w g a b) (hg : w.grownBy w' row) (hne : some g ≠ row) : At2 w' g a b :=
  ⟨(hg.cell_far ⟨g, 0, none⟩ h.lt hne).trans h.1, (hg.cell_far ⟨g, 1, none⟩ h.lt hne).trans h.2.1, (hg.frozen_far ⟨g, 0, none⟩ h.lt hne).trans h.2.2.1, (hg.frozen_far ⟨g, 1, none⟩ h.lt hne).trans h.2.2.2⟩
theorem At2.set_ne {g g' : Nat} {w : World} {a b : Value} (h : At2 w g a b) (hne : g' ≠ g) (k : Nat) (v : Value) : At2 (w.setCell ⟨g', k, none⟩ v) g a b := by
  refine ⟨?_, ?_, ?_, ?_⟩
  · exact (World.cell?_setCell_other w _ _ _ (fun e => hne (by injection e))).trans h.1
  · exact (World.cell?_setCell_other w _ _ _ (fun e => hne (by injection e))).trans h.2.1
  · simp [h.2.2.1]
  · simp [h.2.2.2]
theorem At2.set0 {g : Nat} {w : World} {a b : Value} (h : At2 w g a b) (v : Value) : At2 (w.setCell ⟨g, 0, none⟩ v) g v b := by
  refine ⟨World.cell?_setCell_same w _ _ h.1, ?_, ?_, ?_⟩
  · exact (World.cell?_setCell_other w _ _ _ (by simp)).trans h.2.1
  · simp [h.2.2.1]
  · simp [h.2.2.2]
theorem At2.set1 {g : Nat} {w : World} {a b : Value} (h : At2 w g a b) (v : Value) : At2 (w.setCell ⟨g, 1, none⟩ v) g a v := by
  refine ⟨?_, World.cell?_setCell_same w _ _ h.2.1, ?_, ?_⟩
  · exact (World.cell?_setCell_other w _ _ _ (by simp)).trans h.1
  · simp [h.2.2.1]
  · simp [h.2.2.2]
theorem At2.alloc {g : Nat} {w : World} {a b : Value} (h : At2 w g a b) (o : Obj) : At2 (w.alloc o) g a b :=
  h.below ((Below.refl w.heap.size _).alloc (Nat.le_refl _) o) h.lt
theorem At2.drew {g : Nat} {w : World} {a b : Value} (h : At2 w g a b) : At2 w.drew g a b :=
  h.below ((Below.refl w.heap.size _).drew) h.lt
theorem At2.drewN {g : Nat} {w : World} {a b : Value} (h : At2 w g a b) (n : Nat) : At2 (w.drewN n) g a b := by
  have hb : Below w.heap.size w (w.drewN n) := ⟨rfl, rfl, rfl, Nat.le_refl _, fun _ _ => rfl⟩
  exact h.below hb h.lt
theorem Ints.setNe {w : World} {B g g' n cap : Nat} {l : List Int} (h : Ints w B (.slice (some ⟨g, 0, none⟩) n cap) l) (hne : g' ≠ g) (k : Nat) (x : Value) : Ints (w.setCell ⟨g', k, none⟩ x) B (.slice (some ⟨g, 0, none⟩) n cap) l := by
  rcases h with ⟨h1, ⟨h2, _⟩ | ⟨g1, cap1, cur, hv, hg, hh, hc, hm, hs, ht⟩⟩
  · simp at h2
  · simp only [Value.slice.injEq, Option.some.injEq, Addr.mk.injEq, and_true] at hv
    obtain ⟨rfl, rfl, rfl⟩ := hv
    exact ⟨h1, .inr ⟨g, cap, cur, rfl, hg, (Below.heap_setCell w _ x g (fun e => hne e.symm)).trans hh, hc, hm, hs, ht⟩⟩
theorem Ints.block_ge {w : World} {B : Nat} {v : Value} {l : List Int} (h : Ints w B v l) : ∀ g, v.ownBlock = some g → B ≤ g := fun g e => (World.ownsRow.lt h g e).1
theorem Ints.weak {w : World} {B B' : Nat} {v : Value} {l : List Int} (h : Ints w B v l) (hb : B' ≤ B) : Ints w B' v l := by
  rcases h with ⟨h1, h2 | ⟨g1, cap1, cur, rfl, hg1, hh, hc, hm, hs, ht⟩⟩
  · exact ⟨h1, .inl h2⟩
  · exact ⟨h1, .inr ⟨g1, cap1, cur, rfl, Nat.le_trans hb hg1, hh, hc, hm, hs, ht⟩⟩
/-- a cell of a block below the row's own is written -/
theorem Ints.setBelow {w : World} {B B' g : Nat} {v : Value} {l : List Int} (h : Ints w B v l) (hge : ∀ k, v.ownBlock = some k → B' ≤ k) (hg : g < B') (k : Nat) (x : Value) : Ints (w.setCell ⟨g, k, none⟩ x) B v l := by
  rcases h with ⟨h1, h2 | ⟨g1, cap1, cur, rfl, hg1, hh, hc, hm, hs, ht⟩⟩
  · exact ⟨h1, .inl h2⟩
  · have := hge g1 rfl
    exact ⟨h1, .inr ⟨g1, cap1, cur, rfl, hg1, (Below.heap_setCell w _ x g1 (by show g1 ≠ g; omega)).trans hh, hc, hm, hs, ht⟩⟩
end Go.Proofs.YtemjohkieehojaaDoor
