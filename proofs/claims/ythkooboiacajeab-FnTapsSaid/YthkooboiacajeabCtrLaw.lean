/- The helpers of the laws that compare, mark and read again a counter. -/
import Derived.Test.YthkooboiacajeabInts
import Derived.Test.YthkooboiacajeabPair
namespace Go.Proofs.Ythkooboiacajeab
open Go.RowKit

theorem bw {B : Nat} {a w : World} (h : Below B a w) (n : Nat) : Below B a (w.drewN n) := ⟨h.os, h.tape, h.output, h.size, h.block⟩
theorem Ints.drewN {w : World} {B : Nat} {v : Value} {l : List Int} (h : Ints w B v l) (n : Nat) : Ints (w.drewN n) B v l := h.keep (bw (Below.refl _ _) n) (Nat.le_refl _)

/-- all blocks but the row's own are as they were -/
def Others (w w' : World) (v : Value) : Prop := ∀ g, some g ≠ v.ownBlock → w'.heap[g]? = w.heap[g]?
theorem Others.refl (w : World) (v : Value) : Others w w v := fun _ _ => rfl
theorem Others.set {w wr : World} {g n cap : Nat} (h : Others w wr (.slice (some ⟨g, 0, none⟩) n cap)) (k : Nat) (x : Value) : Others w (wr.setCell ⟨g, k, none⟩ x) (.slice (some ⟨g, 0, none⟩) n cap) := fun b hb =>
  (Below.heap_setCell wr _ x b (fun e => hb (by rw [e]; rfl))).trans (h b hb)
theorem At2.others {w w' : World} {v : Value} {g : Nat} {a b : Value} (h : At2 w g a b) (ho : Others w w' v) (hne : some g ≠ v.ownBlock) : At2 w' g a b := by
  have e := ho g hne
  have c : ∀ o, w'.cell? ⟨g, o, none⟩ = w.cell? ⟨g, o, none⟩ := fun o => by unfold World.cell?; rw [e]
  have f : ∀ o, w'.frozen? ⟨g, o, none⟩ = w.frozen? ⟨g, o, none⟩ := fun o => by unfold World.frozen?; rw [e]
  exact ⟨(c 0).trans h.1, (c 1).trans h.2.1, (f 0).trans h.2.2.1, (f 1).trans h.2.2.2⟩
end Go.Proofs.Ythkooboiacajeab
