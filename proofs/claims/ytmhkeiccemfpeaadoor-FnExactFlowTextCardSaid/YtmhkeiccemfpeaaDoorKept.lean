/- What a callee, an alloc and a store elsewhere leave of the cells. -/
import Derived.Test.YtmhkeiccemfpeaaDoorWords
import Derived.Deep.RegionHeld3
namespace Go.Proofs.YtmhkeiccemfpeaaDoor
open Go.RowKit

theorem fresh2 {G : Prop} {W w1 : World} (b : Nat) (x y : Value) (hb : Below W.heap.size W w1) (h0 : W.cell? ⟨b, 0, none⟩ = some x) (h1 : W.cell? ⟨b, 1, none⟩ = some y) (g0 : W.frozen? ⟨b, 0, none⟩ = false) (g1 : W.frozen? ⟨b, 1, none⟩ = false) (hlt : b < W.heap.size)
    (k : w1.cell? ⟨b, 0, none⟩ = some x → w1.cell? ⟨b, 1, none⟩ = some y → w1.frozen? ⟨b, 0, none⟩ = false → w1.frozen? ⟨b, 1, none⟩ = false → b < w1.heap.size → G) : G := by
  obtain ⟨hc, hf⟩ := bcell hb
  exact k ((hc _ _ hlt).trans h0) ((hc _ _ hlt).trans h1) ((hf _ _ hlt).trans g0) ((hf _ _ hlt).trans g1) (Nat.lt_of_lt_of_le hlt hb.size)

theorem kept_k {G : Prop} {W w1 : World} (hb : Below W.heap.size W w1) (a : Addr) (v : Value) (h : W.cell? a = some v) (k : w1.cell? a = some v → G) : G :=
  k ((hb.cell (World.block_lt_of_cell? W a h)).trans h)
theorem cell_alloc_kept {W : World} {a : Addr} {v : Value} {o : Obj} (h : W.cell? a = some v) : (W.alloc o).cell? a = some v :=
  (World.cell?_alloc_some W a o (by rw [h]; rfl)).trans h
theorem cell_set_kept {W : World} {p a : Addr} {v u : Value} (hne : p.block ≠ a.block) (h : W.cell? a = some v) : (W.setCell p u).cell? a = some v :=
  (World.cell?_setCell_far W p a u hne).trans h
theorem cell_kept {W w1 : World} (hb : Below W.heap.size W w1) {a : Addr} {v : Value} (h : W.cell? a = some v) : w1.cell? a = some v :=
  (hb.cell (World.block_lt_of_cell? W a h)).trans h

end Go.Proofs.YtmhkeiccemfpeaaDoor
