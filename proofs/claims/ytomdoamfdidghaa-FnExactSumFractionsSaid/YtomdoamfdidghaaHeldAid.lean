/- Aids for regions that draw their order and hold calls that make memory. -/
import Derived.Test.YtomdoamfdidghaaCmpSpec
import Derived.Test.YtomdoamfdidghaaPair
import Derived.Deep.RegionHeld3
namespace Go.Proofs.Ytomdoamfdidghaa
open Go.RowKit
set_option linter.unusedVariables false
theorem cell_dr {W : World} {a : Addr} {v : Value} (h : W.cell? a = some v) : W.drew.cell? a = some v := h
theorem cell_alloc_dr {W : World} {a : Addr} {v : Value} {o : Obj} (h : W.cell? a = some v) : (W.alloc o).drew.cell? a = some v := cell_alloc_kept h
theorem fresh3 {G : Prop} {W w1 : World} (b : Nat) (x y z : Value) (hb : Below W.heap.size W w1) (h0 : W.cell? ⟨b, 0, none⟩ = some x) (h1 : W.cell? ⟨b, 1, none⟩ = some y) (h2 : W.cell? ⟨b, 2, none⟩ = some z) (g0 : W.frozen? ⟨b, 0, none⟩ = false) (g1 : W.frozen? ⟨b, 1, none⟩ = false) (g2 : W.frozen? ⟨b, 2, none⟩ = false) (hlt : b < W.heap.size)
    (k : w1.cell? ⟨b, 0, none⟩ = some x → w1.cell? ⟨b, 1, none⟩ = some y → w1.cell? ⟨b, 2, none⟩ = some z → w1.frozen? ⟨b, 0, none⟩ = false → w1.frozen? ⟨b, 1, none⟩ = false → w1.frozen? ⟨b, 2, none⟩ = false → b < w1.heap.size → G) : G := by
  obtain ⟨hc, hf⟩ := bcell hb
  exact k ((hc _ _ hlt).trans h0) ((hc _ _ hlt).trans h1) ((hc _ _ hlt).trans h2) ((hf _ _ hlt).trans g0) ((hf _ _ hlt).trans g1) ((hf _ _ hlt).trans g2) (Nat.lt_of_lt_of_le hlt hb.size)

end Go.Proofs.Ytomdoamfdidghaa
