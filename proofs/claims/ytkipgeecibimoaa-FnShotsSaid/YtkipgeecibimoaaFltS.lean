/- Filtered waves on the model's side. -/
import Derived.Test.YtkipgeecibimoaaLast9
import Derived.Test.YtkipgeecibimoaaBytes
namespace Go.Proofs.Ytkipgeecibimoaa
open Go.RowKit
set_option linter.unusedVariables false
set_option linter.unusedSimpArgs false

theorem cell_one_at8 (W : World) (x : Value) (t : TypeId) (q : Nat) (hq : q = W.heap.size) : ∀ j u, [x][j]? = some u → (W.alloc (.cells #[x] t)).cell? ((⟨q, 0, none⟩ : Addr).add j) = some u := by subst hq; exact cell_one_new _ _ _
theorem buf_drewN8 {w : World} {B : Nat} {v : Value} {l : List UInt8} (n : Nat) (h : Buf w B v l) : Buf (w.drewN n) B v l := h
theorem below_drewN8 {B : Nat} {w w' : World} (n : Nat) (h : Below B w w') : Below B w (w'.drewN n) := ⟨h.os, h.tape, h.output, h.size, h.block⟩
end Go.Proofs.Ytkipgeecibimoaa
