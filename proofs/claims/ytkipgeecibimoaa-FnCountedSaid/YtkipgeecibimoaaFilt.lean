/- A filtered wave of the program, by a rule. -/
import Derived.Test.YtkipgeecibimoaaBuilder
import Derived.Test.YtkipgeecibimoaaDecs
import Derived.Test.YtkipgeecibimoaaCanF
import Derived.Test.YtkipgeecibimoaaWinO
import Derived.StillTailTactics
import Derived.Stop.Asserts
namespace Go.Proofs.Ytkipgeecibimoaa
open Go.RowKit Go.Shelf
set_option linter.unusedVariables false

theorem levelOfX (b : Bool) (w : World) :
    Calls Try.prog 78 #[.bool b] w fun e w' => e = .returned (.int .i32 ((lvU b).toNat : Int)) ∧ w = w' := by
  cases b
  all_goals
    go_enter Try.func78, Try.ntmps78
    go_wp2
    go_ret
    exact ⟨rfl, rfl⟩
theorem builder_grownX {T e : TypeId} {B b k : Nat} {bs : List Value} {w w' : World} (h : Lib.IsBuilderF T e B b bs w) (hg : w.grownBy w' (some k)) (hk : k < B) : Lib.IsBuilderF T e B b bs w' := by
  have one : ∀ p, Lib.BuilderAtF T e B b p bs w → Lib.BuilderAtF T e B b p bs w' := by
    rintro p ⟨hB, v0, hb, hown, hne⟩
    refine ⟨hB, v0, (hg.block b (Array.getElem?_eq_some_iff.1 hb).1 (by simp; omega)).trans hb, ?_, hne⟩
    refine hown.kept hg (Or.inr (fun e => ?_))
    have := (hown.lt k e).1
    omega
  exact h.elim (fun x => .inl (one _ x)) (fun x => .inr (one _ x))
theorem builder_ltX {T e : TypeId} {B b : Nat} {bs : List Value} {w : World} (h : Lib.IsBuilderF T e B b bs w) : b < w.heap.size := h.elim (fun x => x.lt) (fun x => x.lt)
theorem bytes_oneX (L : List UInt8) (c : UInt8) : Lib.byteCells (L ++ [c]) = Lib.byteCells L ++ [.int .u8 (c.toNat : Int)] := by simp [Lib.byteCells]
theorem grown_iter (w : World) (k : Nat) (s : ByteArray) (pos : Nat) : w.grownBy (w.iterAt k s pos) (some k) :=
  ⟨rfl, rfl, rfl, by rw [Lib.iterAt_size]; exact Nat.le_refl _, fun j _ hj => Lib.iterAt_other w k j s pos (fun e => hj (by rw [e]))⟩
/-- steps that turn blocks from B on, or block r -/
def Mix (B r : Nat) (a w : World) : Prop := w.os = a.os ∧ w.tape = a.tape ∧ w.output = a.output ∧ a.heap.size ≤ w.heap.size ∧ ∀ k, k < B → k ≠ r → w.heap[k]? = a.heap[k]?
theorem Mix.refl (B r : Nat) (w : World) : Mix B r w w := ⟨rfl, rfl, rfl, Nat.le_refl _, fun _ _ _ => rfl⟩
theorem Mix.trans {B r : Nat} {a b c : World} (h : Mix B r a b) (h2 : Mix B r b c) : Mix B r a c :=
  ⟨h2.1.trans h.1, h2.2.1.trans h.2.1, h2.2.2.1.trans h.2.2.1, Nat.le_trans h.2.2.2.1 h2.2.2.2.1, fun k hk hr => (h2.2.2.2.2 k hk hr).trans (h.2.2.2.2 k hk hr)⟩
theorem Mix.grown {B r k : Nat} {a b c : World} (h : Mix B r a b) (h2 : b.grownBy c (some k)) (hk : k = r ∨ B ≤ k) (hs : B ≤ b.heap.size) : Mix B r a c :=
  h.trans ⟨h2.os, h2.tape, h2.output, h2.size, fun j hj hr => h2.block j (by omega) (by simp; omega)⟩
theorem Mix.below {B C r : Nat} {a b c : World} (h : Mix B r a b) (h2 : Below C b c) (hC : B ≤ C) : Mix B r a c :=
  h.trans ⟨h2.os, h2.tape, h2.output, h2.size, fun j hj hr => h2.block j (by omega)⟩
theorem Mix.grownBy {B r : Nat} {a w : World} (h : Mix B r a w) (hB : B = a.heap.size) : a.grownBy w (some r) :=
  ⟨h.1, h.2.1, h.2.2.1, h.2.2.2.1, fun k hk hr => h.2.2.2.2 k (by omega) (by simpa [eq_comm] using hr)⟩
/-- what a filtered wave is -/
def FltR (r : Nat) (x : ByteArray) (w : World) (e : Ending) (w' : World) : Prop := e = .returned (.tuple #[.string x, .bool true]) ∧ w.grownBy w' (some r)
end Go.Proofs.Ytkipgeecibimoaa
