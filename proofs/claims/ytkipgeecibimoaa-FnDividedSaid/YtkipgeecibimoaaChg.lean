/- What is kept while a wave is written that changes where another one does: the builder, the level, the counter. -/
import Derived.Test.YtkipgeecibimoaaBldStr
import Derived.Test.YtkipgeecibimoaaAcc
import Derived.Test.YtkipgeecibimoaaChgMath
import Derived.Test.YtkipgeecibimoaaTold
namespace Go.Proofs.Ytkipgeecibimoaa
open Go.RowKit
set_option linter.unusedVariables false

abbrev T32 : Nat := 21
abbrev TFN : Nat := 172
/-- all blocks below B but E lie as they lay -/
structure Moved (B E : Nat) (w w' : World) : Prop where
  os : w'.os = w.os
  tape : w'.tape = w.tape
  output : w'.output = w.output
  size : w.heap.size ≤ w'.heap.size
  block : ∀ k, k < B → k ≠ E → w'.heap[k]? = w.heap[k]?
theorem Moved.refl (B E : Nat) (w : World) : Moved B E w w := ⟨rfl, rfl, rfl, Nat.le_refl _, fun _ _ _ => rfl⟩
theorem Moved.of {B E : Nat} {w w' : World} (h : Below B w w') : Moved B E w w' := ⟨h.os, h.tape, h.output, h.size, fun k hk _ => h.block k hk⟩
theorem Moved.trans {B E : Nat} {a b c : World} (h : Moved B E a b) (k : Moved B E b c) : Moved B E a c :=
  ⟨k.os.trans h.os, k.tape.trans h.tape, k.output.trans h.output, Nat.le_trans h.size k.size, fun i hi hn => (k.block i hi hn).trans (h.block i hi hn)⟩
theorem Moved.mono {B C E : Nat} {w w' : World} (h : Moved B E w w') (hc : C ≤ B) : Moved C E w w' := ⟨h.os, h.tape, h.output, h.size, fun k hk hn => h.block k (by omega) hn⟩
theorem Moved.below {B E : Nat} {w w' : World} (h : Moved B E w w') {C : Nat} (hc : C ≤ B) (hE : C ≤ E) : Below C w w' := ⟨h.os, h.tape, h.output, h.size, fun k hk => h.block k (by omega) (by omega)⟩
theorem Moved.grown {B E : Nat} {a w w' : World} {row : Option Nat} (h : Moved B E a w) (hg : w.grownBy w' row) (hB : B ≤ w.heap.size) (hr : ∀ r, row = some r → B ≤ r) : Moved B E a w' :=
  ⟨hg.os.trans h.os, hg.tape.trans h.tape, hg.output.trans h.output, Nat.le_trans h.size hg.size, fun k hk hn => (hg.block k (by omega) (fun e => by have := hr k e.symm; omega)).trans (h.block k hk hn)⟩

/-- a builder lies as it lay where its own blocks do -/
theorem builder_keep {b : Nat} {bs : List Value} {w w' : World} (h : Lib.IsBuilderF TB TU b b bs w) (hk : ∀ k o, w.heap[k]? = some o → (k = b ∨ ∃ c fz, o = .cells c TU fz) → w'.heap[k]? = some o) : Lib.IsBuilderF TB TU b b bs w' := by
  have one : ∀ p, Lib.BuilderAtF TB TU b b p bs w → Lib.BuilderAtF TB TU b b p bs w' := by
    rintro p ⟨hB, v, hb, hown, hne⟩
    refine ⟨hB, v, hk _ _ hb (.inl rfl), ⟨hown.1, ?_⟩, hne⟩
    rcases hown.2 with hv | ⟨g, cap, cur, fz, hv, hg, hgg, rest⟩
    · exact .inl hv
    · exact .inr ⟨g, cap, cur, fz, hv, hg, hk _ _ hgg (.inr ⟨_, _, rfl⟩), rest⟩
  exact h.elim (fun x => .inl (one _ x)) (fun x => .inr (one _ x))

/-- the state of the loop -/
structure ChgInv (w0 : World) (E m : Nat) (fv : Value) (st : List UInt8 × UInt8 × Nat) (W : World) : Prop where
  mv : Moved w0.heap.size E w0 W
  eph : W.heap[E]? = some (.cells #[.int .i64 1, .int .i64 (m : Int), .int .i64 (st.2.2 : Int)] TAC (0, 0))
  box : W.heap[w0.heap.size]? = some (.cells #[fv] TFN (0, 0))
  bld : Lib.IsBuilderF TB TU (w0.heap.size + 1) (w0.heap.size + 1) (Lib.byteCells st.1) W
  lev : W.heap[w0.heap.size + 1 + 1]? = some (.cells #[.int .i32 (st.2.1.toNat : Int)] T32 (0, 0))

section
variable {w0 : World} {E m : Nat} {fv : Value} {st : List UInt8 × UInt8 × Nat} {W W' : World}
theorem ChgInv.lt (h : ChgInv w0 E m fv st W) : w0.heap.size + 1 + 1 < W.heap.size := (Array.getElem?_eq_some_iff.1 h.lev).1
theorem ChgInv.grown (h : ChgInv w0 E m fv st W) {row : Option Nat} (hg : W.grownBy W' row) (hr : ∀ r, row = some r → w0.heap.size ≤ r ∧ ∃ o : Obj, W.heap[r]? = some o ∧ o.isCells = false) : ChgInv w0 E m fv st W' := by
  have hs := h.lt
  have keep : ∀ (k : Nat) (o : Obj), W.heap[k]? = some o → o.isCells = true → W'.heap[k]? = some o := fun k o hk ho => by
    refine (hg.block k (Array.getElem?_eq_some_iff.1 hk).1 (fun e => ?_)).trans hk
    obtain ⟨_, o', ho', hc⟩ := hr k e.symm
    rw [hk] at ho'; cases ho'; rw [ho] at hc; cases hc
  refine ⟨h.mv.grown hg (by omega) (fun r e => (hr r e).1), keep _ _ h.eph rfl, keep _ _ h.box rfl, builder_keep h.bld (fun k o hk hko => ?_), keep _ _ h.lev rfl⟩
  rcases hko with rfl | ⟨c, fz, rfl⟩
  · refine keep _ _ hk ?_
    rcases h.bld with ⟨_, v, hb, _⟩ | ⟨_, v, hb, _⟩ <;> (rw [hk] at hb; cases hb; rfl)
  · exact keep _ _ hk rfl
/-- new blocks alone -/
theorem ChgInv.more (h : ChgInv w0 E m fv st W) (hb : Below W.heap.size W W') : ChgInv w0 E m fv st W' :=
  h.grown (row := none) ⟨hb.os, hb.tape, hb.output, hb.size, fun k hk _ => hb.block k hk⟩ (fun r e => by cases e)
theorem ChgInv.drew (h : ChgInv w0 E m fv st W) (q : Nat) : ChgInv w0 E m fv st (W.drewN q) := ⟨⟨h.mv.os, h.mv.tape, h.mv.output, h.mv.size, h.mv.block⟩, h.eph, h.box, h.bld, h.lev⟩
/-- the builder is written -/
theorem ChgInv.wrote (h : ChgInv w0 E m fv st W) (hE : E < w0.heap.size) {bs : List UInt8} (hb : Below (w0.heap.size + 1) W W') (hk : Lib.OthersKept TU (some (w0.heap.size + 1)) W W')
    (hn : Lib.BuilderAtF TB TU (w0.heap.size + 1) (w0.heap.size + 1) (.pointer (some ⟨w0.heap.size + 1, 0, none⟩)) (Lib.byteCells bs) W') : ChgInv w0 E m fv (bs, st.2) W' :=
  ⟨h.mv.trans (.of (hb.mono (by omega))), (hb.block _ (by omega)).trans h.eph, (hb.block _ (by omega)).trans h.box, .inr hn, hk _ _ h.lev (by simp) (fun c fz e => by cases e)⟩
/-- the counter counts -/
theorem ChgInv.counted (h : ChgInv w0 E m fv st W) (hE : E < w0.heap.size) {p : Nat} (hm : Moved W.heap.size E W W') (hp : W'.heap[E]? = some (.cells #[.int .i64 1, .int .i64 (m : Int), .int .i64 (p : Int)] TAC (0, 0))) : ChgInv w0 E m fv (st.1, st.2.1, p) W' := by
  have hs := h.lt
  refine ⟨h.mv.trans (hm.mono (by omega)), hp, (hm.block _ (by omega) (by omega)).trans h.box, builder_keep h.bld (fun k o hk hko => ?_), (hm.block _ (by omega) (by omega)).trans h.lev⟩
  refine (hm.block k (Array.getElem?_eq_some_iff.1 hk).1 (fun e => ?_)).trans hk
  rcases hko with rfl | ⟨c, fz, rfl⟩
  · omega
  · have h2 := h.eph
    rw [← e, hk] at h2
    injection h2 with h3
    injection h3 with _ h4 _
    exact absurd h4 (by decide)
/-- the level is set -/
theorem ChgInv.leveled (h : ChgInv w0 E m fv st W) (hE : E < w0.heap.size) (c : UInt8) : ChgInv w0 E m fv (st.1, c, st.2.2) (W.setCell ⟨w0.heap.size + 1 + 1, 0, none⟩ (.int .i32 (c.toNat : Int))) := by
  have hs := h.lt
  have o : ∀ k, k ≠ w0.heap.size + 1 + 1 → (W.setCell ⟨w0.heap.size + 1 + 1, 0, none⟩ (.int .i32 (c.toNat : Int))).heap[k]? = W.heap[k]? := fun k hk => Below.heap_setCell _ _ _ _ hk
  refine ⟨⟨h.mv.os, h.mv.tape, h.mv.output, by have := h.mv.size; simpa [World.setCell] using this, fun k hk hn => (o k (by omega)).trans (h.mv.block k hk hn)⟩, (o _ (by omega)).trans h.eph, (o _ (by omega)).trans h.box, builder_keep h.bld (fun k ob hk hko => ?_), ?_⟩
  · refine (o k (fun e => ?_)).trans hk
    rcases hko with rfl | ⟨cc, fz, rfl⟩
    · omega
    · have h2 := h.lev
      rw [← e, hk] at h2
      injection h2 with h3
      injection h3 with _ h4 _
      exact absurd h4 (by decide)
  · simp [World.setCell, Array.getElem?_modify, h.lev]
end

theorem keeps_below {W W' : World} (hb : Below W.heap.size W W') : KeepsOthers W W' := ⟨hb.size, fun k o hk _ => (hb.block k (Array.getElem?_eq_some_iff.1 hk).1).trans hk⟩
theorem keeps_moved {W W' : World} {E : Nat} {c : Array Value} {t : TypeId} {fz : Nat × Nat} (hb : Moved W.heap.size E W W') (hE : W.heap[E]? = some (.cells c t fz)) : KeepsOthers W W' :=
  ⟨hb.size, fun k o hk ho => (hb.block k (Array.getElem?_eq_some_iff.1 hk).1 (fun e => by rw [e, hE] at hk; cases hk; cases ho)).trans hk⟩
theorem keeps_wrote {W W' : World} {B b : Nat} {bs : List Value} (hb : Below B W W') (h : Lib.IsBuilderF TB TU b b bs W) (hk : Lib.OthersKept TU (some b) W W') : KeepsOthers W W' :=
  ⟨hb.size, fun k o hko ho => hk k o hko (fun e => by
    cases e
    rcases h with ⟨_, v, hbb, _⟩ | ⟨_, v, hbb, _⟩ <;> (rw [hko] at hbb; cases hbb; cases ho)) (fun c fz e => by rw [e] at ho; cases ho)⟩
end Go.Proofs.Ytkipgeecibimoaa
