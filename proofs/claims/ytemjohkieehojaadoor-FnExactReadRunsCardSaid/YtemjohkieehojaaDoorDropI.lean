/- A wave without short parts: the program's side. -/
import Derived.Test.YtemjohkieehojaaDoorDropM2
import Derived.Test.YtemjohkieehojaaDoorRunsH
import Derived.Test.YtemjohkieehojaaDoorCanF
import Derived.Test.YtemjohkieehojaaDoorBldStr
import Derived.Test.YtemjohkieehojaaDoorShelf
import Derived.Stop.RegionWithIn
import Derived.RangeFuncCalls
import Derived.Deep.RegionWith
namespace Go.Proofs.YtemjohkieehojaaDoor
open Go.RowKit Go.Shelf
set_option linter.unusedVariables false
set_option linter.unusedSimpArgs false
attribute [local go_sem] Oper.semAt_some

theorem repD (c : UInt8) (k : Nat) (W : World) (hc : c = 48 ∨ c = 49) (hk : k ≤ 400) :
    Calls Tryd.prog 26 #[.string (Utf8.encode (c.toNat : Int)), .int .i64 (k : Int)] W fun e W' => e = .returned (.string ⟨Array.replicate k c⟩) ∧ Below W.heap.size W W' := by
  have he : Utf8.encode (c.toNat : Int) = ⟨#[c]⟩ := by
    rcases hc with rfl | rfl
    · decide
    · decide
  rw [he]
  have hl : ∀ k, Lib.repeatL [c] k = List.replicate k c := fun k => by
    induction k with
    | zero => rfl
    | succ n ih => simp [Lib.repeatL, List.replicate_succ, ih]
  refine (Tryd.strings_Repeat ⟨#[c]⟩ k W (by omega) (by show 1 * k ≤ _; omega)).mono ?_
  rintro e w' ⟨rfl, hb⟩
  have hz : (⟨(Lib.repeatL [c] k).toArray⟩ : ByteArray) = ⟨Array.replicate k c⟩ := by rw [hl]; simp
  exact ⟨by rw [← hz], hb⟩
theorem KeepsHis.below {ts : List TypeId} {W W' : World} (hb : Below W.heap.size W W') : KeepsHis ts W W' := ⟨hb.size, fun k o hk _ => (hb.block k (Array.getElem?_eq_some_iff.1 hk).1).trans hk⟩
theorem builder_kept {b : Nat} {bs : List Value} {w w' : World} (h : Lib.IsBuilderF TB TU b b bs w) (hk : ∀ k o, w.heap[k]? = some o → (k = b ∨ ∃ c fz, o = .cells c TU fz) → w'.heap[k]? = some o) : Lib.IsBuilderF TB TU b b bs w' := by
  have one : ∀ p, Lib.BuilderAtF TB TU b b p bs w → Lib.BuilderAtF TB TU b b p bs w' := by
    rintro p ⟨hB, v, hb, hown, hne⟩
    refine ⟨hB, v, hk _ _ hb (.inl rfl), ⟨hown.1, ?_⟩, hne⟩
    rcases hown.2 with hv | ⟨g, cap, cur, fz, hv, hg, hgg, rest⟩
    · exact .inl hv
    · exact .inr ⟨g, cap, cur, fz, hv, hg, hk _ _ hgg (.inr ⟨_, _, rfl⟩), rest⟩
  exact h.elim (fun x => .inl (one _ x)) (fun x => .inr (one _ x))
theorem builder_his {b : Nat} {bs : List Value} {w : World} {ts : List TypeId} (h : Lib.IsBuilderF TB TU b b bs w) (hts : ts.contains TB = false) : ∃ o, w.heap[b]? = some o ∧ isHis ts o = false := by
  rcases h with ⟨_, v, hb, _⟩ | ⟨_, v, hb, _⟩ <;> exact ⟨_, hb, by simpa [isHis] using hts⟩
theorem keeps_his_wrote {ts : List TypeId} {W W' : World} {B b : Nat} {bs : List Value} (hts : ts.contains TB = false) (htu : ts.contains TU = false) (hb : Below B W W') (h : Lib.IsBuilderF TB TU b b bs W) (hk : Lib.OthersKept TU (some b) W W') : KeepsHis ts W W' :=
  ⟨hb.size, fun k o hko ho => hk k o hko (fun e => by
    cases e
    obtain ⟨o', h1, h2⟩ := builder_his h hts
    rw [hko] at h1; cases h1; rw [ho] at h2; cases h2) (fun c fz e => by subst e; simp only [isHis] at ho; rw [ho] at htu; cases htu)⟩

theorem rep49 (k : Nat) (W : World) (hk : k ≤ 400) :
    Calls Tryd.prog 26 #[.string (Utf8.encode 49), .int .i64 (k : Int)] W fun e W' => e = .returned (.string ⟨Array.replicate k 49⟩) ∧ Below W.heap.size W W' := repD 49 k W (.inr rfl) hk
theorem rep48 (k : Nat) (W : World) (hk : k ≤ 400) :
    Calls Tryd.prog 26 #[.string (Utf8.encode 48), .int .i64 (k : Int)] W fun e W' => e = .returned (.string ⟨Array.replicate k 48⟩) ∧ Below W.heap.size W W' := repD 48 k W (.inl rfl) hk

/-- between two parts: the two numbers asked for, and the builder with the text of the parts that came -/
def DropJ (c t : Int) (w0 : World) (pre : List (Int × Int)) (W : World) : Prop :=
  Lib.IsBuilderF TB TU (w0.heap.size + 2) (w0.heap.size + 2) (Lib.byteCells (partsT c t pre)) W ∧ W.heap[w0.heap.size]? = some (.cells #[.int .i32 c] 21 (0, 0)) ∧ W.heap[w0.heap.size + 1]? = some (.cells #[.int .i64 t] 2 (0, 0)) ∧ w0.heap.size + 3 < W.heap.size ∧ Below w0.heap.size w0 W
theorem DropJ.own (c t : Int) (w0 : World) (B : Nat) (hB : B = w0.heap.size + 4) : OwnFromH MineR B (DropJ c t w0) := by
  intro pre X Y row h hg hr
  obtain ⟨h1, h2, h3, h4, h5⟩ := h
  have hne : ∀ k, k < B → some k ≠ row := fun k hk e => by have := (hr k e.symm).1; omega
  refine ⟨builder_kept h1 (fun k o hk hko => ?_), (hg.block _ (by omega) (hne _ (by omega))).trans h2, (hg.block _ (by omega) (hne _ (by omega))).trans h3, Nat.lt_of_lt_of_le h4 hg.size, h5.grown hg (by omega) (fun r e => by have := (hr r e).1; omega)⟩
  refine (hg.block k (Array.getElem?_eq_some_iff.1 hk).1 (fun e => ?_)).trans hk
  obtain ⟨hb, o', ho', hc⟩ := hr k e.symm
  rw [hk] at ho'; cases ho'
  rcases hko with rfl | ⟨cc, fz, rfl⟩
  · omega
  · simp only [isHis] at hc
    revert hc
    decide
theorem DropJ.wrote {c t : Int} {w0 W1 W2 W3 : World} {pre : List (Int × Int)} {x : Int × Int} (h : DropJ c t w0 pre W1) (b2 : Below W1.heap.size W1 W2)
    (h3 : Lib.BuilderAtF TB TU (w0.heap.size + 2) (w0.heap.size + 2) (.pointer (some ⟨w0.heap.size + 2, 0, none⟩)) (Lib.byteCells (partsT c t pre) ++ Lib.strCells ⟨Array.replicate x.2.toNat (outLev c t x)⟩) W3) (b3 : Below (w0.heap.size + 2) W2 W3) : DropJ c t w0 (pre ++ [x]) W3 := by
  obtain ⟨h1, h2, h4, h5, h6⟩ := h
  have b13 : Below (w0.heap.size + 2) W1 W3 := (b2.mono (by omega)).trans b3
  refine ⟨.inr ?_, (b13.block _ (by omega)).trans h2, (b13.block _ (by omega)).trans h4, Nat.lt_of_lt_of_le h5 b13.size, h6.trans (b13.mono (by omega))⟩
  rw [partsT_snoc, Lib.byteCells_append]
  simpa [Lib.strCells, Lib.byteCells] using h3
theorem DropJ.more {c t : Int} {w0 W1 W2 : World} {pre : List (Int × Int)} (h : DropJ c t w0 pre W1) (b2 : Below W1.heap.size W1 W2) : Lib.IsBuilderF TB TU (w0.heap.size + 2) (w0.heap.size + 2) (Lib.byteCells (partsT c t pre)) W2 :=
  builder_kept h.1 (fun k o hk _ => (b2.block k (Array.getElem?_eq_some_iff.1 hk).1).trans hk)

end Go.Proofs.YtemjohkieehojaaDoor
