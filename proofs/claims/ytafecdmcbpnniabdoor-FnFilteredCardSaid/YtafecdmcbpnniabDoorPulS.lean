/- The ticks at which pulses begin that are too short: the model's side. -/
import Derived.Test.YtafecdmcbpnniabDoorPulI
import Derived.Test.YtafecdmcbpnniabDoorWaveStr
import Derived.Test.YtafecdmcbpnniabDoorIn64
import Derived.BigQuiet
import Derived.Deep.QuietTactic
namespace Go.Proofs.YtafecdmcbpnniabDoor
open Go.RowKit Go.Shelf
set_option linter.unusedVariables false
set_option linter.unusedSimpArgs false

def ShoR (w : World) (l : List Int) (ok : Bool) (e : Ending) (w' : World) : Prop := ∃ v, e = .returned (.tuple #[v, .bool ok]) ∧ Ints w' w.heap.size v l ∧ Below w.heap.size w w'
theorem Ints.weak {w : World} {B C : Nat} {v : Value} {l : List Int} (h : Ints w B v l) (hc : C ≤ B) : Ints w C v l := World.ownsRow.mono h hc
theorem Ints.at {w : World} {B n cap : Nat} {a : Option Addr} {l : List Int} (h : Ints w B (.slice a n cap) l) (k : Nat) (hk : k < l.length) :
    ∃ g, a = some ⟨g, 0, none⟩ ∧ B ≤ g ∧ g < w.heap.size ∧ w.cell? ⟨g, k, none⟩ = some (.int .i64 (l.getD k 0)) := by
  obtain ⟨a', cap', hv, _, kk⟩ := h.form
  simp only [Value.slice.injEq] at hv
  obtain ⟨rfl, -, -⟩ := hv
  obtain ⟨g, h1, h2, h3, h4, _⟩ := kk k hk
  exact ⟨g, h1, h2, h3, by rw [h4, List.getD_eq_getElem?_getD, List.getElem?_eq_getElem hk]; rfl⟩
theorem ints_below2 {B : Nat} {w wr w1 : World} {v : Value} {l : List Int} (hB : Below B w wr) (hBw : B ≤ w.heap.size) (h : Ints wr B v l) (o : Obj) (hg : (wr.alloc o).grownBy w1 v.ownBlock) : Below B w w1 :=
  (hB.alloc (Nat.le_trans hBw hB.size) o).grown hg (by have := hB.size; simp; omega) (fun k e => ((World.ownsRow.alloc h o).lt k e).1)
theorem endsL_len (n : Int) (us ds : List Int) (h : us.length = ds.length ∨ us.length = ds.length + 1) : (endsL n us ds).length = us.length := by
  unfold endsL; split
  · simp; omega
  · omega
theorem endsL_getD (n : Int) (us ds : List Int) (i : Nat) (hi : i < us.length) (h : us.length = ds.length ∨ us.length = ds.length + 1) : (endsL n us ds).getD i 0 = if i < ds.length then ds.getD i 0 else n := by
  unfold endsL
  split
  · split
    · rw [List.getD_eq_getElem?_getD, List.getElem?_append_left (by assumption), ← List.getD_eq_getElem?_getD]
    · have : i = ds.length := by omega
      subst this
      rw [List.getD_eq_getElem?_getD, List.getElem?_append_right (Nat.le_refl _)]; simp
  · rw [if_pos (by omega)]

end Go.Proofs.YtafecdmcbpnniabDoor
