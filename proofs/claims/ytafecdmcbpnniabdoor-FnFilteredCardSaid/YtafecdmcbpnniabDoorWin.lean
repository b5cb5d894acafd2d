/- A window of the program: its cells, what is left without the oldest tick, and how it slides. -/
import Derived.Test.YtafecdmcbpnniabDoorWinF
import Derived.Test.YtafecdmcbpnniabDoorIn64
import Derived.WalkSmall
import Derived.IntWalk
import Derived.RegionTactic
import Derived.BigQuiet
import Derived.Deep.QuietTactic
import Derived.Deep.MidRow
namespace Go.Proofs.YtafecdmcbpnniabDoor
open Go.RowKit
set_option linter.unusedVariables false

abbrev TWin : Nat := 39
/-- a window's cells -/
structure WinV (cs : Array Value) (T mk old : Nat) (arr : Nat → Bool) : Prop where
  size : cs.size = 53
  c0 : cs[0]? = some (.int .i64 (T : Int))
  c1 : cs[1]? = some (.int .i64 (mk : Int))
  cm : ∀ j, j < 50 → cs[2 + j]? = some (.bool (arr j))
  c52 : cs[52]? = some (.int .i64 (old : Int))
def winC (T mk old : Nat) (arr : Nat → Bool) : Array Value := ([Value.int .i64 (T : Int), Value.int .i64 (mk : Int)] ++ (List.range 50).map (fun j => Value.bool (arr j)) ++ [Value.int .i64 (old : Int)]).toArray
theorem winC_is (T mk old : Nat) (arr : Nat → Bool) : WinV (winC T mk old arr) T mk old arr := by
  refine ⟨by simp [winC], by simp [winC], by simp [winC], fun j hj => ?_, by simp [winC]⟩
  unfold winC
  rw [List.getElem?_toArray, List.getElem?_append_left (by simp; omega), List.getElem?_append_right (by simp)]
  simp [hj]
theorem WinV.setMk {cs : Array Value} {T mk old : Nat} {arr : Nat → Bool} (h : WinV cs T mk old arr) (x : Nat) : WinV (cs.setIfInBounds 1 (.int .i64 (x : Int))) T x old arr := by
  have hz := h.size
  refine ⟨by simp [hz], ?_, ?_, fun j hj => ?_, ?_⟩
  · rw [Array.getElem?_setIfInBounds_ne (by omega)]; exact h.c0
  · rw [Array.getElem?_setIfInBounds_self_of_lt (by omega)]
  · rw [Array.getElem?_setIfInBounds_ne (by omega)]; exact h.cm j hj
  · rw [Array.getElem?_setIfInBounds_ne (by omega)]; exact h.c52
theorem WinV.setOld {cs : Array Value} {T mk old : Nat} {arr : Nat → Bool} (h : WinV cs T mk old arr) (x : Nat) : WinV (cs.setIfInBounds 52 (.int .i64 (x : Int))) T mk x arr := by
  have hz := h.size
  refine ⟨by simp [hz], ?_, ?_, fun j hj => ?_, ?_⟩
  · rw [Array.getElem?_setIfInBounds_ne (by omega)]; exact h.c0
  · rw [Array.getElem?_setIfInBounds_ne (by omega)]; exact h.c1
  · rw [Array.getElem?_setIfInBounds_ne (by omega)]; exact h.cm j hj
  · rw [Array.getElem?_setIfInBounds_self_of_lt (by omega)]
theorem WinV.setAt {cs : Array Value} {T mk old : Nat} {arr : Nat → Bool} (h : WinV cs T mk old arr) (i : Nat) (hi : i < 50) (x : Bool) : WinV (cs.setIfInBounds (2 + i) (.bool x)) T mk old (fun j => if j = i then x else arr j) := by
  have hz := h.size
  refine ⟨by simp [hz], ?_, ?_, fun j hj => ?_, ?_⟩
  · rw [Array.getElem?_setIfInBounds_ne (by omega)]; exact h.c0
  · rw [Array.getElem?_setIfInBounds_ne (by omega)]; exact h.c1
  · by_cases he : j = i
    · subst he; rw [Array.getElem?_setIfInBounds_self_of_lt (by omega)]; simp
    · rw [Array.getElem?_setIfInBounds_ne (by omega), if_neg he]; exact h.cm j hj
  · rw [Array.getElem?_setIfInBounds_ne (by omega)]; exact h.c52
theorem WinV.oldAt {cs : Array Value} {T mk old : Nat} {arr : Nat → Bool} (h : WinV cs T mk old arr) (ho : old < 50) : cs[2 + old]? = some (.bool (arr old)) := h.cm old ho
def WinBlk (W : World) (b : Nat) (cs : Array Value) : Prop := W.heap[b]? = some (.cells cs TWin (0, 0))
theorem WinBlk.cell {W : World} {b : Nat} {cs : Array Value} (h : WinBlk W b cs) (j : Nat) : W.cell? ⟨b, j, none⟩ = cs[j]? := Lib.cell_of_heap h j
theorem WinBlk.frozen {W : World} {b : Nat} {cs : Array Value} (h : WinBlk W b cs) (j : Nat) : W.frozen? ⟨b, j, none⟩ = false := Lib.frozen_of_heap h j
theorem WinBlk.set {W : World} {b : Nat} {cs : Array Value} (h : WinBlk W b cs) (j : Nat) (v : Value) : WinBlk (W.setCell ⟨b, j, none⟩ v) b (cs.setIfInBounds j v) := by
  unfold WinBlk at *
  simp [World.setCell, Array.getElem?_modify, h]
theorem WinBlk.lt {W : World} {b : Nat} {cs : Array Value} (h : WinBlk W b cs) : b < W.heap.size := (Array.getElem?_eq_some_iff.1 h).1
theorem WinBlk.load {W : World} {b : Nat} {cs : Array Value} (h : WinBlk W b cs) (hz : cs.size = 53) : (Instr.loadAt TWin (.pointer (some ⟨b, 0, none⟩))).run Tryd.prog W = .ok (.agg cs) W := by
  simp only [Instr.loadAt, Instr.sureAddr, Sem.run_bind, Sem.run_pure, Result.andThen_ok]
  exact run_loadVar_row W b TWin TWin cs (0, 0) _ h Tryd.underlying39 rfl (by rw [hz]; kernel_rfl)

theorem wpList_load_win {ops : Array Oper} {rest : List Oper} {op : Oper} {a : Act} {w : World} {Q : Exit → Act → World → Prop} (hgd : op.guard = none) (x : Operand) (ho : op.op = .load TWin x)
    (b : Nat) (hx : a.eval x = .pointer (some ⟨b, 0, none⟩)) (cs : Array Value) (hb : WinBlk w b cs) (hz : cs.size = 53)
    (h : wpList Tryd.prog ops Q rest (a.put op.dst (.agg cs)) w) : wpList Tryd.prog ops Q (op :: rest) a w :=
  wpList_plain hgd fun _ hK => wp_load_row TWin x ho b hx TWin cs (0, 0) _ hb Tryd.underlying39 rfl (by rw [hz]; kernel_rfl) (hK _ _ h)
/-- is the oldest of the ticks marked? -/
theorem rest_any (cs : Array Value) (T mk old : Nat) (arr : Nat → Bool) (w : World) (h : WinV cs T mk old arr) (ho : old < 50) (hk : mk ≤ 50) (h1 : arr old = true → 1 ≤ mk) :
    Calls Tryd.prog 51 #[.agg cs] w fun e w' => e = .returned (.int .i64 ((mk - (if arr old then 1 else 0) : Nat) : Int)) ∧ Below w.heap.size w w' := by
  have hB : WinBlk (w.alloc (.cells cs TWin)) w.heap.size cs := by unfold WinBlk World.alloc; simp
  have k52 : (w.alloc (.cells cs TWin)).cell? ⟨w.heap.size, 52, none⟩ = some (.int .i64 (old : Int)) := by rw [hB.cell]; exact h.c52
  have k1 : (w.alloc (.cells cs TWin)).cell? ⟨w.heap.size, 1, none⟩ = some (.int .i64 (mk : Int)) := by rw [hB.cell]; exact h.c1
  have km : (w.alloc (.cells cs TWin)).cell? ⟨w.heap.size, 2 + old, none⟩ = some (.bool (arr old)) := by rw [hB.cell]; exact h.oldAt ho
  have hoI : (old : Int) < 50 := by omega
  generalize arr old = x at h1 km ⊢
  clear hB h
  cases x with
  | true =>
    have hk1 := h1 rfl
    have hw : IntKind.i64.wrap ((mk : Int) - 1) = ((mk - 1 : Nat) : Int) := by rw [IntWalk.i64_in _ (by omega)]; omega
    go_enter Tryd.func51, Tryd.ntmps51
    go_wp2
    go_ret
    exact ⟨rfl, (Below.refl _ _).alloc (Nat.le_refl _) _⟩
  | false =>
    go_enter Tryd.func51, Tryd.ntmps51
    go_wp2
    go_ret
    exact ⟨rfl, (Below.refl _ _).alloc (Nat.le_refl _) _⟩
end Go.Proofs.YtafecdmcbpnniabDoor
