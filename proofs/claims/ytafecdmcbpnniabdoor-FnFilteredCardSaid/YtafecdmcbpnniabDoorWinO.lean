/- A window is laid: its cells in one step each. -/
import Derived.Test.YtafecdmcbpnniabDoorSlide
import Derived.Laws.Tables
import Derived.Deep.WholeRow
namespace Go.Proofs.YtafecdmcbpnniabDoor
open Go.RowKit
set_option linter.unusedVariables false

theorem win_built (T : Int) : (Tryd.prog.built TWin [(0, .int .i64 T)]) = some ([Value.int .i64 T, Value.int .i64 0] ++ (List.range 50).map (fun _ => Value.bool false) ++ [Value.int .i64 0]).toArray := by kernel_rfl
def winZ : Array Value := ([Value.int .i64 0, Value.int .i64 0] ++ (List.range 50).map (fun _ => Value.bool false) ++ [Value.int .i64 0]).toArray
theorem winZ_size : winZ.size = 53 := by simp [winZ]
theorem win_zero (w : World) : (zeroValue TWin).run Tryd.prog w = .ok (.agg winZ) w := by kernel_rfl
theorem winC_one (T mk old : Nat) (arr : Nat → Bool) : (winC T mk old arr).all (·.oneCell') = true := by
  rw [Array.all_eq_true_iff_forall_mem]
  intro v hv
  simp only [winC, List.mem_toArray, List.mem_append, List.mem_cons, List.mem_map, List.not_mem_nil, or_false] at hv
  rcases hv with ((rfl | rfl) | ⟨_, _, rfl⟩) | rfl <;> rfl
theorem wpList_build_win {ops : Array Oper} {rest : List Oper} {o : Oper} {a : Act} {w : World} {Q : Exit → Act → World → Prop} (hg : o.guard = none) (x : Operand) (ho : o.op = .build TWin #[(0, x)]) (T : Nat) (hx : a.eval x = .int .i64 (T : Int))
    (h : wpList Tryd.prog ops Q rest (a.put o.dst (.agg (winC T 0 0 (fun _ => false)))) w) : wpList Tryd.prog ops Q (o :: rest) a w := by
  have e : (Tryd.prog.built TWin ((#[(0, x)] : Array (Nat × Operand)).map fun (i, x) => (i, a.eval x)).toList) = some (winC T 0 0 (fun _ => false)) := by
    simp only [List.map_toArray, List.map_cons, List.map_nil, hx]
    exact win_built (T : Int)
  refine wpList_build hg TWin #[(0, x)] ho (by rw [e]; rfl) ?_
  rw [e]
  exact h
theorem wpList_alloc_win {ops : Array Oper} {rest : List Oper} {o : Oper} {a : Act} {w : World} {Q : Exit → Act → World → Prop} (hg : o.guard = none) (ho : o.op = .alloc TWin)
    (h : wpList Tryd.prog ops Q rest (a.put o.dst (.pointer (some ⟨w.heap.size, 0, none⟩))) (w.alloc (.cells winZ TWin))) : wpList Tryd.prog ops Q (o :: rest) a w :=
  wpList_plain hg fun _ hK => by
    unfold Oper.wp execOp
    simp only [ho, Instr.alloc, newVar, newRow, newObj, Sem.run_bind, Sem.run_pure, Result.andThen_ok, win_zero w, Value.cells]
    exact hK _ _ h
theorem wpList_store_win {ops : Array Oper} {rest : List Oper} {o : Oper} {a : Act} {w : World} {Q : Exit → Act → World → Prop} (hgd : o.guard = none) (x y : Operand) (ho : o.op = .store TWin x y)
    (T : Nat) (hx : a.eval x = .pointer (some ⟨w.heap.size, 0, none⟩)) (hy : a.eval y = .agg (winC T 0 0 (fun _ => false)))
    (h : wpList Tryd.prog ops Q rest (a.put o.dst undef) (w.alloc (.cells (winC T 0 0 (fun _ => false)) TWin))) : wpList Tryd.prog ops Q (o :: rest) a (w.alloc (.cells winZ TWin)) := by
  refine wpList_store_row hgd TWin x y ho w.heap.size (winC T 0 0 (fun _ => false)) hx hy TWin winZ (heap_alloc_last w _) (by rw [(winC_is T 0 0 _).size]; kernel_rfl) (by rw [winZ_size, (winC_is T 0 0 _).size]) (winC_one _ _ _ _) ?_
  rw [World.setRow_alloc_new]
  exact h
end Go.Proofs.YtafecdmcbpnniabDoor
