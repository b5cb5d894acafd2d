/- A switched clock's requests: settle, on the program's side. -/
import Derived.Test.YtmhbgpappjfolaaReset
import Derived.Laws.CopyOwn
import Derived.RegionTactic
import Derived.ChangeAlike
import Derived.Outline
namespace Go.Proofs.Ytmhbgpappjfolaa
open Go.RowKit Go.Shelf
set_option linter.unusedVariables false

/-- a switch at work, cell by cell -/
def swL (n f : Int) (e0 e1 l0 a0 a1 a2 a3 a4 a5 l1 b0 b1 b2 b3 b4 b5 : Bool) : List Value :=
  [.int .i64 n, .int .i64 f, .bool e0, .bool e1, .bool l0, .bool a0, .bool a1, .bool a2, .bool a3, .bool a4, .bool a5, .bool l1, .bool b0, .bool b1, .bool b2, .bool b3, .bool b4, .bool b5]
def SwBlk (W : World) (p : Nat) (L : List Value) : Prop := W.heap[p]? = some (.cells L.toArray 92 (0, 0))
theorem SwBlk.cell {W : World} {p : Nat} {L : List Value} (h : SwBlk W p L) (j : Nat) : W.cell? ⟨p, j, none⟩ = L[j]? := by
  rw [Lib.cell_of_heap h]; simp
theorem SwBlk.frozen {W : World} {p : Nat} {L : List Value} (h : SwBlk W p L) (j : Nat) : W.frozen? ⟨p, j, none⟩ = false := Lib.frozen_of_heap h j
theorem SwBlk.set {W : World} {p : Nat} {L : List Value} (h : SwBlk W p L) (j : Nat) (v : Value) (hj : j < L.length) : SwBlk (W.setCell ⟨p, j, none⟩ v) p (L.set j v) := by
  unfold SwBlk
  rw [heap_setCell_same W p j L.toArray _ v h]
  simp
theorem SwBlk.row {W : World} {p : Nat} {L : List Value} (h : SwBlk W p L) (L' : List Value) : SwBlk (W.setRow p L'.toArray) p L' := setRow_heap W p _ _ _ _ h
theorem grown_row (W : World) (p : Nat) (cs : Array Value) : W.grownBy (W.setRow p cs) (some p) :=
  ⟨rfl, rfl, rfl, by simp [World.setRow], fun k _ hne => setRow_other W p k cs (fun e => hne (by rw [e]))⟩
/-- what settle does -/
def SetR (W : World) (p : Nat) (r : Bool) (L : List Value) (e : Ending) (w' : World) : Prop := e = .returned (.bool r) ∧ SwBlk w' p L ∧ W.grownBy w' (some p)
theorem used_at (n : Nat) (hn : n ≤ 5) (x a0 a1 a2 a3 a4 a5 : Bool) : ([Value.bool x, .bool a0, .bool a1, .bool a2, .bool a3, .bool a4] : List Value)[n]? = some (.bool (usedB n [a0, a1, a2, a3, a4, a5] x)) := by
  match n, hn with
  | 0, _ => rfl
  | 1, _ => rfl
  | 2, _ => rfl
  | 3, _ => rfl
  | 4, _ => rfl
  | 5, _ => rfl
theorem copyEq0 (p n : Nat) (hn : n ≤ 5) (f : Int) (x e0 e1 l0 a0 a1 a2 a3 a4 a5 l1 b0 b1 b2 b3 b4 b5 : Bool) (W : World) (h : SwBlk W p (swL n f e0 e1 l0 a0 a1 a2 a3 a4 a5 l1 b0 b1 b2 b3 b4 b5)) :
    ∃ W1, (Builtin.copy_ #[32, 32] 3 #[.slice (some ⟨p, 6, none⟩) 5 5, .slice (some ⟨p, 5, none⟩) 6 6]).run Try.prog W = .ok (goInt 5) W1 ∧ SwBlk W1 p (swL n f e0 e1 l0 a0 a0 a1 a2 a3 a4 l1 b0 b1 b2 b3 b4 b5) ∧ W.grownBy W1 (some p) :=
  ⟨_, run_copy_row (P := Try.prog) W 32 32 3 4 p 6 5 5 ⟨p, 5, none⟩ 6 6 _ _ [.bool a0, .bool a1, .bool a2, .bool a3, .bool a4] Try.underlying32 (by kernel_rfl) h rfl
    (fun j v hj => by
      rw [Addr.add_lit, h.cell]
      match j, hj with
      | 0, hj => exact hj
      | 1, hj => exact hj
      | 2, hj => exact hj
      | 3, hj => exact hj
      | 4, hj => exact hj
      | j + 5, hj => simp at hj) (by simp [swL]) (by simp [Value.oneCell']), h.row _, grown_row _ _ _⟩
set_option maxHeartbeats 1000000 in
set_option maxRecDepth 100000 in
theorem settle0 (p n : Nat) (hn : n ≤ 5) (f : Int) (x e0 e1 l0 a0 a1 a2 a3 a4 a5 l1 b0 b1 b2 b3 b4 b5 : Bool) (W : World) (h : SwBlk W p (swL n f e0 e1 l0 a0 a1 a2 a3 a4 a5 l1 b0 b1 b2 b3 b4 b5)) :
    Calls Try.prog 93 #[.pointer (some ⟨p, 4, none⟩), .bool x, .int .i64 (n : Int)] W fun e w' =>
      SetR W p (usedB n [a0, a1, a2, a3, a4, a5] x) (swL n f e0 e1 l0 x a0 a1 a2 a3 a4 l1 b0 b1 b2 b3 b4 b5) e w' := by
  obtain ⟨W1, hk, h1, g1⟩ := copyEq0 p n hn f x e0 e1 l0 a0 a1 a2 a3 a4 a5 l1 b0 b1 b2 b3 b4 b5 W.drew h
  have k0 : W1.cell? ⟨p, 5, none⟩ = some (.bool a0) := by rw [h1.cell]; rfl
  have kf : W1.frozen? ⟨p, 5, none⟩ = false := h1.frozen 5
  have h2' : SwBlk (W1.setCell ⟨p, 5, none⟩ (.bool x)) p (swL n f e0 e1 l0 x a0 a1 a2 a3 a4 l1 b0 b1 b2 b3 b4 b5) := h1.set 5 (.bool x) (by simp [swL])
  have HG : Hid (W.grownBy (W1.setCell ⟨p, 5, none⟩ (.bool x)) (some p)) := grown_then (w := W) ⟨g1.os, g1.tape, g1.output, g1.size, g1.block⟩ 5 (.bool x)
  obtain ⟨r, hr⟩ : ∃ r, usedB n [a0, a1, a2, a3, a4, a5] x = r := ⟨_, rfl⟩
  have kr : (W1.setCell ⟨p, 5, none⟩ (.bool x)).cell? ⟨p, 5 + n, none⟩ = some (.bool r) := by
    rw [h2'.cell, ← hr, ← used_at n hn x a0 a1 a2 a3 a4 a5]
    match n, hn with
    | 0, _ => rfl
    | 1, _ => rfl
    | 2, _ => rfl
    | 3, _ => rfl
    | 4, _ => rfl
    | 5, _ => rfl
  have HS := Lib.hid h2'
  rw [hr]
  clear h2' h1 g1 h hr
  have hn6 : (n : Int) < 6 := by omega
  go_enter Try.func93, Try.ntmps93
  go_wp2
  go_region
  all_goals
    go_wp2
    go_ret
    exact ⟨rfl, HS.out, HG.out⟩
theorem copyEq1 (p n : Nat) (hn : n ≤ 5) (f : Int) (x e0 e1 l0 a0 a1 a2 a3 a4 a5 l1 b0 b1 b2 b3 b4 b5 : Bool) (W : World) (h : SwBlk W p (swL n f e0 e1 l0 a0 a1 a2 a3 a4 a5 l1 b0 b1 b2 b3 b4 b5)) :
    ∃ W1, (Builtin.copy_ #[32, 32] 3 #[.slice (some ⟨p, 13, none⟩) 5 5, .slice (some ⟨p, 12, none⟩) 6 6]).run Try.prog W = .ok (goInt 5) W1 ∧ SwBlk W1 p (swL n f e0 e1 l0 a0 a1 a2 a3 a4 a5 l1 b0 b0 b1 b2 b3 b4) ∧ W.grownBy W1 (some p) :=
  ⟨_, run_copy_row (P := Try.prog) W 32 32 3 4 p 13 5 5 ⟨p, 12, none⟩ 6 6 _ _ [.bool b0, .bool b1, .bool b2, .bool b3, .bool b4] Try.underlying32 (by kernel_rfl) h rfl
    (fun j v hj => by
      rw [Addr.add_lit, h.cell]
      match j, hj with
      | 0, hj => exact hj
      | 1, hj => exact hj
      | 2, hj => exact hj
      | 3, hj => exact hj
      | 4, hj => exact hj
      | j + 5, hj => simp at hj) (by simp [swL]) (by simp [Value.oneCell']), h.row _, grown_row _ _ _⟩
set_option maxHeartbeats 1000000 in
set_option maxRecDepth 100000 in
theorem settle1 (p n : Nat) (hn : n ≤ 5) (f : Int) (x e0 e1 l0 a0 a1 a2 a3 a4 a5 l1 b0 b1 b2 b3 b4 b5 : Bool) (W : World) (h : SwBlk W p (swL n f e0 e1 l0 a0 a1 a2 a3 a4 a5 l1 b0 b1 b2 b3 b4 b5)) :
    Calls Try.prog 93 #[.pointer (some ⟨p, 11, none⟩), .bool x, .int .i64 (n : Int)] W fun e w' =>
      SetR W p (usedB n [b0, b1, b2, b3, b4, b5] x) (swL n f e0 e1 l0 a0 a1 a2 a3 a4 a5 l1 x b0 b1 b2 b3 b4) e w' := by
  obtain ⟨W1, hk, h1, g1⟩ := copyEq1 p n hn f x e0 e1 l0 a0 a1 a2 a3 a4 a5 l1 b0 b1 b2 b3 b4 b5 W.drew h
  have k0 : W1.cell? ⟨p, 12, none⟩ = some (.bool b0) := by rw [h1.cell]; rfl
  have kf : W1.frozen? ⟨p, 12, none⟩ = false := h1.frozen 12
  have h2' : SwBlk (W1.setCell ⟨p, 12, none⟩ (.bool x)) p (swL n f e0 e1 l0 a0 a1 a2 a3 a4 a5 l1 x b0 b1 b2 b3 b4) := h1.set 12 (.bool x) (by simp [swL])
  have HG : Hid (W.grownBy (W1.setCell ⟨p, 12, none⟩ (.bool x)) (some p)) := grown_then (w := W) ⟨g1.os, g1.tape, g1.output, g1.size, g1.block⟩ 12 (.bool x)
  obtain ⟨r, hr⟩ : ∃ r, usedB n [b0, b1, b2, b3, b4, b5] x = r := ⟨_, rfl⟩
  have kr : (W1.setCell ⟨p, 12, none⟩ (.bool x)).cell? ⟨p, 12 + n, none⟩ = some (.bool r) := by
    rw [h2'.cell, ← hr, ← used_at n hn x b0 b1 b2 b3 b4 b5]
    match n, hn with
    | 0, _ => rfl
    | 1, _ => rfl
    | 2, _ => rfl
    | 3, _ => rfl
    | 4, _ => rfl
    | 5, _ => rfl
  have HS := Lib.hid h2'
  rw [hr]
  clear h2' h1 g1 h hr
  have hn6 : (n : Int) < 6 := by omega
  go_enter Try.func93, Try.ntmps93
  go_wp2
  go_region
  all_goals
    go_wp2
    go_ret
    exact ⟨rfl, HS.out, HG.out⟩
end Go.Proofs.Ytmhbgpappjfolaa
