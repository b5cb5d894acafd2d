/- An accumulator of the program: counting, and the wave of its pulses. -/
import Derived.Test.YtcelgmecfmegpaaBuilder
import Derived.Test.YtcelgmecfmegpaaIn64
import Derived.WalkSmall
import Derived.IntWalk
import Derived.StillTailTactics
namespace Go.Proofs.Ytcelgmecfmegpaa
open Go.RowKit
set_option linter.unusedVariables false

theorem levelOf_any (b : Bool) (w : World) :
    Calls Try.prog 37 #[.bool b] w fun e w' => e = .returned (.int .i32 (if b then 49 else 48)) ∧ w = w' := by
  cases b
  all_goals
    go_enter Try.func37, Try.ntmps37
    go_wp2
    go_ret
    exact ⟨rfl, rfl⟩

/-- the pulses of an accumulator -/
def accL (s m : Nat) : Nat → Nat → List UInt8
  | _, 0 => []
  | p, n + 1 => if m ≤ p + s then 49 :: accL s m (p + s - m) n else 48 :: accL s m (p + s) n
theorem accL_len (s m : Nat) (n : Nat) : ∀ p, (accL s m p n).length = n := by
  induction n with
  | zero => intro p; rfl
  | succ n ih => intro p; unfold accL; split <;> simp [ih]
theorem accL_hit (s m p T k : Nat) (L : List UInt8) (p0 : Nat) (hk : k < T) (h : L ++ accL s m p (T - k) = accL s m p0 T) (hm : m ≤ p + s) : (L ++ [49]) ++ accL s m (p + s - m) (T - (k + 1)) = accL s m p0 T := by
  rw [← h, show T - k = (T - (k + 1)) + 1 from by omega, accL, if_pos hm]; simp
theorem accL_miss (s m p T k : Nat) (L : List UInt8) (p0 : Nat) (hk : k < T) (h : L ++ accL s m p (T - k) = accL s m p0 T) (hm : ¬ m ≤ p + s) : (L ++ [48]) ++ accL s m (p + s) (T - (k + 1)) = accL s m p0 T := by
  rw [← h, show T - k = (T - (k + 1)) + 1 from by omega, accL, if_neg hm]; simp
theorem accL_over (s m p T k : Nat) (L : List UInt8) (p0 : Nat) (hk : ¬ k < T) (h : L ++ accL s m p (T - k) = accL s m p0 T) : L = accL s m p0 T := by
  rw [← h, show T - k = 0 from by omega, accL]; simp

abbrev TAC : Nat := 57

set_option maxHeartbeats 1000000 in
set_option maxRecDepth 100000 in
theorem count_f (b : Nat) (s m p : Int) (w : World) (hb : w.heap[b]? = some (.cells #[.int .i64 s, .int .i64 m, .int .i64 p] TAC (0, 0))) (h1 : 0 ≤ s) (h2 : s ≤ 1000) (h3 : 0 ≤ p) (h4 : p ≤ 1000) (h5 : 0 ≤ m) (h6 : m ≤ 1000) (hlt : p + s < m) :
    Calls Try.prog 38 #[.pointer (some ⟨b, 0, none⟩)] w fun e w' => e = .returned (.bool false) ∧ ∃ q, w' = (w.setCell ⟨b, 2, none⟩ (.int .i64 (p + s))).drewN q := by
  have c0 : w.cell? ⟨b, 0, none⟩ = some (.int .i64 s) := by rw [Lib.cell_of_heap hb]; rfl
  have c1 : w.cell? ⟨b, 1, none⟩ = some (.int .i64 m) := by rw [Lib.cell_of_heap hb]; rfl
  have c2 : w.cell? ⟨b, 2, none⟩ = some (.int .i64 p) := by rw [Lib.cell_of_heap hb]; rfl
  have f2 : w.frozen? ⟨b, 2, none⟩ = false := Lib.frozen_of_heap hb 2
  have wr : IntKind.i64.wrap (p + s) = p + s := IntWalk.i64_in _ (by omega)
  clear hb
  go_enter Try.func38, Try.ntmps38
  go_wp2
  go_region
  all_goals
    go_wp2
    go_region
    all_goals
      go_wp2
      go_ret
      exact ⟨rfl, 2, rfl⟩
set_option maxHeartbeats 1000000 in
set_option maxRecDepth 100000 in
theorem count_t (b : Nat) (s m p : Int) (w : World) (hb : w.heap[b]? = some (.cells #[.int .i64 s, .int .i64 m, .int .i64 p] TAC (0, 0))) (h1 : 0 ≤ s) (h2 : s ≤ 1000) (h3 : 0 ≤ p) (h4 : p ≤ 1000) (h5 : 0 ≤ m) (h6 : m ≤ 1000) (hlt : m ≤ p + s) :
    Calls Try.prog 38 #[.pointer (some ⟨b, 0, none⟩)] w fun e w' => e = .returned (.bool true) ∧ ∃ q, w' = ((w.setCell ⟨b, 2, none⟩ (.int .i64 (p + s))).setCell ⟨b, 2, none⟩ (.int .i64 (p + s - m))).drewN q := by
  have c0 : w.cell? ⟨b, 0, none⟩ = some (.int .i64 s) := by rw [Lib.cell_of_heap hb]; rfl
  have c1 : w.cell? ⟨b, 1, none⟩ = some (.int .i64 m) := by rw [Lib.cell_of_heap hb]; rfl
  have c2 : w.cell? ⟨b, 2, none⟩ = some (.int .i64 p) := by rw [Lib.cell_of_heap hb]; rfl
  have f2 : w.frozen? ⟨b, 2, none⟩ = false := Lib.frozen_of_heap hb 2
  have wr : IntKind.i64.wrap (p + s) = p + s := IntWalk.i64_in _ (by omega)
  have wr2 : IntKind.i64.wrap (p + s - m) = p + s - m := IntWalk.i64_in _ (by omega)
  clear hb
  go_enter Try.func38, Try.ntmps38
  go_wp2
  go_region
  all_goals
    go_wp2
    go_region
    all_goals
      go_wp2
      go_region
      all_goals
        go_wp2
        go_ret
        exact ⟨rfl, 3, rfl⟩

theorem builderAt_far {T e : TypeId} {B b : Nat} {p : Value} {bs : List Value} {w : World} (h : Lib.BuilderAtF T e B b p bs w) (k i : Nat) (v : Value) (hk : k < B) : Lib.BuilderAtF T e B b p bs (w.setCell ⟨k, i, none⟩ v) := by
  obtain ⟨hB, v0, hb, hown, hne⟩ := h
  refine ⟨hB, v0, ?_, ?_, hne⟩
  · rw [Below.heap_setCell _ _ _ _ (by dsimp only; omega)]; exact hb
  · refine hown.kept (row := some k) ⟨rfl, rfl, rfl, by simp [World.setCell], fun j _ hj => Below.heap_setCell _ _ _ _ (fun e => hj (by simp [e]))⟩ ?_
    refine Or.inr (fun e => ?_)
    have := (hown.lt k e).1
    omega
theorem builder_far {T e : TypeId} {B b : Nat} {bs : List Value} {w : World} (h : Lib.IsBuilderF T e B b bs w) (k i : Nat) (v : Value) (hk : k < B) : Lib.IsBuilderF T e B b bs (w.setCell ⟨k, i, none⟩ v) :=
  h.elim (fun x => .inl (builderAt_far x k i v hk)) (fun x => .inr (builderAt_far x k i v hk))
theorem builder_drawn {T e : TypeId} {B b : Nat} {bs : List Value} {w : World} (h : Lib.IsBuilderF T e B b bs w) (n : Nat) : Lib.IsBuilderF T e B b bs (w.drewN n) := h
theorem builder_lt {T e : TypeId} {B b : Nat} {bs : List Value} {w : World} (h : Lib.IsBuilderF T e B b bs w) : b < w.heap.size := h.elim (fun x => x.lt) (fun x => x.lt)
theorem below_drawnA {B : Nat} {a w : World} (h : Below B a w) (n : Nat) : Below B a (w.drewN n) := ⟨h.os, h.tape, h.output, h.size, h.block⟩
theorem box_set {w : World} {b : Nat} {x y z : Value} {T : TypeId} (h : w.heap[b]? = some (.cells #[x, y, z] T (0, 0))) (v : Value) : (w.setCell ⟨b, 2, none⟩ v).heap[b]? = some (.cells #[x, y, v] T (0, 0)) := by
  simp [World.setCell, Array.getElem?_modify, h]
theorem heap_new (w : World) (o : Obj) : (w.alloc o).heap[w.heap.size]? = some o := by unfold World.alloc; simp
theorem bytes_one (L : List UInt8) (c : UInt8) : Lib.byteCells (L ++ [c]) = Lib.byteCells L ++ [.int .u8 (c.toNat : Int)] := by simp [Lib.byteCells]

end Go.Proofs.Ytcelgmecfmegpaa
