/- An accumulator of the program: counting, and the wave of its pulses. -/
import Derived.Test.YtkipgeecibimoaaBuilder
import Derived.Test.YtkipgeecibimoaaIn64
import Derived.WalkSmall
import Derived.IntWalk
import Derived.StillTailTactics
namespace Go.Proofs.Ytkipgeecibimoaa
open Go.RowKit
set_option linter.unusedVariables false

theorem levelOf_any (b : Bool) (w : World) :
    Calls Try.prog 78 #[.bool b] w fun e w' => e = .returned (.int .i32 (if b then 49 else 48)) ∧ w = w' := by
  cases b
  all_goals
    go_enter Try.func78, Try.ntmps78
    go_wp2
    go_ret
    exact ⟨rfl, rfl⟩

/-- the pulses of an accumulator -/
def accL (s m : Nat) : Nat → Nat → List UInt8
  | _, 0 => []
  | p, n + 1 => if m ≤ p + s then 49 :: accL s m (p + s - m) n else 48 :: accL s m (p + s) n
theorem accL_len (s m : Nat) (n : Nat) : ∀ p, (accL s m p n).length = n := by
  induction n with
  | zero => intro p; rfl
  | succ n ih => intro p; unfold accL; split <;> simp [ih]
theorem accL_hit (s m p T k : Nat) (L : List UInt8) (p0 : Nat) (hk : k < T) (h : L ++ accL s m p (T - k) = accL s m p0 T) (hm : m ≤ p + s) : (L ++ [49]) ++ accL s m (p + s - m) (T - (k + 1)) = accL s m p0 T := by
  rw [← h, show T - k = (T - (k + 1)) + 1 from by omega, accL, if_pos hm]; simp
theorem accL_miss (s m p T k : Nat) (L : List UInt8) (p0 : Nat) (hk : k < T) (h : L ++ accL s m p (T - k) = accL s m p0 T) (hm : ¬ m ≤ p + s) : (L ++ [48]) ++ accL s m (p + s) (T - (k + 1)) = accL s m p0 T := by
  rw [← h, show T - k = (T - (k + 1)) + 1 from by omega, accL, if_neg hm]; simp
theorem accL_over (s m p T k : Nat) (L : List UInt8) (p0 : Nat) (hk : ¬ k < T) (h : L ++ accL s m p (T - k) = accL s m p0 T) : L = accL s m p0 T := by
  rw [← h, show T - k = 0 from by omega, accL]; simp

abbrev TAC : Nat := 110

set_option maxHeartbeats 1000000 in
set_option maxRecDepth 100000 in
theorem count_f (b : Nat) (s m p : Int) (w : World) (hb : w.heap[b]? = some (.cells #[.int .i64 s, .int .i64 m, .int .i64 p] TAC (0, 0))) (h1 : 0 ≤ s) (h2 : s ≤ 1000) (h3 : 0 ≤ p) (h4 : p ≤ 1000) (h5 : 0 ≤ m) (h6 : m ≤ 1000) (hlt : p + s < m) :
    Calls Try.prog 122 #[.pointer (some ⟨b, 0, none⟩)] w fun e w' => e = .returned (.bool false) ∧ ∃ q, w' = (w.setCell ⟨b, 2, none⟩ (.int .i64 (p + s))).drewN q := by
  have c0 : w.cell? ⟨b, 0, none⟩ = some (.int .i64 s) := by rw [Lib.cell_of_heap hb]; rfl
  have c1 : w.cell? ⟨b, 1, none⟩ = some (.int .i64 m) := by rw [Lib.cell_of_heap hb]; rfl
  have c2 : w.cell? ⟨b, 2, none⟩ = some (.int .i64 p) := by rw [Lib.cell_of_heap hb]; rfl
  have f2 : w.frozen? ⟨b, 2, none⟩ = false := Lib.frozen_of_heap hb 2
  have wr : IntKind.i64.wrap (p + s) = p + s := IntWalk.i64_in _ (by omega)
  clear hb
  go_enter Try.func122, Try.ntmps122
  go_wp2
  go_region
  all_goals
    go_wp2
    go_region
    all_goals
      go_wp2
      go_ret
      exact ⟨rfl, 2, rfl⟩
set_option maxHeartbeats 1000000 in
set_option maxRecDepth 100000 in
theorem count_t (b : Nat) (s m p : Int) (w : World) (hb : w.heap[b]? = some (.cells #[.int .i64 s, .int .i64 m, .int .i64 p] TAC (0, 0))) (h1 : 0 ≤ s) (h2 : s ≤ 1000) (h3 : 0 ≤ p) (h4 : p ≤ 1000) (h5 : 0 ≤ m) (h6 : m ≤ 1000) (hlt : m ≤ p + s) :
    Calls Try.prog 122 #[.pointer (some ⟨b, 0, none⟩)] w fun e w' => e = .returned (.bool true) ∧ ∃ q, w' = ((w.setCell ⟨b, 2, none⟩ (.int .i64 (p + s))).setCell ⟨b, 2, none⟩ (.int .i64 (p + s - m))).drewN q := by
  have c0 : w.cell? ⟨b, 0, none⟩ = some (.int .i64 s) := by rw [Lib.cell_of_heap hb]; rfl
  have c1 : w.cell? ⟨b, 1, none⟩ = some (.int .i64 m) := by rw [Lib.cell_of_heap hb]; rfl
  have c2 : w.cell? ⟨b, 2, none⟩ = some (.int .i64 p) := by rw [Lib.cell_of_heap hb]; rfl
  have f2 : w.frozen? ⟨b, 2, none⟩ = false := Lib.frozen_of_heap hb 2
  have wr : IntKind.i64.wrap (p + s) = p + s := IntWalk.i64_in _ (by omega)
  have wr2 : IntKind.i64.wrap (p + s - m) = p + s - m := IntWalk.i64_in _ (by omega)
  clear hb
  go_enter Try.func122, Try.ntmps122
  go_wp2
  go_region
  all_goals
    go_wp2
    go_region
    all_goals
      go_wp2
      go_region
      all_goals
        go_wp2
        go_ret
        exact ⟨rfl, 3, rfl⟩

theorem builderAt_far {T e : TypeId} {B b : Nat} {p : Value} {bs : List Value} {w : World} (h : Lib.BuilderAtF T e B b p bs w) (k i : Nat) (v : Value) (hk : k < B) : Lib.BuilderAtF T e B b p bs (w.setCell ⟨k, i, none⟩ v) := by
  obtain ⟨hB, v0, hb, hown, hne⟩ := h
  refine ⟨hB, v0, ?_, ?_, hne⟩
  · rw [Below.heap_setCell _ _ _ _ (by dsimp only; omega)]; exact hb
  · refine hown.kept (row := some k) ⟨rfl, rfl, rfl, by simp [World.setCell], fun j _ hj => Below.heap_setCell _ _ _ _ (fun e => hj (by simp [e]))⟩ ?_
    refine Or.inr (fun e => ?_)
    have := (hown.lt k e).1
    omega
theorem builder_far {T e : TypeId} {B b : Nat} {bs : List Value} {w : World} (h : Lib.IsBuilderF T e B b bs w) (k i : Nat) (v : Value) (hk : k < B) : Lib.IsBuilderF T e B b bs (w.setCell ⟨k, i, none⟩ v) :=
  h.elim (fun x => .inl (builderAt_far x k i v hk)) (fun x => .inr (builderAt_far x k i v hk))
theorem builder_drawn {T e : TypeId} {B b : Nat} {bs : List Value} {w : World} (h : Lib.IsBuilderF T e B b bs w) (n : Nat) : Lib.IsBuilderF T e B b bs (w.drewN n) := h
theorem builder_lt {T e : TypeId} {B b : Nat} {bs : List Value} {w : World} (h : Lib.IsBuilderF T e B b bs w) : b < w.heap.size := h.elim (fun x => x.lt) (fun x => x.lt)
theorem below_drawnA {B : Nat} {a w : World} (h : Below B a w) (n : Nat) : Below B a (w.drewN n) := ⟨h.os, h.tape, h.output, h.size, h.block⟩
theorem box_set {w : World} {b : Nat} {x y z : Value} {T : TypeId} (h : w.heap[b]? = some (.cells #[x, y, z] T (0, 0))) (v : Value) : (w.setCell ⟨b, 2, none⟩ v).heap[b]? = some (.cells #[x, y, v] T (0, 0)) := by
  simp [World.setCell, Array.getElem?_modify, h]
theorem heap_new (w : World) (o : Obj) : (w.alloc o).heap[w.heap.size]? = some o := by unfold World.alloc; simp
theorem bytes_one (L : List UInt8) (c : UInt8) : Lib.byteCells (L ++ [c]) = Lib.byteCells L ++ [.int .u8 (c.toNat : Int)] := by simp [Lib.byteCells]

set_option maxHeartbeats 2000000 in
set_option maxRecDepth 100000 in
theorem accWave (s m p T : Nat) (w : World) (h1 : s ≤ m) (h2 : m ≤ 1000) (h3 : p < m) (h4 : T ≤ 400) :
    Calls Try.prog 74 #[.agg #[.int .i64 (s : Int), .int .i64 (m : Int), .int .i64 (p : Int)], .int .i64 (T : Int)] w fun e w' => e = .returned (.string ⟨(accL s m p T).toArray⟩) ∧ Below w.heap.size w w' := by
  go_enter Try.func74, Try.ntmps74
  go_wp2
  go_loopw [7] (fun i wr => ∃ (k p' : Nat) (L : List UInt8), i = .int .i64 (k : Int) ∧ k ≤ T ∧ p' < m ∧ L.length = k ∧ L ++ accL s m p' (T - k) = accL s m p T ∧ wr.heap[w.heap.size]? = some (.cells #[.int .i64 (s : Int), .int .i64 (m : Int), .int .i64 (p' : Int)] TAC (0, 0)) ∧ Lib.IsBuilderF TB TU (w.heap.size + 1) (w.heap.size + 1) (Lib.byteCells L) wr ∧ Below w.heap.size w wr) (fun i _ => T - (intOf i).toNat)
  case atStart =>
    refine ⟨0, p, [], rfl, Nat.zero_le _, h3, rfl, rfl, ?_, ?_, ((Below.refl _ w).alloc (Nat.le_refl _) _).alloc (by simp) _⟩
    · rw [Lib.alloc_old (w.alloc _) _ w.heap.size (by simp)]; exact heap_new _ _
    · have := Lib.IsBuilderF.of (Lib.fresh_isBuilder TB TU (w.alloc (.cells #[.int .i64 (s : Int), .int .i64 (m : Int), .int .i64 (p : Int)] TAC)))
      rw [World.size_alloc] at this
      exact this
  case round =>
    obtain ⟨k, p', L, rfl, hk, hp, hL, hacc, hbx, hI, hB⟩ := hrel
    have hsz := builder_lt hI
    by_cases hlt : k < T
    · by_cases hm : m ≤ p' + s
      · have HS := Lib.hid (accL_hit s m p' T k L p hlt hacc hm)
        have hbx2 : (((wr.setCell ⟨w.heap.size, 2, none⟩ (.int .i64 ((p' : Int) + (s : Int)))).setCell ⟨w.heap.size, 2, none⟩ (.int .i64 ((p' : Int) + (s : Int) - (m : Int))))).heap[w.heap.size]? = _ := box_set (box_set hbx _) _
        have HX := Lib.hid hbx2
        have HI2 := Lib.hid (builder_far (builder_far hI w.heap.size 2 (.int .i64 ((p' : Int) + (s : Int))) (by omega)) w.heap.size 2 (.int .i64 ((p' : Int) + (s : Int) - (m : Int))) (by omega))
        have HBB := Lib.hid ((hB.setCell (p := ⟨w.heap.size, 2, none⟩) (Nat.le_refl _) (.int .i64 ((p' : Int) + (s : Int)))).setCell (p := ⟨w.heap.size, 2, none⟩) (Nat.le_refl _) (.int .i64 ((p' : Int) + (s : Int) - (m : Int))))
        have HC := Lib.hid (count_t w.heap.size s m p' wr hbx (by omega) (by omega) (by omega) (by omega) (by omega) (by omega) (by omega))
        have hz := HI2.out
        have hsz2 := builder_lt hz
        clear hbx2 hbx hacc hI hB hz
        go_wp2_with fail
        refine HC.out.mono ?_; rintro e W ⟨rfl, q, rfl⟩
        go_wp2_with fail
        refine (levelOf_any true _).mono ?_; rintro e w' ⟨rfl, rfl⟩
        go_wp2_with fail
        refine (writeRune_low (w.heap.size + 1) (w.heap.size + 1) _ 49 _ (by omega) (by omega) (builder_drawn HI2.out q) (by rw [Lib.byteCells_length]; omega) (by have := hsz2; show _ ≤ (World.heap _).size; exact Nat.le_of_lt this)).mono ?_
        rintro e W1 ⟨rfl, g1, b1, k1⟩
        have HG := Lib.hid g1
        have HX1 := Lib.hid ((b1.block w.heap.size (by omega)).trans HX.out)
        have HB1 := Lib.hid ((below_drawnA HBB.out q).trans (b1.mono (by omega)))
        clear g1 b1 k1
        go_wp2
        go_roundw
        case rel => exact ⟨k + 1, p' + s - m, L ++ [49], by go_num, by omega, by omega, by simp [hL], HS.out, by rw [HX1.out, show (((p' + s - m : Nat) : Int)) = (p' : Int) + (s : Int) - (m : Int) from by omega], by rw [bytes_one]; exact Or.inr HG.out, HB1.out⟩
        case measure => simp [intOf]; omega
      · have HS := Lib.hid (accL_miss s m p' T k L p hlt hacc hm)
        have HX := Lib.hid (box_set hbx (.int .i64 ((p' : Int) + (s : Int))))
        have HI2 := Lib.hid (builder_far hI w.heap.size 2 (.int .i64 ((p' : Int) + (s : Int))) (by omega))
        have HBB := Lib.hid (hB.setCell (p := ⟨w.heap.size, 2, none⟩) (Nat.le_refl _) (.int .i64 ((p' : Int) + (s : Int))))
        have HC := Lib.hid (count_f w.heap.size s m p' wr hbx (by omega) (by omega) (by omega) (by omega) (by omega) (by omega) (by omega))
        have hz := HI2.out
        have hsz2 := builder_lt hz
        clear hbx hacc hI hB hz
        go_wp2_with fail
        refine HC.out.mono ?_; rintro e W ⟨rfl, q, rfl⟩
        go_wp2_with fail
        refine (levelOf_any false _).mono ?_; rintro e w' ⟨rfl, rfl⟩
        go_wp2_with fail
        refine (writeRune_low (w.heap.size + 1) (w.heap.size + 1) _ 48 _ (by omega) (by omega) (builder_drawn HI2.out q) (by rw [Lib.byteCells_length]; omega) (by have := hsz2; show _ ≤ (World.heap _).size; exact Nat.le_of_lt this)).mono ?_
        rintro e W1 ⟨rfl, g1, b1, k1⟩
        have HG := Lib.hid g1
        have HX1 := Lib.hid ((b1.block w.heap.size (by omega)).trans HX.out)
        have HB1 := Lib.hid ((below_drawnA HBB.out q).trans (b1.mono (by omega)))
        clear g1 b1 k1
        go_wp2
        go_roundw
        case rel => exact ⟨k + 1, p' + s, L ++ [48], by go_num, by omega, by omega, by simp [hL], HS.out, by rw [HX1.out, show (((p' + s : Nat) : Int)) = (p' : Int) + (s : Int) from by omega], by rw [bytes_one]; exact Or.inr HG.out, HB1.out⟩
        case measure => simp [intOf]; omega
    · have HS := Lib.hid (accL_over s m p' T k L p hlt hacc)
      go_wp2_with fail
      refine (Try.Builder_String_any_k (w.heap.size + 1) (w.heap.size + 1) _ _ hI (by omega)).mono ?_
      rintro e w' ⟨rfl, _, hb2, _⟩
      go_wp2
      go_ret
      exact ⟨by rw [← HS.out]; rfl, hB.trans (hb2.mono (by omega))⟩
end Go.Proofs.Ytkipgeecibimoaa
