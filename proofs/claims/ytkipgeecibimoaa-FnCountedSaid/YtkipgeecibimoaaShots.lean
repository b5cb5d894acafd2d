/- A follower of a wave (the program's), and shots: which ticks count. -/
import Derived.Test.YtkipgeecibimoaaFilt
import Derived.Defers
namespace Go.Proofs.Ytkipgeecibimoaa
open Go.RowKit Go.Shelf
set_option linter.unusedVariables false

theorem keep_deferred (b off : Nat) (x y : Bool) (u : FrameMode) (w : World) (hc : w.cell? ⟨b, off, none⟩ = some (.bool y)) (hf : w.frozen? ⟨b, off, none⟩ = false) :
    CallsD Try.prog 179 #[.pointer (some ⟨b, off, none⟩), .bool x] u w fun e u' w' => u' = u ∧ (e = .returned (.tuple #[]) ∧ w' = w.setCell ⟨b, off, none⟩ (.bool x)) := by
  go_enter_d Try.func179, Try.ntmps179
  go_wp2
  go_end0
  exact ⟨rfl, rfl⟩
/-- where does a follower stand? -/
def AtB (w : World) (b off : Nat) (y : Bool) : Prop := w.cell? ⟨b, off, none⟩ = some (.bool y) ∧ w.frozen? ⟨b, off, none⟩ = false
set_option maxHeartbeats 1000000 in
theorem follow_any (b off : Nat) (y x : Bool) (w : World) (hc : w.cell? ⟨b, off, none⟩ = some (.bool y)) (hf : w.frozen? ⟨b, off, none⟩ = false) :
    Calls Try.prog 132 #[.pointer (some ⟨b, off, none⟩), .bool x] w fun e w' => e = .returned (.tuple #[.bool (!y && x), .bool (y && !x)]) ∧ ∃ n, w' = (w.drewN n).setCell ⟨b, off, none⟩ (.bool x) := by
  cases y <;> cases x
  · go_enter_defers Try.func132, Try.ntmps132
    go_wp2
    go_quiet (fail)
    go_wp2
    refine leaves_cons (f := 179) (args := #[.pointer (some ⟨b, off, none⟩), .bool false]) (by simp) (by simp [go_sem]) ?_
    refine (keep_deferred b off false false .returning _ ?_ ?_).mono ?_
    · exact hc
    · exact hf
    rintro e u' w'' ⟨rfl, rfl, rfl⟩
    exact ⟨_, results_tmp2 rfl _ _ _, rfl, ⟨_, rfl⟩⟩
  · go_enter_defers Try.func132, Try.ntmps132
    go_wp2
    go_quiet (fail)
    go_wp2
    refine leaves_cons (f := 179) (args := #[.pointer (some ⟨b, off, none⟩), .bool true]) (by simp) (by simp [go_sem]) ?_
    refine (keep_deferred b off true false .returning _ ?_ ?_).mono ?_
    · exact hc
    · exact hf
    rintro e u' w'' ⟨rfl, rfl, rfl⟩
    exact ⟨_, results_tmp2 rfl _ _ _, rfl, ⟨_, rfl⟩⟩
  · go_enter_defers Try.func132, Try.ntmps132
    go_wp2
    go_quiet (fail)
    go_wp2
    refine leaves_cons (f := 179) (args := #[.pointer (some ⟨b, off, none⟩), .bool false]) (by simp) (by simp [go_sem]) ?_
    refine (keep_deferred b off false true .returning _ ?_ ?_).mono ?_
    · exact hc
    · exact hf
    rintro e u' w'' ⟨rfl, rfl, rfl⟩
    exact ⟨_, results_tmp2 rfl _ _ _, rfl, ⟨_, rfl⟩⟩
  · go_enter_defers Try.func132, Try.ntmps132
    go_wp2
    go_quiet (fail)
    go_wp2
    refine leaves_cons (f := 179) (args := #[.pointer (some ⟨b, off, none⟩), .bool true]) (by simp) (by simp [go_sem]) ?_
    refine (keep_deferred b off true true .returning _ ?_ ?_).mono ?_
    · exact hc
    · exact hf
    rintro e u' w'' ⟨rfl, rfl, rfl⟩
    exact ⟨_, results_tmp2 rfl _ _ _, rfl, ⟨_, rfl⟩⟩
theorem wpList_load_wing {ops : Array Oper} {rest : List Oper} {o : Oper} {a : Act} {w : World} {Q : Exit → Act → World → Prop} (hw : Region.wanted o (yielded ops a.tmps) = true) (x : Operand) (ho : o.op = .load TWin x)
    (b : Nat) (hx : a.eval x = .pointer (some ⟨b, 0, none⟩)) (cs : Array Value) (hb : WinBlk w b cs) (hz : cs.size = 53)
    (h : wpList Try.prog ops Q rest (a.put o.dst (.agg cs)) w) : wpList Try.prog ops Q (o :: rest) a w :=
  wpList_step fun K hK => by
    rw [if_pos hw]
    exact wp_load_row TWin x ho b hx TWin cs (0, 0) _ hb Try.underlying183 rfl (by rw [hz]; kernel_rfl) (hK _ _ h)
theorem WinK.rest {cs : Array Value} {T k : Nat} {m : Nat → Bool} (h : WinK cs T k m) (hT : 1 ≤ T) : ∃ arr, WinV cs T (lastC m T k) (k % T) arr ∧ (arr (k % T) = true → 1 ≤ lastC m T k) ∧ lastC m T k - (if arr (k % T) then 1 else 0) = restC m T k := by
  obtain ⟨arr, hv, hr⟩ := h
  have hold := hr.old hT
  have hadd := restC_add m T k hT
  refine ⟨arr, hv, fun q => ?_, ?_⟩
  · rw [hold] at q
    have : T ≤ k ∧ m (k - T) = true := by simpa using q
    rw [if_pos this] at hadd; omega
  · unfold restC
    rw [hold]
    by_cases h1 : T ≤ k ∧ m (k - T) = true
    · rw [if_pos h1, decide_eq_true h1.1, h1.2]; rfl
    · rw [if_neg h1]
      have : (decide (T ≤ k) && m (k - T)) = false := by
        cases hq : m (k - T) with
        | false => simp
        | true => simp; rcases Nat.lt_or_ge k T with h3 | h3; exact h3; exact absurd ⟨h3, hq⟩ h1
      rw [this]; rfl

/-- shots, tick by tick -/
def shotL (ag : Bool) (T : Nat) (s : ByteArray) : Nat → Bool := fun k => decide (0 < lastC (shB (upB s) ag T) T (k + 1))
abbrev TSho : Nat := 102
/-- shots at their place -/
def ShotAt (W : World) (r : Nat) (y ag : Bool) : Prop := W.heap[r]? = some (.cells #[.bool y, .bool ag] TSho (0, 0))
theorem ShotAt.same {w w' : World} {r : Nat} {y ag : Bool} (h : ShotAt w r y ag) (hb : w'.heap[r]? = w.heap[r]?) : ShotAt w' r y ag := hb.trans h
theorem ShotAt.set {w : World} {r : Nat} {y ag : Bool} (h : ShotAt w r y ag) (x : Bool) : ShotAt (w.setCell ⟨r, 0, none⟩ (.bool x)) r x ag := by
  unfold ShotAt at *
  simp [World.setCell, Array.getElem?_modify, h]
theorem ShotAt.lt {w : World} {r : Nat} {y ag : Bool} (h : ShotAt w r y ag) : r < w.heap.size := (Array.getElem?_eq_some_iff.1 h).1
theorem ShotAt.cells {w : World} {r : Nat} {y ag : Bool} (h : ShotAt w r y ag) : w.cell? ⟨r, 0, none⟩ = some (.bool y) ∧ w.cell? ⟨r, 1, none⟩ = some (.bool ag) ∧ w.frozen? ⟨r, 0, none⟩ = false :=
  ⟨by rw [show w.cell? ⟨r, 0, none⟩ = _ from Lib.cell_of_heap h 0]; rfl, by rw [show w.cell? ⟨r, 1, none⟩ = _ from Lib.cell_of_heap h 1]; rfl, Lib.frozen_of_heap h 0⟩
theorem shotOn (r : Nat) (cs : Array Value) (T mk old : Nat) (arr : Nat → Bool) (w : World) (hv : WinV cs T mk old arr) :
    Calls Try.prog 242 #[.pointer (some ⟨r, 0, none⟩), .agg cs] w fun e w' => e = .returned (.bool (decide (0 < mk))) ∧ Below w.heap.size w w' := by
  obtain ⟨c0, c1⟩ := win_cells hv w
  clear hv
  by_cases h0 : 0 < mk
  · have hI : (0 : Int) < (mk : Int) := by omega
    have hD := decide_eq_true hI
    go_enter Try.func242, Try.ntmps242
    go_wp2
    go_ret
    exact ⟨by simp [h0], (Below.refl _ _).alloc (Nat.le_refl _) _⟩
  · have hI : ¬ (0 : Int) < (mk : Int) := by omega
    have hD := decide_eq_false hI
    go_enter Try.func242, Try.ntmps242
    go_wp2
    go_ret
    exact ⟨by simp [h0], (Below.refl _ _).alloc (Nat.le_refl _) _⟩
def MarkR (W : World) (r : Nat) (x ag m : Bool) (e : Ending) (w' : World) : Prop := e = .returned (.bool m) ∧ ShotAt w' r x ag ∧ W.grownBy w' (some r)
set_option maxHeartbeats 2000000 in
set_option maxRecDepth 100000 in
theorem marks_no (r : Nat) (cs : Array Value) (y ag x : Bool) (w : World) (h : ShotAt w r y ag) (hup : (!y && x) = false) :
    Calls Try.prog 243 #[.pointer (some ⟨r, 0, none⟩), .bool x, .agg cs] w fun e w' => MarkR w r x ag false e w' := by
  have hlt := h.lt
  have hS : ShotAt (w.alloc (.cells cs TWin)) r y ag := h.same (Below.heap_alloc w _ r hlt)
  obtain ⟨c0, c1, f0⟩ := hS.cells
  have HF := Lib.hid (follow_any r 0 y x _ c0 f0)
  rw [hup] at HF
  have HS := Lib.hid hS
  clear hup h hS c0 c1 f0
  go_enter Try.func243, Try.ntmps243
  go_wp2_with fail
  refine HF.out.mono ?_; rintro e w1 ⟨rfl, n, rfl⟩
  go_wp2
  go_ret
  refine ⟨rfl, ShotAt.set (w := (w.alloc (.cells cs TWin)).drewN n) HS.out x, ?_⟩
  exact grown_trans (grown_drew (grown_below ((Below.refl w.heap.size w).alloc (Nat.le_refl _) _) (some r)) n) (grown_set _ r 0 _)
set_option maxHeartbeats 2000000 in
set_option maxRecDepth 100000 in
theorem marks_again (r : Nat) (cs : Array Value) (w : World) (h : ShotAt w r false true) :
    Calls Try.prog 243 #[.pointer (some ⟨r, 0, none⟩), .bool true, .agg cs] w fun e w' => MarkR w r true true true e w' := by
  have hlt := h.lt
  have hS : ShotAt (w.alloc (.cells cs TWin)) r false true := h.same (Below.heap_alloc w _ r hlt)
  obtain ⟨c0, c1, f0⟩ := hS.cells
  have HF := Lib.hid (follow_any r 0 false true _ c0 f0)
  have HS := Lib.hid hS
  have HC1 := Lib.hid c1
  clear h hS c0 c1 f0
  go_enter Try.func243, Try.ntmps243
  go_wp2_with fail
  refine HF.out.mono ?_; rintro e w1 ⟨rfl, n, rfl⟩
  have HS2 : Hid (ShotAt (((w.alloc (.cells cs TWin)).drewN n).setCell ⟨r, 0, none⟩ (.bool true)) r true true) := ShotAt.set (w := (w.alloc (.cells cs TWin)).drewN n) HS.out true
  have HG2 : Hid (w.grownBy (((w.alloc (.cells cs TWin)).drewN n).setCell ⟨r, 0, none⟩ (.bool true)) (some r)) := grown_trans (grown_drew (grown_below ((Below.refl w.heap.size w).alloc (Nat.le_refl _) _) (some r)) n) (grown_set _ r 0 _)
  have d1 := HS2.out.cells.2.1
  obtain ⟨W, hW⟩ : ∃ W, (((w.alloc (.cells cs TWin)).drewN n).setCell ⟨r, 0, none⟩ (.bool true)) = W := ⟨_, rfl⟩
  rw [hW] at d1 HS2 HG2
  rw [hW]
  clear hW
  go_wp2
  go_ret
  exact ⟨rfl, HS2.out, HG2.out⟩
set_option maxHeartbeats 2000000 in
set_option maxRecDepth 100000 in
theorem marks_once (r : Nat) (cs : Array Value) (T mk old q : Nat) (arr : Nat → Bool) (w : World) (h : ShotAt w r false false) (hv : WinV cs T mk old arr) (ho : old < 50) (hk : mk ≤ 50) (h1 : arr old = true → 1 ≤ mk) (hq : mk - (if arr old then 1 else 0) = q) :
    Calls Try.prog 243 #[.pointer (some ⟨r, 0, none⟩), .bool true, .agg cs] w fun e w' => MarkR w r true false (q == 0) e w' := by
  have hlt := h.lt
  have hS : ShotAt (w.alloc (.cells cs TWin)) r false false := h.same (Below.heap_alloc w _ r hlt)
  obtain ⟨c0, c1, f0⟩ := hS.cells
  have HF := Lib.hid (follow_any r 0 false true _ c0 f0)
  have HR := Lib.hid (fun w => rest_any cs T mk old arr w hv ho hk h1)
  rw [hq] at HR
  have HS := Lib.hid hS
  have HZ := Lib.hid hv.size
  have hB0 : WinBlk (w.alloc (.cells cs TWin)) w.heap.size cs := by unfold WinBlk World.alloc; simp
  have HB0 := Lib.hid hB0
  have hb : ((q : Int) == 0) = (q == 0) := by
    rw [Bool.eq_iff_iff]; simp
  obtain ⟨z, hz⟩ : ∃ z, (q == 0) = z := ⟨_, rfl⟩
  rw [hz] at hb ⊢
  clear h hS c0 c1 f0 hB0 hz hv h1 hq
  go_enter Try.func243, Try.ntmps243
  go_wp2_with fail
  refine HF.out.mono ?_; rintro e w1 ⟨rfl, n, rfl⟩
  have HS2 : Hid (ShotAt (((w.alloc (.cells cs TWin)).drewN n).setCell ⟨r, 0, none⟩ (.bool true)) r true false) := ShotAt.set (w := (w.alloc (.cells cs TWin)).drewN n) HS.out true
  have HG2 : Hid (w.grownBy (((w.alloc (.cells cs TWin)).drewN n).setCell ⟨r, 0, none⟩ (.bool true)) (some r)) := grown_trans (grown_drew (grown_below ((Below.refl w.heap.size w).alloc (Nat.le_refl _) _) (some r)) n) (grown_set _ r 0 _)
  have HB2 : Hid (WinBlk (((w.alloc (.cells cs TWin)).drewN n).setCell ⟨r, 0, none⟩ (.bool true)) w.heap.size cs) := (Below.heap_setCell _ ⟨r, 0, none⟩ _ _ (by simp; omega)).trans HB0.out
  have d1 := HS2.out.cells.2.1
  have HN2 : Hid (w.heap.size < (((w.alloc (.cells cs TWin)).drewN n).setCell ⟨r, 0, none⟩ (.bool true)).heap.size) := HB2.out.lt
  obtain ⟨W, hW⟩ : ∃ W, (((w.alloc (.cells cs TWin)).drewN n).setCell ⟨r, 0, none⟩ (.bool true)) = W := ⟨_, rfl⟩
  rw [hW] at d1 HS2 HG2 HB2 HN2
  rw [hW]
  clear hW
  go_wp2_with (refine wpList_load_wing (by kernel_rfl) _ rfl _ rfl cs HB2.out HZ.out ?_)
  refine (HR.out _).mono ?_; rintro e w3 ⟨rfl, b3⟩
  have HS3 : Hid (ShotAt w3 r true false) := HS2.out.same (b3.block r (by have := HN2.out; omega))
  have HG3 : Hid (w.grownBy w3 (some r)) := grown_trans HG2.out (grown_below b3 (some r))
  clear b3
  cases z with
  | true =>
    go_wp2
    go_ret
    exact ⟨rfl, HS3.out, HG3.out⟩
  | false =>
    go_wp2
    go_ret
    exact ⟨rfl, HS3.out, HG3.out⟩
/-- which ticks count -/
theorem marks_any (r k T : Nat) (cs : Array Value) (y ag x : Bool) (m : Nat → Bool) (w : World) (h : ShotAt w r y ag) (hT : 1 ≤ T) (hT2 : T ≤ 50) (hw : WinK cs T k m) :
    Calls Try.prog 243 #[.pointer (some ⟨r, 0, none⟩), .bool x, .agg cs] w fun e w' => MarkR w r x ag ((x && !y) && (ag || restC m T k == 0)) e w' := by
  cases hup : (!y && x) with
  | false =>
    have e : ((x && !y) && (ag || restC m T k == 0)) = false := by rw [Bool.and_comm x, hup]; rfl
    rw [e]
    exact marks_no r cs y ag x w h hup
  | true =>
    have e : ((x && !y) && (ag || restC m T k == 0)) = (ag || restC m T k == 0) := by rw [Bool.and_comm x, hup]; rfl
    rw [e]
    have hy : y = false ∧ x = true := by simpa using hup
    obtain ⟨rfl, rfl⟩ := hy
    cases ag with
    | true => exact marks_again r cs w h
    | false =>
      obtain ⟨arr, hv, h1, h2⟩ := hw.rest hT
      have := Nat.mod_lt k (show T > 0 by omega)
      have := lastC_le m T k
      exact marks_once r cs T _ _ _ arr w h hv (by omega) (by omega) h1 h2
end Go.Proofs.Ytkipgeecibimoaa
