/- What the rules' functions decide: debounced, stretched, most levels. -/
import Derived.Test.YtafecdmcbpnniabDoorSlide
import Derived.Test.YtafecdmcbpnniabDoorQuietAt
import Derived.Deep.RegionHeld3
import Derived.Shelf.Abstract
/- A rule of the program: its level, by its function. -/
namespace Go.Proofs.YtafecdmcbpnniabDoor
open Go.RowKit
set_option linter.unusedVariables false
set_option linter.unusedSimpArgs false

theorem takeL {P : Program} {md : Region.Mode} {l : List Oper} {Q : Exit → Act → World → Prop} {S : World → Prop} {i : Nat} {oi : Oper} {v : Value} {fuel : Nat} {listed : Array Bool} {a : Act} {w : World} (hi : l[i]? = some oi)
    (hs : Region.noSelect l.toArray = true) (hf : Region.free md l.toArray listed i = true) (hr : (Region.ready md l.toArray listed).contains i = true)
    (hQ : ∀ c a w, Q (.panic c) (a.put oi.dst v) w → Q (.panic c) a w) (hy : YieldsIf P l.toArray S oi v a) (hS : S w)
    (h : wpAnyH P md l.toArray Q S fuel (listed.setIfInBounds i true) (a.put oi.dst v) w) : wpAnyH P md l.toArray Q S (fuel + 1) listed a w :=
  wpAnyH_take (by simpa using hi) hs hf hr hQ hy hS h

theorem wpQuiet_load_win {ops : Array Oper} {w0 : World} {Q : Act → Prop} {a : Act} {o : Oper} {rest : List Oper} (hgd : o.guard = none) (x : Operand) (ho : o.op = .load TWin x)
    (b : Nat) (hx : a.eval x = .pointer (some ⟨b, 0, none⟩)) (cs : Array Value) (hb : WinBlk w0 b cs) (hz : cs.size = 53) (h : wpQuiet Tryd.prog ops (fun w' => ∃ n, w' = w0.drewN n) Q rest (a.put o.dst (.agg cs))) : wpQuiet Tryd.prog ops (fun w' => ∃ n, w' = w0.drewN n) Q (o :: rest) a := by
  unfold wpQuiet
  rw [if_pos (by simp only [Region.wanted, hgd])]
  refine ⟨.agg cs, fun w hw => ?_, h⟩
  obtain ⟨n, rfl⟩ := hw
  have hb2 : WinBlk (w0.drewN n) b cs := hb
  unfold Oper.quietAt execOp
  simp only [ho, hx, Instr.loadAt, Instr.sureAddr, Sem.run_bind, Sem.run_pure, Result.andThen_ok, run_loadVar_row (w0.drewN n) b TWin TWin cs (0, 0) _ hb2 Tryd.underlying39 rfl (by rw [hz]; kernel_rfl)]
  exact ⟨rfl, rfl⟩
abbrev TRul : Nat := 42
/-- what a rule's function decides -/
def DecC (f : Nat) (T : Nat) (dec : Nat → Bool → Bool) : Prop := (∀ args w, (callFunc f args).run Tryd.prog w = .ok (.enter f args) w) ∧ ∀ (cs : Array Value) (mk old : Nat) (arr : Nat → Bool) (on : Bool) (W : World), WinV cs T mk old arr → mk ≤ 50 → T ≤ 50 → 1 ≤ T →
  Calls Tryd.prog f #[.agg cs, .bool on] W fun e w' => e = .returned (.bool (dec mk on)) ∧ Below W.heap.size W w'
/-- a rule at its place -/
def RuleAt (W : World) (r : Nat) (on : Bool) (f : Nat) : Prop := W.heap[r]? = some (.cells #[.bool on, .func (.func f) #[] #[]] TRul (0, 0))
theorem RuleAt.same {w w' : World} {r f : Nat} {on : Bool} (h : RuleAt w r on f) (hb : w'.heap[r]? = w.heap[r]?) : RuleAt w' r on f := hb.trans h
theorem RuleAt.set {w : World} {r f : Nat} {on : Bool} (h : RuleAt w r on f) (x : Bool) : RuleAt (w.setCell ⟨r, 0, none⟩ (.bool x)) r x f := by
  unfold RuleAt at *
  simp [World.setCell, Array.getElem?_modify, h]
theorem RuleAt.lt {w : World} {r f : Nat} {on : Bool} (h : RuleAt w r on f) : r < w.heap.size := (Array.getElem?_eq_some_iff.1 h).1
def RuleR (W : World) (r : Nat) (x : Bool) (f : Nat) (e : Ending) (w' : World) : Prop := e = .returned (.bool x) ∧ RuleAt w' r x f ∧ W.grownBy w' (some r)

set_option maxHeartbeats 2000000 in
set_option maxRecDepth 100000 in
theorem ruleOn_any (f T : Nat) (dec : Nat → Bool → Bool) (hd : DecC f T dec) (r : Nat) (cs : Array Value) (mk old : Nat) (arr : Nat → Bool) (on : Bool) (w : World) (hv : WinV cs T mk old arr) (hm : mk ≤ 50) (hT1 : T ≤ 50) (hT2 : 1 ≤ T) (h : RuleAt w r on f) :
    Calls Tryd.prog 97 #[.pointer (some ⟨r, 0, none⟩), .agg cs] w fun e w' => RuleR w r (dec mk on) f e w' := by
  have hlt := h.lt
  have eg := hd.1
  have HD := Lib.hid (fun W => hd.2 cs mk old arr on W hv hm hT1 hT2)
  have HZ := Lib.hid hv.size
  obtain ⟨x, hx⟩ : ∃ x, dec mk on = x := ⟨_, rfl⟩
  rw [hx] at HD ⊢
  have hB : WinBlk (w.alloc (.cells cs TWin)) w.heap.size cs := by unfold WinBlk World.alloc; simp
  have hR : RuleAt (w.alloc (.cells cs TWin)) r on f := h.same (Below.heap_alloc w _ r hlt)
  have c0 : (w.alloc (.cells cs TWin)).cell? ⟨r, 0, none⟩ = some (.bool on) := by rw [show (w.alloc (.cells cs TWin)).cell? ⟨r, 0, none⟩ = _ from Lib.cell_of_heap hR 0]; rfl
  have c1 : (w.alloc (.cells cs TWin)).cell? ⟨r, 1, none⟩ = some (.func (.func f) #[] #[]) := by rw [show (w.alloc (.cells cs TWin)).cell? ⟨r, 1, none⟩ = _ from Lib.cell_of_heap hR 1]; rfl
  have HR := Lib.hid hR
  have HB0 := Lib.hid hB
  clear hx hv h hB hR hd
  go_enter Tryd.func97, Tryd.ntmps97
  go_wp2
  refine wp_region_held_drew (S := fun _ => True) (by kernel_rfl) trivial (fun hHeld => ?_)
  (refine takeL (i := 0) (v := ?_) rfl (by kernel_rfl) (by kernel_rfl) (by kernel_rfl) (fun _ _ _ h => h) (Or.inl ⟨by rfl, ?_⟩) (by assumption) ?_; rotate_left; focus ((intro w hSw; (try dsimp only at hSw); go_simp); (first | done | with_reducible rfl)); try simp only [Act.put, List.setIfInBounds_toArray, List.set_cons_zero, List.set_cons_succ])
  refine held_quiet_tail 1 10 (by kernel_rfl) (by decide) rfl ?_
  simp only [List.take_succ_cons, List.take_zero, List.drop_succ_cons, List.drop_zero, Act.put, List.setIfInBounds_toArray, List.set_cons_zero, List.set_cons_succ]
  iterate 4 go_big_quiet_step (fail)
  refine wpQuiet_load_win rfl _ rfl _ rfl cs HB0.out HZ.out ?_
  try simp only [Act.put, List.setIfInBounds_toArray, List.set_cons_zero, List.set_cons_succ]
  repeat go_big_quiet_step (fail)
  refine wpQuiet_nil ?_
  rintro _ ⟨nq, rfl⟩
  go_wp2_with fail
  refine (HD.out _).mono ?_; rintro e w2 ⟨rfl, hb2⟩
  have hR2 : RuleAt w2 r on f := HR.out.same (hb2.block r (by simp; omega))
  have d0 : w2.cell? ⟨r, 0, none⟩ = some (.bool on) := by rw [show w2.cell? ⟨r, 0, none⟩ = _ from Lib.cell_of_heap hR2 0]; rfl
  have fr : w2.frozen? ⟨r, 0, none⟩ = false := Lib.frozen_of_heap hR2 0
  have HR2 := Lib.hid hR2
  have HB2 := Lib.hid hb2
  clear hb2 hR2
  go_wp2
  go_ret
  refine ⟨rfl, HR2.out.set x, ?_⟩
  refine grown_trans (grown_below (r := some r) ?_) (grown_set _ r 0 _)
  have e : w.heap.size ≤ (w.alloc (.cells cs TWin)).heap.size := by simp
  have b1 : Below w.heap.size w (w.alloc (.cells cs TWin)) := (Below.refl w.heap.size w).alloc (Nat.le_refl _) _
  have b2 := HB2.out.mono e
  exact b1.trans ⟨b2.os, b2.tape, b2.output, b2.size, b2.block⟩
end Go.Proofs.YtafecdmcbpnniabDoor
namespace Go.Proofs.YtafecdmcbpnniabDoor
open Go.RowKit Go.Shelf
set_option linter.unusedVariables false

theorem win_cells {cs : Array Value} {T mk old : Nat} {arr : Nat → Bool} (h : WinV cs T mk old arr) (w : World) : (w.alloc (.cells cs TWin)).cell? ⟨w.heap.size, 0, none⟩ = some (.int .i64 (T : Int)) ∧ (w.alloc (.cells cs TWin)).cell? ⟨w.heap.size, 1, none⟩ = some (.int .i64 (mk : Int)) := by
  have hB : WinBlk (w.alloc (.cells cs TWin)) w.heap.size cs := by unfold WinBlk World.alloc; simp
  exact ⟨by rw [hB.cell]; exact h.c0, by rw [hB.cell]; exact h.c1⟩
theorem deb_dec (T : Nat) : DecC 18 T (decDeb T) := by
  refine ⟨enters_of Tryd.func18 (by kernel_rfl) rfl, ?_⟩
  intro cs mk old arr on w hv hm hT hT1
  obtain ⟨c0, c1⟩ := win_cells hv w
  clear hv
  by_cases h : mk = T
  · have e : decDeb T mk on = true := by simp [decDeb, h]
    rw [e]
    subst h
    go_enter Tryd.func18, Tryd.ntmps18
    go_wp2
    go_ret
    exact ⟨rfl, (Below.refl _ _).alloc (Nat.le_refl _) _⟩
  · have e : decDeb T mk on = (on && decide (0 < mk)) := by simp [decDeb, h]
    have hb : ((mk : Int) == (T : Int)) = false := by simp; omega
    rw [e]
    cases on with
    | false =>
      go_enter Tryd.func18, Tryd.ntmps18
      go_wp2
      go_ret
      exact ⟨by simp, (Below.refl _ _).alloc (Nat.le_refl _) _⟩
    | true =>
      by_cases h0 : 0 < mk
      · have hI : (0 : Int) < (mk : Int) := by omega
        have hD := decide_eq_true hI
        go_enter Tryd.func18, Tryd.ntmps18
        go_wp2
        go_ret
        exact ⟨by simp [h0], (Below.refl _ _).alloc (Nat.le_refl _) _⟩
      · have hI : ¬ (0 : Int) < (mk : Int) := by omega
        have hD := decide_eq_false hI
        go_enter Tryd.func18, Tryd.ntmps18
        go_wp2
        go_ret
        exact ⟨by simp [h0], (Below.refl _ _).alloc (Nat.le_refl _) _⟩
theorem str_dec (T : Nat) : DecC 19 T decStr := by
  refine ⟨enters_of Tryd.func19 (by kernel_rfl) rfl, ?_⟩
  intro cs mk old arr on w hv hm hT hT1
  obtain ⟨c0, c1⟩ := win_cells hv w
  clear hv
  unfold decStr
  by_cases h0 : 0 < mk
  · have hI : (0 : Int) < (mk : Int) := by omega
    have hD := decide_eq_true hI
    go_enter Tryd.func19, Tryd.ntmps19
    go_wp2
    go_ret
    exact ⟨by simp [h0], (Below.refl _ _).alloc (Nat.le_refl _) _⟩
  · have hI : ¬ (0 : Int) < (mk : Int) := by omega
    have hD := decide_eq_false hI
    go_enter Tryd.func19, Tryd.ntmps19
    go_wp2
    go_ret
    exact ⟨by simp [h0], (Below.refl _ _).alloc (Nat.le_refl _) _⟩
theorem maj_dec (T : Nat) : DecC 29 T (decMaj T) := by
  refine ⟨enters_of Tryd.func29 (by kernel_rfl) rfl, ?_⟩
  intro cs mk old arr on w hv hm hT hT1
  obtain ⟨c0, c1⟩ := win_cells hv w
  clear hv
  unfold decMaj
  have hw : IntKind.i64.wrap (2 * (mk : Int)) = 2 * (mk : Int) := IntWalk.i64_in _ (by omega)
  by_cases h0 : T < 2 * mk
  · have hI : (T : Int) < 2 * (mk : Int) := by omega
    have hD := decide_eq_true hI
    go_enter Tryd.func29, Tryd.ntmps29
    go_wp2
    go_ret
    exact ⟨by simp [h0], (Below.refl _ _).alloc (Nat.le_refl _) _⟩
  · have hI : ¬ (T : Int) < 2 * (mk : Int) := by omega
    have hD := decide_eq_false hI
    go_enter Tryd.func29, Tryd.ntmps29
    go_wp2
    go_ret
    exact ⟨by simp [h0], (Below.refl _ _).alloc (Nat.le_refl _) _⟩
end Go.Proofs.YtafecdmcbpnniabDoor
