/- What a switch at work does at a tick. -/
import Derived.Test.YtmhbgpappjfolaaSettle2
import Derived.Deep.RegionWith
import Derived.Test.YtmhbgpappjfolaaQuietTail
import Derived.BigQuiet
import Derived.Laws.Rows
import Derived.Outline
namespace Go.Proofs.Ytmhbgpappjfolaa
open Go.RowKit Go.Shelf
set_option linter.unusedVariables false
set_option linter.unusedSimpArgs false

def swAx (n : Nat) (d ch : Bool) (s : Sw) : Sw := if d then { s with e0 := usedB n s.q0 (!ch && !s.e1) && !s.e1, q0 := pushQ s.q0 (!ch && !s.e1) } else s
def swBx (n : Nat) (d ch : Bool) (s : Sw) : Sw := if d then { s with e1 := usedB n s.q1 (ch && !s.e0) && !s.e0, q1 := pushQ s.q1 (ch && !s.e0) } else s
theorem swA_x (n : Nat) (a c : ByteArray) (k : Nat) (s : Sw) : swA n a c k s = swAx n (dnB a k) (bit c k) s := rfl
theorem swB_x (n : Nat) (a c : ByteArray) (k : Nat) (s : Sw) : swB n a c k s = swBx n (dnB a k) (bit c k) s := rfl
def swLs (n f : Int) (s : Sw) (l0 l1 : Bool) : List Value := [.int .i64 n, .int .i64 f, .bool s.e0, .bool s.e1, .bool l0] ++ s.q0.map Value.bool ++ [.bool l1] ++ s.q1.map Value.bool
theorem list6 {q : List Bool} (h : q.length = 6) : ∃ a0 a1 a2 a3 a4 a5, q = [a0, a1, a2, a3, a4, a5] := by
  match q, h with
  | [a0, a1, a2, a3, a4, a5], _ => exact ⟨a0, a1, a2, a3, a4, a5, rfl⟩
theorem grown_trans_s {a b c : World} {r : Option Nat} (h : a.grownBy b r) (k : b.grownBy c r) : a.grownBy c r :=
  ⟨k.os.trans h.os, k.tape.trans h.tape, k.output.trans h.output, Nat.le_trans h.size k.size, fun j hj hne => (k.block j (Nat.lt_of_lt_of_le hj h.size) hne).trans (h.block j hj hne)⟩
def chI (ch : Bool) : Int := if ch then 1 else 0
def TickR (W : World) (p : Nat) (L : List Value) (e : Ending) (w' : World) : Prop := e = .returned (.tuple #[]) ∧ SwBlk w' p L ∧ W.grownBy w' (some p)
/-- one clock's part -/
def MidR (W : World) (p : Nat) (L0 L1 L2 : List Value) (i : Value) (wr : World) : Prop :=
  W.grownBy wr (some p) ∧ W.heap.size < wr.heap.size ∧ ((i = .int .i64 0 ∧ SwBlk wr p L0) ∨ (i = .int .i64 1 ∧ SwBlk wr p L1) ∨ (i = .int .i64 2 ∧ SwBlk wr p L2))
theorem swEq {w : World} {p : Nat} {L L' : List Value} (h : SwBlk w p L) (e : L' = L) : SwBlk w p L' := by rw [e]; exact h
/-- the states that a tick goes through -/
def TS (n : Nat) (f : Int) (s : Sw) (x y ch l0 l1 : Bool) (i : Value) (L : List Value) : Prop :=
  (i = .int .i64 0 ∧ L = swLs n f s l0 l1) ∨ (i = .int .i64 1 ∧ L = swLs n f (swAx n (l0 && !x) ch s) x l1) ∨ (i = .int .i64 2 ∧ L = swLs n f (swBx n (l1 && !y) ch (swAx n (l0 && !x) ch s)) x y)
theorem swAx_len (n : Nat) (d ch : Bool) (s : Sw) (h : s.q0.length = 6 ∧ s.q1.length = 6) : (swAx n d ch s).q0.length = 6 ∧ (swAx n d ch s).q1.length = 6 := by
  unfold swAx
  split
  · exact ⟨pushQ_len _ _ h.1, h.2⟩
  · exact h
theorem swBx_len (n : Nat) (d ch : Bool) (s : Sw) (h : s.q0.length = 6 ∧ s.q1.length = 6) : (swBx n d ch s).q0.length = 6 ∧ (swBx n d ch s).q1.length = 6 := by
  unfold swBx
  split
  · exact ⟨h.1, pushQ_len _ _ h.2⟩
  · exact h
set_option maxHeartbeats 8000000 in
set_option maxRecDepth 100000 in
theorem tick_any (p n : Nat) (hn : n ≤ 5) (f : Int) (s : Sw) (hq : s.q0.length = 6 ∧ s.q1.length = 6) (x y ch l0 l1 : Bool) (c : Int) (hc : c = chI ch) (W : World) (h : SwBlk W p (swLs n f s l0 l1)) :
    Calls Try.prog 68 #[.pointer (some ⟨p, 0, none⟩), .agg #[.bool x, .bool y], .int .i64 c] W fun e w' => TickR W p (swLs n f (swBx n (l1 && !y) ch (swAx n (l0 && !x) ch s)) x y) e w' := by
  obtain ⟨W0, hW0⟩ : ∃ W0, W.alloc (.cells #[.bool x, .bool y] 84) = W0 := ⟨_, rfl⟩
  have hlt : p < W.heap.size := (Array.getElem?_eq_some_iff.1 h).1
  have HL0 : Hid (SwBlk W0 p (swLs n f s l0 l1)) := by rw [← hW0]; exact (Below.heap_alloc _ _ _ (by omega)).trans h
  have HG0 : Hid (W.grownBy W0 (some p)) := by rw [← hW0]; exact World.grownBy_alloc W _ _
  have hz0 : W.heap.size < W0.heap.size := by rw [← hW0]; simp
  have v0 : W0.cell? ⟨W.heap.size, 0, none⟩ = some (.bool x) := by rw [← hW0]; simp [go_sem]
  have v1 : W0.cell? ⟨W.heap.size, 1, none⟩ = some (.bool y) := by rw [← hW0]; simp [go_sem]
  have i0 : ∀ w, (Instr.index 84 (.agg #[.bool x, .bool y]) (.int .i64 0)).run Try.prog w = .ok (.bool x) w := fun _ => by kernel_rfl
  have i1 : ∀ w, (Instr.index 84 (.agg #[.bool x, .bool y]) (.int .i64 1)).run Try.prog w = .ok (.bool y) w := fun _ => by kernel_rfl
  have ec0 : (c == 0) = !ch := by rw [hc]; cases ch <;> rfl
  have ec1 : (c == 1) = ch := by rw [hc]; cases ch <;> rfl
  clear h hc
  go_enter Try.func68, Try.ntmps68
  go_wp2
  go_loopw [6, 7, 8, 9, 10, 11, 13] (fun _ _ _ _ _ _ i wr => Hid (W.grownBy wr (some p)) ∧ W.heap.size < wr.heap.size ∧ Hid (∃ L, TS n f s x y ch l0 l1 i L ∧ SwBlk wr p L)) (fun _ _ _ _ _ _ i _ => (2 - intOf i).toNat)
  case atStart => exact ⟨HG0, hz0, _, Or.inl ⟨rfl, rfl⟩, HL0.out⟩
  case round =>
    obtain ⟨HG, hsz, HT⟩ := hrel
    obtain ⟨L, hT, hB⟩ := HT.out
    clear HL0 HG0 hz0 hW0 HT v0 v1
    rcases hT with ⟨rfl, rfl⟩ | ⟨rfl, rfl⟩ | ⟨rfl, rfl⟩
    · obtain ⟨e0, e1, q0, q1⟩ := s
      obtain ⟨a0, a1, a2, a3, a4, a5, rfl⟩ := list6 hq.1
      obtain ⟨b0, b1, b2, b3, b4, b5, rfl⟩ := list6 hq.2
      have HL : Hid (SwBlk wr p (swL n f e0 e1 l0 a0 a1 a2 a3 a4 a5 l1 b0 b1 b2 b3 b4 b5)) := hB
      clear hB hq
      have f0 : wr.cell? ⟨p, 4, none⟩ = some (.bool l0) := by rw [HL.out.cell]; rfl
      have z0 : wr.frozen? ⟨p, 4, none⟩ = false := HL.out.frozen 4
      have HF := Lib.hid (follow_any p 4 l0 x wr f0 z0)
      clear f0 z0
      cases hd : (l0 && !x) with
      | false =>
        rw [hd] at HF
        have HD := Lib.hid hd
        clear hd
        go_wp2_with fail
        refine HF.out.mono ?_; rintro e w1 ⟨rfl, nd, rfl⟩
        have HL1 : Hid (SwBlk ((wr.drewN nd).setCell ⟨p, 4, none⟩ (.bool x)) p (swL n f e0 e1 x a0 a1 a2 a3 a4 a5 l1 b0 b1 b2 b3 b4 b5)) := (show SwBlk (wr.drewN nd) p _ from HL.out).set 4 (.bool x) (by simp [swL])
        have HG1 : Hid (W.grownBy ((wr.drewN nd).setCell ⟨p, 4, none⟩ (.bool x)) (some p)) := grown_trans_s HG.out (grown_set1 wr p 4 nd _)
        have hz1 : W.heap.size < ((wr.drewN nd).setCell ⟨p, 4, none⟩ (.bool x)).heap.size := by simpa using hsz
        obtain ⟨W1, hW1⟩ : ∃ W1, (wr.drewN nd).setCell ⟨p, 4, none⟩ (.bool x) = W1 := ⟨_, rfl⟩
        rw [hW1] at HL1 HG1 hz1 ⊢
        clear hW1
        go_wp2
        go_roundw
        case rel => exact ⟨HG1, hz1, _, Or.inr (Or.inl ⟨rfl, rfl⟩), by rw [HD.out]; exact HL1.out⟩
        case measure => simp [intOf]
      | true =>
        rw [hd] at HF
        have HD := Lib.hid hd
        clear hd
        cases ch <;> cases e1
        · go_wp2_with fail
          refine HF.out.mono ?_; rintro e w1 ⟨rfl, nd, rfl⟩
          have hL1 : SwBlk ((wr.drewN nd).setCell ⟨p, 4, none⟩ (.bool x)) p (swL n f e0 false x a0 a1 a2 a3 a4 a5 l1 b0 b1 b2 b3 b4 b5) := (show SwBlk (wr.drewN nd) p _ from HL.out).set 4 (.bool x) (by simp [swL])
          have HG1 : Hid (W.grownBy ((wr.drewN nd).setCell ⟨p, 4, none⟩ (.bool x)) (some p)) := grown_trans_s HG.out (grown_set1 wr p 4 nd _)
          have hz1 : W.heap.size < ((wr.drewN nd).setCell ⟨p, 4, none⟩ (.bool x)).heap.size := by simpa using hsz
          obtain ⟨W1, hW1⟩ : ∃ W1, (wr.drewN nd).setCell ⟨p, 4, none⟩ (.bool x) = W1 := ⟨_, rfl⟩
          rw [hW1] at hL1 HG1 hz1 ⊢
          have ce : W1.cell? ⟨p, 3, none⟩ = some (.bool false) := by rw [hL1.cell]; rfl
          have cn : W1.cell? ⟨p, 0, none⟩ = some (.int .i64 (n : Int)) := by rw [hL1.cell]; rfl
          have HSE := Lib.hid (fun q => settle0 p n hn f true e0 false x a0 a1 a2 a3 a4 a5 l1 b0 b1 b2 b3 b4 b5 (W1.drewN q) hL1)
          have HL1 := Lib.hid hL1
          clear hW1 hL1 HF
          go_wp2
          refine wp_quiet_tail 16 (by kernel_rfl) (by kernel_rfl) ?_
          simp only [List.take_succ_cons, List.take_zero, List.drop_succ_cons, List.drop_zero]
          repeat go_big_quiet_step (fail)
          refine wpQuiet_nil ?_
          rintro _ ⟨nq, rfl⟩
          go_wp2_with fail
          refine (HSE.out nq).mono ?_; rintro e w2 ⟨rfl, hL2, hG2⟩; have HL2 := Lib.hid hL2; have HG2 := Lib.hid hG2; clear hL2 hG2
          all_goals
            have hL2 := HL2.out
            have hG2 : W.grownBy w2 (some p) := grown_trans_s HG1.out ⟨HG2.out.os, HG2.out.tape, HG2.out.output, HG2.out.size, HG2.out.block⟩
            have hz2 : W.heap.size < w2.heap.size := Nat.lt_of_lt_of_le hz1 HG2.out.size
            obtain ⟨r, hr⟩ : ∃ r, usedB n [a0, a1, a2, a3, a4, a5] true = r := ⟨_, rfl⟩
            have HR := Lib.hid hr
            rw [hr]
            have k0 : (w2.cell? ⟨p, 2, none⟩).isSome = true := by rw [hL2.cell]; rfl
            have k1 : w2.cell? ⟨p, 2, none⟩ = some (.bool e0) := by rw [hL2.cell]; rfl
            have kf : w2.frozen? ⟨p, 2, none⟩ = false := hL2.frozen 2
            have HL3 : Hid (SwBlk (w2.setCell ⟨p, 2, none⟩ (.bool (r && true))) p (swL n f (r && true) false x true a0 a1 a2 a3 a4 l1 b0 b1 b2 b3 b4 b5)) := hL2.set 2 (.bool (r && true)) (by simp [swL])
            have HG3 : Hid (W.grownBy (w2.setCell ⟨p, 2, none⟩ (.bool (r && true))) (some p)) := grown_then hG2 2 _
            have hz3 : W.heap.size < (w2.setCell ⟨p, 2, none⟩ (.bool (r && true))).heap.size := by simpa using hz2
            clear hL2 hG2 HL2 HG2 ce cn hr
            cases r
            all_goals
              go_wp2
              go_roundw
              case rel => exact ⟨HG3, hz3, _, Or.inr (Or.inl ⟨rfl, rfl⟩), by rw [HD.out]; exact swEq HL3.out (by have hR := HR.out; simp only [swAx, swLs, if_pos, pushQ, Bool.not_false, Bool.not_true, Bool.and_true, Bool.true_and, Bool.and_false, Bool.false_and, Bool.and_self]; first | (rw [hR]; rfl) | rfl)⟩
              case measure => simp [intOf]
        · go_wp2_with fail
          refine HF.out.mono ?_; rintro e w1 ⟨rfl, nd, rfl⟩
          have hL1 : SwBlk ((wr.drewN nd).setCell ⟨p, 4, none⟩ (.bool x)) p (swL n f e0 true x a0 a1 a2 a3 a4 a5 l1 b0 b1 b2 b3 b4 b5) := (show SwBlk (wr.drewN nd) p _ from HL.out).set 4 (.bool x) (by simp [swL])
          have HG1 : Hid (W.grownBy ((wr.drewN nd).setCell ⟨p, 4, none⟩ (.bool x)) (some p)) := grown_trans_s HG.out (grown_set1 wr p 4 nd _)
          have hz1 : W.heap.size < ((wr.drewN nd).setCell ⟨p, 4, none⟩ (.bool x)).heap.size := by simpa using hsz
          obtain ⟨W1, hW1⟩ : ∃ W1, (wr.drewN nd).setCell ⟨p, 4, none⟩ (.bool x) = W1 := ⟨_, rfl⟩
          rw [hW1] at hL1 HG1 hz1 ⊢
          have ce : W1.cell? ⟨p, 3, none⟩ = some (.bool true) := by rw [hL1.cell]; rfl
          have cn : W1.cell? ⟨p, 0, none⟩ = some (.int .i64 (n : Int)) := by rw [hL1.cell]; rfl
          have HSE := Lib.hid (fun q => settle0 p n hn f false e0 true x a0 a1 a2 a3 a4 a5 l1 b0 b1 b2 b3 b4 b5 (W1.drewN q) hL1)
          have HL1 := Lib.hid hL1
          clear hW1 hL1 HF
          go_wp2
          refine wp_quiet_tail 16 (by kernel_rfl) (by kernel_rfl) ?_
          simp only [List.take_succ_cons, List.take_zero, List.drop_succ_cons, List.drop_zero]
          repeat go_big_quiet_step (fail)
          refine wpQuiet_nil ?_
          rintro _ ⟨nq, rfl⟩
          go_wp2_with fail
          refine (HSE.out nq).mono ?_; rintro e w2 ⟨rfl, hL2, hG2⟩; have HL2 := Lib.hid hL2; have HG2 := Lib.hid hG2; clear hL2 hG2
          all_goals
            have hL2 := HL2.out
            have hG2 : W.grownBy w2 (some p) := grown_trans_s HG1.out ⟨HG2.out.os, HG2.out.tape, HG2.out.output, HG2.out.size, HG2.out.block⟩
            have hz2 : W.heap.size < w2.heap.size := Nat.lt_of_lt_of_le hz1 HG2.out.size
            obtain ⟨r, hr⟩ : ∃ r, usedB n [a0, a1, a2, a3, a4, a5] false = r := ⟨_, rfl⟩
            have HR := Lib.hid hr
            rw [hr]
            have k0 : (w2.cell? ⟨p, 2, none⟩).isSome = true := by rw [hL2.cell]; rfl
            have k1 : w2.cell? ⟨p, 2, none⟩ = some (.bool e0) := by rw [hL2.cell]; rfl
            have kf : w2.frozen? ⟨p, 2, none⟩ = false := hL2.frozen 2
            have HL3 : Hid (SwBlk (w2.setCell ⟨p, 2, none⟩ (.bool (r && false))) p (swL n f (r && false) true x false a0 a1 a2 a3 a4 l1 b0 b1 b2 b3 b4 b5)) := hL2.set 2 (.bool (r && false)) (by simp [swL])
            have HG3 : Hid (W.grownBy (w2.setCell ⟨p, 2, none⟩ (.bool (r && false))) (some p)) := grown_then hG2 2 _
            have hz3 : W.heap.size < (w2.setCell ⟨p, 2, none⟩ (.bool (r && false))).heap.size := by simpa using hz2
            clear hL2 hG2 HL2 HG2 ce cn hr
            cases r
            all_goals
              go_wp2
              go_roundw
              case rel => exact ⟨HG3, hz3, _, Or.inr (Or.inl ⟨rfl, rfl⟩), by rw [HD.out]; exact swEq HL3.out (by have hR := HR.out; simp only [swAx, swLs, if_pos, pushQ, Bool.not_false, Bool.not_true, Bool.and_true, Bool.true_and, Bool.and_false, Bool.false_and, Bool.and_self]; first | (rw [hR]; rfl) | rfl)⟩
              case measure => simp [intOf]
        · go_wp2_with fail
          refine HF.out.mono ?_; rintro e w1 ⟨rfl, nd, rfl⟩
          have hL1 : SwBlk ((wr.drewN nd).setCell ⟨p, 4, none⟩ (.bool x)) p (swL n f e0 false x a0 a1 a2 a3 a4 a5 l1 b0 b1 b2 b3 b4 b5) := (show SwBlk (wr.drewN nd) p _ from HL.out).set 4 (.bool x) (by simp [swL])
          have HG1 : Hid (W.grownBy ((wr.drewN nd).setCell ⟨p, 4, none⟩ (.bool x)) (some p)) := grown_trans_s HG.out (grown_set1 wr p 4 nd _)
          have hz1 : W.heap.size < ((wr.drewN nd).setCell ⟨p, 4, none⟩ (.bool x)).heap.size := by simpa using hsz
          obtain ⟨W1, hW1⟩ : ∃ W1, (wr.drewN nd).setCell ⟨p, 4, none⟩ (.bool x) = W1 := ⟨_, rfl⟩
          rw [hW1] at hL1 HG1 hz1 ⊢
          have ce : W1.cell? ⟨p, 3, none⟩ = some (.bool false) := by rw [hL1.cell]; rfl
          have cn : W1.cell? ⟨p, 0, none⟩ = some (.int .i64 (n : Int)) := by rw [hL1.cell]; rfl
          have HSE := Lib.hid (fun q => settle0 p n hn f false e0 false x a0 a1 a2 a3 a4 a5 l1 b0 b1 b2 b3 b4 b5 (W1.drewN q) hL1)
          have HL1 := Lib.hid hL1
          clear hW1 hL1 HF
          go_wp2
          refine wp_quiet_tail 16 (by kernel_rfl) (by kernel_rfl) ?_
          simp only [List.take_succ_cons, List.take_zero, List.drop_succ_cons, List.drop_zero]
          repeat go_big_quiet_step (fail)
          refine wpQuiet_nil ?_
          rintro _ ⟨nq, rfl⟩
          go_wp2_with fail
          refine (HSE.out nq).mono ?_; rintro e w2 ⟨rfl, hL2, hG2⟩; have HL2 := Lib.hid hL2; have HG2 := Lib.hid hG2; clear hL2 hG2
          all_goals
            have hL2 := HL2.out
            have hG2 : W.grownBy w2 (some p) := grown_trans_s HG1.out ⟨HG2.out.os, HG2.out.tape, HG2.out.output, HG2.out.size, HG2.out.block⟩
            have hz2 : W.heap.size < w2.heap.size := Nat.lt_of_lt_of_le hz1 HG2.out.size
            obtain ⟨r, hr⟩ : ∃ r, usedB n [a0, a1, a2, a3, a4, a5] false = r := ⟨_, rfl⟩
            have HR := Lib.hid hr
            rw [hr]
            have k0 : (w2.cell? ⟨p, 2, none⟩).isSome = true := by rw [hL2.cell]; rfl
            have k1 : w2.cell? ⟨p, 2, none⟩ = some (.bool e0) := by rw [hL2.cell]; rfl
            have kf : w2.frozen? ⟨p, 2, none⟩ = false := hL2.frozen 2
            have HL3 : Hid (SwBlk (w2.setCell ⟨p, 2, none⟩ (.bool (r && true))) p (swL n f (r && true) false x false a0 a1 a2 a3 a4 l1 b0 b1 b2 b3 b4 b5)) := hL2.set 2 (.bool (r && true)) (by simp [swL])
            have HG3 : Hid (W.grownBy (w2.setCell ⟨p, 2, none⟩ (.bool (r && true))) (some p)) := grown_then hG2 2 _
            have hz3 : W.heap.size < (w2.setCell ⟨p, 2, none⟩ (.bool (r && true))).heap.size := by simpa using hz2
            clear hL2 hG2 HL2 HG2 ce cn hr
            cases r
            all_goals
              go_wp2
              go_roundw
              case rel => exact ⟨HG3, hz3, _, Or.inr (Or.inl ⟨rfl, rfl⟩), by rw [HD.out]; exact swEq HL3.out (by have hR := HR.out; simp only [swAx, swLs, if_pos, pushQ, Bool.not_false, Bool.not_true, Bool.and_true, Bool.true_and, Bool.and_false, Bool.false_and, Bool.and_self]; first | (rw [hR]; rfl) | rfl)⟩
              case measure => simp [intOf]
        · go_wp2_with fail
          refine HF.out.mono ?_; rintro e w1 ⟨rfl, nd, rfl⟩
          have hL1 : SwBlk ((wr.drewN nd).setCell ⟨p, 4, none⟩ (.bool x)) p (swL n f e0 true x a0 a1 a2 a3 a4 a5 l1 b0 b1 b2 b3 b4 b5) := (show SwBlk (wr.drewN nd) p _ from HL.out).set 4 (.bool x) (by simp [swL])
          have HG1 : Hid (W.grownBy ((wr.drewN nd).setCell ⟨p, 4, none⟩ (.bool x)) (some p)) := grown_trans_s HG.out (grown_set1 wr p 4 nd _)
          have hz1 : W.heap.size < ((wr.drewN nd).setCell ⟨p, 4, none⟩ (.bool x)).heap.size := by simpa using hsz
          obtain ⟨W1, hW1⟩ : ∃ W1, (wr.drewN nd).setCell ⟨p, 4, none⟩ (.bool x) = W1 := ⟨_, rfl⟩
          rw [hW1] at hL1 HG1 hz1 ⊢
          have ce : W1.cell? ⟨p, 3, none⟩ = some (.bool true) := by rw [hL1.cell]; rfl
          have cn : W1.cell? ⟨p, 0, none⟩ = some (.int .i64 (n : Int)) := by rw [hL1.cell]; rfl
          have HSE := Lib.hid (fun q => settle0 p n hn f false e0 true x a0 a1 a2 a3 a4 a5 l1 b0 b1 b2 b3 b4 b5 (W1.drewN q) hL1)
          have HL1 := Lib.hid hL1
          clear hW1 hL1 HF
          go_wp2
          refine wp_quiet_tail 16 (by kernel_rfl) (by kernel_rfl) ?_
          simp only [List.take_succ_cons, List.take_zero, List.drop_succ_cons, List.drop_zero]
          repeat go_big_quiet_step (fail)
          refine wpQuiet_nil ?_
          rintro _ ⟨nq, rfl⟩
          go_wp2_with fail
          refine (HSE.out nq).mono ?_; rintro e w2 ⟨rfl, hL2, hG2⟩; have HL2 := Lib.hid hL2; have HG2 := Lib.hid hG2; clear hL2 hG2
          all_goals
            have hL2 := HL2.out
            have hG2 : W.grownBy w2 (some p) := grown_trans_s HG1.out ⟨HG2.out.os, HG2.out.tape, HG2.out.output, HG2.out.size, HG2.out.block⟩
            have hz2 : W.heap.size < w2.heap.size := Nat.lt_of_lt_of_le hz1 HG2.out.size
            obtain ⟨r, hr⟩ : ∃ r, usedB n [a0, a1, a2, a3, a4, a5] false = r := ⟨_, rfl⟩
            have HR := Lib.hid hr
            rw [hr]
            have k0 : (w2.cell? ⟨p, 2, none⟩).isSome = true := by rw [hL2.cell]; rfl
            have k1 : w2.cell? ⟨p, 2, none⟩ = some (.bool e0) := by rw [hL2.cell]; rfl
            have kf : w2.frozen? ⟨p, 2, none⟩ = false := hL2.frozen 2
            have HL3 : Hid (SwBlk (w2.setCell ⟨p, 2, none⟩ (.bool (r && false))) p (swL n f (r && false) true x false a0 a1 a2 a3 a4 l1 b0 b1 b2 b3 b4 b5)) := hL2.set 2 (.bool (r && false)) (by simp [swL])
            have HG3 : Hid (W.grownBy (w2.setCell ⟨p, 2, none⟩ (.bool (r && false))) (some p)) := grown_then hG2 2 _
            have hz3 : W.heap.size < (w2.setCell ⟨p, 2, none⟩ (.bool (r && false))).heap.size := by simpa using hz2
            clear hL2 hG2 HL2 HG2 ce cn hr
            cases r
            all_goals
              go_wp2
              go_roundw
              case rel => exact ⟨HG3, hz3, _, Or.inr (Or.inl ⟨rfl, rfl⟩), by rw [HD.out]; exact swEq HL3.out (by have hR := HR.out; simp only [swAx, swLs, if_pos, pushQ, Bool.not_false, Bool.not_true, Bool.and_true, Bool.true_and, Bool.and_false, Bool.false_and, Bool.and_self]; first | (rw [hR]; rfl) | rfl)⟩
              case measure => simp [intOf]
    · generalize hs1 : swAx n (l0 && !x) ch s = s1 at hB
      have hq1 : s1.q0.length = 6 ∧ s1.q1.length = 6 := by rw [← hs1]; exact swAx_len n _ _ s hq
      have HS1 := Lib.hid hs1
      clear hs1
      obtain ⟨e0, e1, q0, q1⟩ := s1
      obtain ⟨a0, a1, a2, a3, a4, a5, rfl⟩ := list6 hq1.1
      obtain ⟨b0, b1, b2, b3, b4, b5, rfl⟩ := list6 hq1.2
      have HL : Hid (SwBlk wr p (swL n f e0 e1 x a0 a1 a2 a3 a4 a5 l1 b0 b1 b2 b3 b4 b5)) := hB
      clear hB hq1
      have f0 : wr.cell? ⟨p, 11, none⟩ = some (.bool l1) := by rw [HL.out.cell]; rfl
      have z0 : wr.frozen? ⟨p, 11, none⟩ = false := HL.out.frozen 11
      have HF := Lib.hid (follow_any p 11 l1 y wr f0 z0)
      clear f0 z0
      cases hd : (l1 && !y) with
      | false =>
        rw [hd] at HF
        have HD := Lib.hid hd
        clear hd
        go_wp2_with fail
        refine HF.out.mono ?_; rintro e w1 ⟨rfl, nd, rfl⟩
        have HL1 : Hid (SwBlk ((wr.drewN nd).setCell ⟨p, 11, none⟩ (.bool y)) p (swL n f e0 e1 x a0 a1 a2 a3 a4 a5 y b0 b1 b2 b3 b4 b5)) := (show SwBlk (wr.drewN nd) p _ from HL.out).set 11 (.bool y) (by simp [swL])
        have HG1 : Hid (W.grownBy ((wr.drewN nd).setCell ⟨p, 11, none⟩ (.bool y)) (some p)) := grown_trans_s HG.out (grown_set1 wr p 11 nd _)
        have hz1 : W.heap.size < ((wr.drewN nd).setCell ⟨p, 11, none⟩ (.bool y)).heap.size := by simpa using hsz
        obtain ⟨W1, hW1⟩ : ∃ W1, (wr.drewN nd).setCell ⟨p, 11, none⟩ (.bool y) = W1 := ⟨_, rfl⟩
        rw [hW1] at HL1 HG1 hz1 ⊢
        clear hW1
        go_wp2
        go_roundw
        case rel => exact ⟨HG1, hz1, _, Or.inr (Or.inr ⟨rfl, rfl⟩), by rw [HS1.out, HD.out]; exact HL1.out⟩
        case measure => simp [intOf]
      | true =>
        rw [hd] at HF
        have HD := Lib.hid hd
        clear hd
        cases ch <;> cases e0
        · go_wp2_with fail
          refine HF.out.mono ?_; rintro e w1 ⟨rfl, nd, rfl⟩
          have hL1 : SwBlk ((wr.drewN nd).setCell ⟨p, 11, none⟩ (.bool y)) p (swL n f false e1 x a0 a1 a2 a3 a4 a5 y b0 b1 b2 b3 b4 b5) := (show SwBlk (wr.drewN nd) p _ from HL.out).set 11 (.bool y) (by simp [swL])
          have HG1 : Hid (W.grownBy ((wr.drewN nd).setCell ⟨p, 11, none⟩ (.bool y)) (some p)) := grown_trans_s HG.out (grown_set1 wr p 11 nd _)
          have hz1 : W.heap.size < ((wr.drewN nd).setCell ⟨p, 11, none⟩ (.bool y)).heap.size := by simpa using hsz
          obtain ⟨W1, hW1⟩ : ∃ W1, (wr.drewN nd).setCell ⟨p, 11, none⟩ (.bool y) = W1 := ⟨_, rfl⟩
          rw [hW1] at hL1 HG1 hz1 ⊢
          have ce : W1.cell? ⟨p, 2, none⟩ = some (.bool false) := by rw [hL1.cell]; rfl
          have cn : W1.cell? ⟨p, 0, none⟩ = some (.int .i64 (n : Int)) := by rw [hL1.cell]; rfl
          have HSE := Lib.hid (fun q => settle1 p n hn f false false e1 x a0 a1 a2 a3 a4 a5 y b0 b1 b2 b3 b4 b5 (W1.drewN q) hL1)
          have HL1 := Lib.hid hL1
          clear hW1 hL1 HF
          go_wp2
          refine wp_quiet_tail 16 (by kernel_rfl) (by kernel_rfl) ?_
          simp only [List.take_succ_cons, List.take_zero, List.drop_succ_cons, List.drop_zero]
          repeat go_big_quiet_step (fail)
          refine wpQuiet_nil ?_
          rintro _ ⟨nq, rfl⟩
          go_wp2_with fail
          refine (HSE.out nq).mono ?_; rintro e w2 ⟨rfl, hL2, hG2⟩; have HL2 := Lib.hid hL2; have HG2 := Lib.hid hG2; clear hL2 hG2
          all_goals
            have hL2 := HL2.out
            have hG2 : W.grownBy w2 (some p) := grown_trans_s HG1.out ⟨HG2.out.os, HG2.out.tape, HG2.out.output, HG2.out.size, HG2.out.block⟩
            have hz2 : W.heap.size < w2.heap.size := Nat.lt_of_lt_of_le hz1 HG2.out.size
            obtain ⟨r, hr⟩ : ∃ r, usedB n [b0, b1, b2, b3, b4, b5] false = r := ⟨_, rfl⟩
            have HR := Lib.hid hr
            rw [hr]
            have k0 : (w2.cell? ⟨p, 3, none⟩).isSome = true := by rw [hL2.cell]; rfl
            have k1 : w2.cell? ⟨p, 3, none⟩ = some (.bool e1) := by rw [hL2.cell]; rfl
            have kf : w2.frozen? ⟨p, 3, none⟩ = false := hL2.frozen 3
            have HL3 : Hid (SwBlk (w2.setCell ⟨p, 3, none⟩ (.bool (r && true))) p (swL n f false (r && true) x a0 a1 a2 a3 a4 a5 y false b0 b1 b2 b3 b4)) := hL2.set 3 (.bool (r && true)) (by simp [swL])
            have HG3 : Hid (W.grownBy (w2.setCell ⟨p, 3, none⟩ (.bool (r && true))) (some p)) := grown_then hG2 3 _
            have hz3 : W.heap.size < (w2.setCell ⟨p, 3, none⟩ (.bool (r && true))).heap.size := by simpa using hz2
            clear hL2 hG2 HL2 HG2 ce cn hr
            cases r
            all_goals
              go_wp2
              go_roundw
              case rel => exact ⟨HG3, hz3, _, Or.inr (Or.inr ⟨rfl, rfl⟩), by rw [HS1.out, HD.out]; exact swEq HL3.out (by have hR := HR.out; simp only [swBx, swLs, if_pos, pushQ, Bool.not_false, Bool.not_true, Bool.and_true, Bool.true_and, Bool.and_false, Bool.false_and, Bool.and_self]; first | (rw [hR]; rfl) | rfl)⟩
              case measure => simp [intOf]
        · go_wp2_with fail
          refine HF.out.mono ?_; rintro e w1 ⟨rfl, nd, rfl⟩
          have hL1 : SwBlk ((wr.drewN nd).setCell ⟨p, 11, none⟩ (.bool y)) p (swL n f true e1 x a0 a1 a2 a3 a4 a5 y b0 b1 b2 b3 b4 b5) := (show SwBlk (wr.drewN nd) p _ from HL.out).set 11 (.bool y) (by simp [swL])
          have HG1 : Hid (W.grownBy ((wr.drewN nd).setCell ⟨p, 11, none⟩ (.bool y)) (some p)) := grown_trans_s HG.out (grown_set1 wr p 11 nd _)
          have hz1 : W.heap.size < ((wr.drewN nd).setCell ⟨p, 11, none⟩ (.bool y)).heap.size := by simpa using hsz
          obtain ⟨W1, hW1⟩ : ∃ W1, (wr.drewN nd).setCell ⟨p, 11, none⟩ (.bool y) = W1 := ⟨_, rfl⟩
          rw [hW1] at hL1 HG1 hz1 ⊢
          have ce : W1.cell? ⟨p, 2, none⟩ = some (.bool true) := by rw [hL1.cell]; rfl
          have cn : W1.cell? ⟨p, 0, none⟩ = some (.int .i64 (n : Int)) := by rw [hL1.cell]; rfl
          have HSE := Lib.hid (fun q => settle1 p n hn f false true e1 x a0 a1 a2 a3 a4 a5 y b0 b1 b2 b3 b4 b5 (W1.drewN q) hL1)
          have HL1 := Lib.hid hL1
          clear hW1 hL1 HF
          go_wp2
          refine wp_quiet_tail 16 (by kernel_rfl) (by kernel_rfl) ?_
          simp only [List.take_succ_cons, List.take_zero, List.drop_succ_cons, List.drop_zero]
          repeat go_big_quiet_step (fail)
          refine wpQuiet_nil ?_
          rintro _ ⟨nq, rfl⟩
          go_wp2_with fail
          refine (HSE.out nq).mono ?_; rintro e w2 ⟨rfl, hL2, hG2⟩; have HL2 := Lib.hid hL2; have HG2 := Lib.hid hG2; clear hL2 hG2
          all_goals
            have hL2 := HL2.out
            have hG2 : W.grownBy w2 (some p) := grown_trans_s HG1.out ⟨HG2.out.os, HG2.out.tape, HG2.out.output, HG2.out.size, HG2.out.block⟩
            have hz2 : W.heap.size < w2.heap.size := Nat.lt_of_lt_of_le hz1 HG2.out.size
            obtain ⟨r, hr⟩ : ∃ r, usedB n [b0, b1, b2, b3, b4, b5] false = r := ⟨_, rfl⟩
            have HR := Lib.hid hr
            rw [hr]
            have k0 : (w2.cell? ⟨p, 3, none⟩).isSome = true := by rw [hL2.cell]; rfl
            have k1 : w2.cell? ⟨p, 3, none⟩ = some (.bool e1) := by rw [hL2.cell]; rfl
            have kf : w2.frozen? ⟨p, 3, none⟩ = false := hL2.frozen 3
            have HL3 : Hid (SwBlk (w2.setCell ⟨p, 3, none⟩ (.bool (r && false))) p (swL n f true (r && false) x a0 a1 a2 a3 a4 a5 y false b0 b1 b2 b3 b4)) := hL2.set 3 (.bool (r && false)) (by simp [swL])
            have HG3 : Hid (W.grownBy (w2.setCell ⟨p, 3, none⟩ (.bool (r && false))) (some p)) := grown_then hG2 3 _
            have hz3 : W.heap.size < (w2.setCell ⟨p, 3, none⟩ (.bool (r && false))).heap.size := by simpa using hz2
            clear hL2 hG2 HL2 HG2 ce cn hr
            cases r
            all_goals
              go_wp2
              go_roundw
              case rel => exact ⟨HG3, hz3, _, Or.inr (Or.inr ⟨rfl, rfl⟩), by rw [HS1.out, HD.out]; exact swEq HL3.out (by have hR := HR.out; simp only [swBx, swLs, if_pos, pushQ, Bool.not_false, Bool.not_true, Bool.and_true, Bool.true_and, Bool.and_false, Bool.false_and, Bool.and_self]; first | (rw [hR]; rfl) | rfl)⟩
              case measure => simp [intOf]
        · go_wp2_with fail
          refine HF.out.mono ?_; rintro e w1 ⟨rfl, nd, rfl⟩
          have hL1 : SwBlk ((wr.drewN nd).setCell ⟨p, 11, none⟩ (.bool y)) p (swL n f false e1 x a0 a1 a2 a3 a4 a5 y b0 b1 b2 b3 b4 b5) := (show SwBlk (wr.drewN nd) p _ from HL.out).set 11 (.bool y) (by simp [swL])
          have HG1 : Hid (W.grownBy ((wr.drewN nd).setCell ⟨p, 11, none⟩ (.bool y)) (some p)) := grown_trans_s HG.out (grown_set1 wr p 11 nd _)
          have hz1 : W.heap.size < ((wr.drewN nd).setCell ⟨p, 11, none⟩ (.bool y)).heap.size := by simpa using hsz
          obtain ⟨W1, hW1⟩ : ∃ W1, (wr.drewN nd).setCell ⟨p, 11, none⟩ (.bool y) = W1 := ⟨_, rfl⟩
          rw [hW1] at hL1 HG1 hz1 ⊢
          have ce : W1.cell? ⟨p, 2, none⟩ = some (.bool false) := by rw [hL1.cell]; rfl
          have cn : W1.cell? ⟨p, 0, none⟩ = some (.int .i64 (n : Int)) := by rw [hL1.cell]; rfl
          have HSE := Lib.hid (fun q => settle1 p n hn f true false e1 x a0 a1 a2 a3 a4 a5 y b0 b1 b2 b3 b4 b5 (W1.drewN q) hL1)
          have HL1 := Lib.hid hL1
          clear hW1 hL1 HF
          go_wp2
          refine wp_quiet_tail 16 (by kernel_rfl) (by kernel_rfl) ?_
          simp only [List.take_succ_cons, List.take_zero, List.drop_succ_cons, List.drop_zero]
          repeat go_big_quiet_step (fail)
          refine wpQuiet_nil ?_
          rintro _ ⟨nq, rfl⟩
          go_wp2_with fail
          refine (HSE.out nq).mono ?_; rintro e w2 ⟨rfl, hL2, hG2⟩; have HL2 := Lib.hid hL2; have HG2 := Lib.hid hG2; clear hL2 hG2
          all_goals
            have hL2 := HL2.out
            have hG2 : W.grownBy w2 (some p) := grown_trans_s HG1.out ⟨HG2.out.os, HG2.out.tape, HG2.out.output, HG2.out.size, HG2.out.block⟩
            have hz2 : W.heap.size < w2.heap.size := Nat.lt_of_lt_of_le hz1 HG2.out.size
            obtain ⟨r, hr⟩ : ∃ r, usedB n [b0, b1, b2, b3, b4, b5] true = r := ⟨_, rfl⟩
            have HR := Lib.hid hr
            rw [hr]
            have k0 : (w2.cell? ⟨p, 3, none⟩).isSome = true := by rw [hL2.cell]; rfl
            have k1 : w2.cell? ⟨p, 3, none⟩ = some (.bool e1) := by rw [hL2.cell]; rfl
            have kf : w2.frozen? ⟨p, 3, none⟩ = false := hL2.frozen 3
            have HL3 : Hid (SwBlk (w2.setCell ⟨p, 3, none⟩ (.bool (r && true))) p (swL n f false (r && true) x a0 a1 a2 a3 a4 a5 y true b0 b1 b2 b3 b4)) := hL2.set 3 (.bool (r && true)) (by simp [swL])
            have HG3 : Hid (W.grownBy (w2.setCell ⟨p, 3, none⟩ (.bool (r && true))) (some p)) := grown_then hG2 3 _
            have hz3 : W.heap.size < (w2.setCell ⟨p, 3, none⟩ (.bool (r && true))).heap.size := by simpa using hz2
            clear hL2 hG2 HL2 HG2 ce cn hr
            cases r
            all_goals
              go_wp2
              go_roundw
              case rel => exact ⟨HG3, hz3, _, Or.inr (Or.inr ⟨rfl, rfl⟩), by rw [HS1.out, HD.out]; exact swEq HL3.out (by have hR := HR.out; simp only [swBx, swLs, if_pos, pushQ, Bool.not_false, Bool.not_true, Bool.and_true, Bool.true_and, Bool.and_false, Bool.false_and, Bool.and_self]; first | (rw [hR]; rfl) | rfl)⟩
              case measure => simp [intOf]
        · go_wp2_with fail
          refine HF.out.mono ?_; rintro e w1 ⟨rfl, nd, rfl⟩
          have hL1 : SwBlk ((wr.drewN nd).setCell ⟨p, 11, none⟩ (.bool y)) p (swL n f true e1 x a0 a1 a2 a3 a4 a5 y b0 b1 b2 b3 b4 b5) := (show SwBlk (wr.drewN nd) p _ from HL.out).set 11 (.bool y) (by simp [swL])
          have HG1 : Hid (W.grownBy ((wr.drewN nd).setCell ⟨p, 11, none⟩ (.bool y)) (some p)) := grown_trans_s HG.out (grown_set1 wr p 11 nd _)
          have hz1 : W.heap.size < ((wr.drewN nd).setCell ⟨p, 11, none⟩ (.bool y)).heap.size := by simpa using hsz
          obtain ⟨W1, hW1⟩ : ∃ W1, (wr.drewN nd).setCell ⟨p, 11, none⟩ (.bool y) = W1 := ⟨_, rfl⟩
          rw [hW1] at hL1 HG1 hz1 ⊢
          have ce : W1.cell? ⟨p, 2, none⟩ = some (.bool true) := by rw [hL1.cell]; rfl
          have cn : W1.cell? ⟨p, 0, none⟩ = some (.int .i64 (n : Int)) := by rw [hL1.cell]; rfl
          have HSE := Lib.hid (fun q => settle1 p n hn f false true e1 x a0 a1 a2 a3 a4 a5 y b0 b1 b2 b3 b4 b5 (W1.drewN q) hL1)
          have HL1 := Lib.hid hL1
          clear hW1 hL1 HF
          go_wp2
          refine wp_quiet_tail 16 (by kernel_rfl) (by kernel_rfl) ?_
          simp only [List.take_succ_cons, List.take_zero, List.drop_succ_cons, List.drop_zero]
          repeat go_big_quiet_step (fail)
          refine wpQuiet_nil ?_
          rintro _ ⟨nq, rfl⟩
          go_wp2_with fail
          refine (HSE.out nq).mono ?_; rintro e w2 ⟨rfl, hL2, hG2⟩; have HL2 := Lib.hid hL2; have HG2 := Lib.hid hG2; clear hL2 hG2
          all_goals
            have hL2 := HL2.out
            have hG2 : W.grownBy w2 (some p) := grown_trans_s HG1.out ⟨HG2.out.os, HG2.out.tape, HG2.out.output, HG2.out.size, HG2.out.block⟩
            have hz2 : W.heap.size < w2.heap.size := Nat.lt_of_lt_of_le hz1 HG2.out.size
            obtain ⟨r, hr⟩ : ∃ r, usedB n [b0, b1, b2, b3, b4, b5] false = r := ⟨_, rfl⟩
            have HR := Lib.hid hr
            rw [hr]
            have k0 : (w2.cell? ⟨p, 3, none⟩).isSome = true := by rw [hL2.cell]; rfl
            have k1 : w2.cell? ⟨p, 3, none⟩ = some (.bool e1) := by rw [hL2.cell]; rfl
            have kf : w2.frozen? ⟨p, 3, none⟩ = false := hL2.frozen 3
            have HL3 : Hid (SwBlk (w2.setCell ⟨p, 3, none⟩ (.bool (r && false))) p (swL n f true (r && false) x a0 a1 a2 a3 a4 a5 y false b0 b1 b2 b3 b4)) := hL2.set 3 (.bool (r && false)) (by simp [swL])
            have HG3 : Hid (W.grownBy (w2.setCell ⟨p, 3, none⟩ (.bool (r && false))) (some p)) := grown_then hG2 3 _
            have hz3 : W.heap.size < (w2.setCell ⟨p, 3, none⟩ (.bool (r && false))).heap.size := by simpa using hz2
            clear hL2 hG2 HL2 HG2 ce cn hr
            cases r
            all_goals
              go_wp2
              go_roundw
              case rel => exact ⟨HG3, hz3, _, Or.inr (Or.inr ⟨rfl, rfl⟩), by rw [HS1.out, HD.out]; exact swEq HL3.out (by have hR := HR.out; simp only [swBx, swLs, if_pos, pushQ, Bool.not_false, Bool.not_true, Bool.and_true, Bool.true_and, Bool.and_false, Bool.false_and, Bool.and_self]; first | (rw [hR]; rfl) | rfl)⟩
              case measure => simp [intOf]
    · have HB := Lib.hid hB
      clear hB
      go_wp2
      go_end0
      exact ⟨rfl, HB.out, HG.out⟩
end Go.Proofs.Ytmhbgpappjfolaa
