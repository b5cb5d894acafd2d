/- A window slides on by one tick. -/
import Derived.Test.YtafecdmcbpnniabDoorWin
namespace Go.Proofs.YtafecdmcbpnniabDoor
open Go.RowKit
set_option linter.unusedVariables false

/-- a window of T ticks, behind the ticks ahead of k -/
def WinK (cs : Array Value) (T k : Nat) (m : Nat → Bool) : Prop := ∃ arr, WinV cs T (lastC m T k) (k % T) arr ∧ RingB T k m arr
def WinAt (w : World) (b T k : Nat) (m : Nat → Bool) : Prop := ∃ cs, WinBlk w b cs ∧ WinK cs T k m
theorem WinK.start (T : Nat) (m : Nat → Bool) : WinK (winC T 0 0 (fun _ => false)) T 0 m := by
  refine ⟨fun _ => false, ?_, RingB.start T m⟩
  have e : lastC m T 0 = 0 := by unfold lastC; simp [cntN]
  rw [e, Nat.zero_mod]
  exact winC_is T 0 0 _
theorem WinAt.below {w w' : World} {b T k N : Nat} {m : Nat → Bool} (h : WinAt w b T k m) (hb : Below N w w') (hN : b < N) : WinAt w' b T k m := by
  obtain ⟨cs, h1, h2⟩ := h
  exact ⟨cs, (hb.block b hN).trans h1, h2⟩
theorem WinAt.same {w w' : World} {b T k : Nat} {m : Nat → Bool} (h : WinAt w b T k m) (hb : w'.heap[b]? = w.heap[b]?) : WinAt w' b T k m := by
  obtain ⟨cs, h1, h2⟩ := h
  exact ⟨cs, hb.trans h1, h2⟩
theorem grown_set (W : World) (b j : Nat) (v : Value) : W.grownBy (W.setCell ⟨b, j, none⟩ v) (some b) :=
  ⟨rfl, rfl, rfl, by simp [World.setCell], fun k _ hne => Below.heap_setCell _ _ _ _ (fun e => hne (by simp [e]))⟩
theorem grown_trans {A B C : World} {r : Option Nat} (h : A.grownBy B r) (h2 : B.grownBy C r) : A.grownBy C r :=
  ⟨h2.os.trans h.os, h2.tape.trans h.tape, h2.output.trans h.output, Nat.le_trans h.size h2.size, fun k hk hne => (h2.block k (Nat.lt_of_lt_of_le hk h.size) hne).trans (h.block k hk hne)⟩
theorem grown_below {A B : World} (h : Below A.heap.size A B) (r : Option Nat) : A.grownBy B r :=
  ⟨h.os, h.tape, h.output, h.size, fun k hk _ => h.block k hk⟩
theorem grown_drew {A B : World} {r : Option Nat} (h : A.grownBy B r) (n : Nat) : A.grownBy (B.drewN n) r := ⟨h.os, h.tape, h.output, h.size, h.block⟩
/-- what a slide leaves -/
def SlideR (w : World) (b T k : Nat) (m : Nat → Bool) (e : Ending) (w' : World) : Prop := e = .returned (.tuple #[]) ∧ WinAt w' b T k m ∧ w.grownBy w' (some b)

set_option maxHeartbeats 1000000 in
set_option maxRecDepth 100000 in
theorem slide_any (b T k : Nat) (m : Nat → Bool) (x : Bool) (hx : m k = x) (w : World) (hT : 1 ≤ T) (hT2 : T ≤ 50) (h : WinAt w b T k m) :
    Calls Tryd.prog 33 #[.pointer (some ⟨b, 0, none⟩), .bool x] w fun e w' => SlideR w b T (k + 1) m e w' := by
  obtain ⟨cs, hb, arr, hv, hr⟩ := h
  have hsz := hb.lt
  have hmod : k % T < T := Nat.mod_lt _ (by omega)
  have hold := hr.old hT
  have hlast := lastC_le m T k
  have hsucc := lastC_succ m T k hT
  have hadd := restC_add m T k hT
  have hrest : lastC m T k - (if arr (k % T) then 1 else 0) = restC m T k := by
    unfold restC
    rw [hold]
    by_cases h1 : T ≤ k ∧ m (k - T) = true
    · rw [if_pos h1, decide_eq_true h1.1, h1.2]; rfl
    · rw [if_neg h1]
      have : (decide (T ≤ k) && m (k - T)) = false := by
        cases hq : m (k - T) with
        | false => simp
        | true => simp; rcases Nat.lt_or_ge k T with h3 | h3; exact h3; exact absurd ⟨h3, hq⟩ h1
      rw [this]; rfl
  have hone : arr (k % T) = true → 1 ≤ lastC m T k := by
    intro q
    rw [hold] at q
    have : T ≤ k ∧ m (k - T) = true := by simpa using q
    rw [if_pos this] at hadd; omega
  have hle2 := lastC_le m T (k + 1)
  have hld := hb.load hv.size
  have HR := Lib.hid (fun w => rest_any cs T (lastC m T k) (k % T) arr w hv (by omega) (by omega) hone)
  rw [hrest] at HR
  rw [hx] at hsucc
  obtain ⟨r, hrr⟩ : ∃ r, restC m T k = r := ⟨_, rfl⟩
  rw [hrr] at HR hsucc
  obtain ⟨o, hoo⟩ : ∃ o, k % T = o := ⟨_, rfl⟩
  have hnext : (o + 1) % T = (k + 1) % T := by rw [← hoo]; exact ring_next k T
  have hstep := hr.step hT
  rw [hoo] at hv hmod hstep
  have HV := Lib.hid hv
  have HST := Lib.hid hstep
  have HSU := Lib.hid hsucc
  have HNX := Lib.hid hnext
  have HB := Lib.hid hb
  clear hr hold hadd hrest hone hb hstep hsucc hnext hv hrr
  have hr50 : r ≤ 50 := by have := HSU.out; omega
  have HZ := Lib.hid HV.out.size
  have ho50 : o < 50 := by omega
  have hoI : (o : Int) < 50 := by omega
  have hne1 : ¬ (2 + o = 52) := by omega
  have hne2 : ¬ (52 = 2 + o) := by omega
  have hw1 : IntKind.i64.wrap ((r : Int) + 1) = ((r + 1 : Nat) : Int) := by rw [IntWalk.i64_in _ (by omega)]; omega
  have hw2 : IntKind.i64.wrap ((o : Int) + 1) = ((o + 1 : Nat) : Int) := by rw [IntWalk.i64_in _ (by omega)]; omega
  have ht0 : ((T : Int) == 0) = false := by simp; omega
  have ht1 : Int.tmod (((o + 1 : Nat) : Int)) (T : Int) = (((k + 1) % T : Nat) : Int) := by rw [← HNX.out]; rfl
  have ht2 : IntKind.i64.wrap (((k + 1) % T : Nat) : Int) = (((k + 1) % T : Nat) : Int) := by
    have := Nat.mod_lt (k + 1) (show T > 0 by omega)
    exact IntWalk.i64_in _ (by omega)
  obtain ⟨o2, ho2⟩ : ∃ x, (k + 1) % T = x := ⟨_, rfl⟩
  rw [ho2] at ht1 ht2 HNX
  have HO2 := Lib.hid ho2
  clear ho2
  have HZ1 : Hid (((o : Int) + 1) % (T : Int) = (o2 : Int) ∧ ((r : Int) + 1 = ((r + 1 : Nat) : Int))) := ⟨by have e := HNX.out; rw [← e]; rfl, by omega⟩
  cases x with
  | true =>
    go_enter Tryd.func33, Tryd.ntmps33
    go_wp2_with (refine wpList_load_win rfl _ rfl b rfl cs HB.out HZ.out ?_)
    refine (HR.out _).mono ?_; rintro e w1 ⟨rfl, b1⟩
    have hb1 : WinBlk w1 b cs := (b1.block b hsz).trans HB.out
    have HG1 := Lib.hid (grown_below b1 (some b))
    have f1 : w1.frozen? ⟨b, 1, none⟩ = false := hb1.frozen 1
    have f52 : w1.frozen? ⟨b, 52, none⟩ = false := hb1.frozen 52
    have fm : w1.frozen? ⟨b, 2 + o, none⟩ = false := hb1.frozen (2 + o)
    have c1 : w1.cell? ⟨b, 1, none⟩ = some (.int .i64 ((lastC m T k : Nat) : Int)) := by rw [hb1.cell]; exact HV.out.c1
    have c0 : w1.cell? ⟨b, 0, none⟩ = some (.int .i64 (T : Int)) := by rw [hb1.cell]; exact HV.out.c0
    have c52 : w1.cell? ⟨b, 52, none⟩ = some (.int .i64 (o : Int)) := by rw [hb1.cell]; exact HV.out.c52
    have cm : w1.cell? ⟨b, 2 + o, none⟩ = some (.bool (arr o)) := by rw [hb1.cell]; exact HV.out.oldAt ho50
    have HB1 := Lib.hid hb1
    clear hb1 b1 hld
    go_wp2
    go_region
    all_goals
      go_wp2
      go_region
      all_goals
        go_wp2
        go_end0
        obtain ⟨hz1, hz2⟩ := HZ1.out
        refine ⟨rfl, ?_, ?_⟩
        · refine ⟨_, (((HB1.out.set 1 _).set 1 _).set (2 + o) _).set 52 _, _, ?_, HST.out⟩
          rw [HSU.out, HO2.out, hx, hz1, hz2, if_pos trivial]
          exact (((HV.out.setMk r).setMk (r + 1)).setAt o ho50 true).setOld o2
        · repeat' first | exact HG1.out | (refine grown_drew ?_ _) | (refine grown_trans ?_ (grown_set _ b _ _))
  | false =>
    go_enter Tryd.func33, Tryd.ntmps33
    go_wp2_with (refine wpList_load_win rfl _ rfl b rfl cs HB.out HZ.out ?_)
    refine (HR.out _).mono ?_; rintro e w1 ⟨rfl, b1⟩
    have hb1 : WinBlk w1 b cs := (b1.block b hsz).trans HB.out
    have HG1 := Lib.hid (grown_below b1 (some b))
    have f1 : w1.frozen? ⟨b, 1, none⟩ = false := hb1.frozen 1
    have f52 : w1.frozen? ⟨b, 52, none⟩ = false := hb1.frozen 52
    have fm : w1.frozen? ⟨b, 2 + o, none⟩ = false := hb1.frozen (2 + o)
    have c1 : w1.cell? ⟨b, 1, none⟩ = some (.int .i64 ((lastC m T k : Nat) : Int)) := by rw [hb1.cell]; exact HV.out.c1
    have c0 : w1.cell? ⟨b, 0, none⟩ = some (.int .i64 (T : Int)) := by rw [hb1.cell]; exact HV.out.c0
    have c52 : w1.cell? ⟨b, 52, none⟩ = some (.int .i64 (o : Int)) := by rw [hb1.cell]; exact HV.out.c52
    have cm : w1.cell? ⟨b, 2 + o, none⟩ = some (.bool (arr o)) := by rw [hb1.cell]; exact HV.out.oldAt ho50
    have HB1 := Lib.hid hb1
    clear hb1 b1 hld
    go_wp2
    go_region
    all_goals
      go_wp2
      go_region
      all_goals
        go_wp2
        go_end0
        obtain ⟨hz1, hz2⟩ := HZ1.out
        refine ⟨rfl, ?_, ?_⟩
        · refine ⟨_, ((HB1.out.set 1 _).set (2 + o) _).set 52 _, _, ?_, HST.out⟩
          rw [HSU.out, HO2.out, hx, hz1, if_neg (by simp), Nat.add_zero]
          exact ((HV.out.setMk r).setAt o ho50 false).setOld o2
        · repeat' first | exact HG1.out | (refine grown_drew ?_ _) | (refine grown_trans ?_ (grown_set _ b _ _))
end Go.Proofs.YtafecdmcbpnniabDoor
