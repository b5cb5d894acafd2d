/- A reset that ends with a clock: the program's side. -/
import Derived.Test.YtmhbgpappjfolaaFollow
namespace Go.Proofs.Ytmhbgpappjfolaa
open Go.RowKit Go.Shelf
set_option linter.unusedVariables false

/-- a reset at work: its follower's level, its stages, those that are left -/
def RelAt (w : World) (p : Nat) (y : Bool) (st left : Nat) : Prop :=
  w.cell? ⟨p, 0, none⟩ = some (.bool y) ∧ w.cell? ⟨p, 1, none⟩ = some (.int .i64 (st : Int)) ∧ w.cell? ⟨p, 2, none⟩ = some (.int .i64 (left : Int)) ∧ (w.frozen? ⟨p, 0, none⟩ = false ∧ w.frozen? ⟨p, 2, none⟩ = false)
def relNext (y x r : Bool) (st left : Nat) : Nat := if r then st else if (!y && x) && decide (0 < left) then left - 1 else left
theorem RelAt.below {w w' : World} {p B st left : Nat} {y : Bool} (h : RelAt w p y st left) (hb : Below B w w') (hp : p < B) : RelAt w' p y st left :=
  ⟨(hb.cell (p := ⟨p, 0, none⟩) hp).trans h.1, (hb.cell (p := ⟨p, 1, none⟩) hp).trans h.2.1, (hb.cell (p := ⟨p, 2, none⟩) hp).trans h.2.2.1, (hb.frozen (p := ⟨p, 0, none⟩) hp).trans h.2.2.2.1, (hb.frozen (p := ⟨p, 2, none⟩) hp).trans h.2.2.2.2⟩
def IsOnR (p : Nat) (y x r : Bool) (st left : Nat) (w : World) (e : Ending) (w' : World) : Prop :=
  e = .returned (.bool (decide (0 < relNext y x r st left))) ∧ RelAt w' p x st (relNext y x r st left) ∧ w.grownBy w' (some p)
theorem grown_set2 (w : World) (p i j n : Nat) (u v : Value) : w.grownBy (((w.drewN n).setCell ⟨p, i, none⟩ u).setCell ⟨p, j, none⟩ v) (some p) :=
  ⟨rfl, rfl, rfl, by simp, fun k hk hne => by
    rw [Below.heap_setCell _ _ _ _ (by show k ≠ p; intro e; exact hne (by rw [e])), Below.heap_setCell _ _ _ _ (by show k ≠ p; intro e; exact hne (by rw [e]))]; rfl⟩
theorem grown_set1 (w : World) (p i n : Nat) (u : Value) : w.grownBy ((w.drewN n).setCell ⟨p, i, none⟩ u) (some p) :=
  ⟨rfl, rfl, rfl, by simp, fun k hk hne => by
    rw [Below.heap_setCell _ _ _ _ (by show k ≠ p; intro e; exact hne (by rw [e]))]; rfl⟩
theorem grown_then {w W : World} {p : Nat} (h : w.grownBy W (some p)) (i : Nat) (v : Value) : w.grownBy (W.setCell ⟨p, i, none⟩ v) (some p) :=
  ⟨h.os, h.tape, h.output, by simpa using h.size, fun k hk hne => (Below.heap_setCell _ _ _ _ (by show k ≠ p; intro e; exact hne (by rw [e]))).trans (h.block k hk hne)⟩
set_option maxHeartbeats 1000000 in
theorem isOn_fff (p st left : Nat) (w : World) (hst : 1 ≤ st) (hs4 : st ≤ 4) (hl : left ≤ st) (h : RelAt w p false st left) :
    Calls Try.prog 79 #[.pointer (some ⟨p, 0, none⟩), .bool false, .bool false] w fun e w' => IsOnR p false false false st left w e w' := by
  obtain ⟨c0, c1, c2, f0, f2⟩ := h
  have hn : relNext false false false st left = left := by simp [relNext]
  have HN := Lib.hid hn
  clear hn
  go_enter Try.func79, Try.ntmps79
  go_wp2_with fail
  refine (follow_any p 0 false false w c0 f0).mono ?_; rintro e w1 ⟨rfl, n, rfl⟩
  have d0 : ((w.drewN n).setCell ⟨p, 0, none⟩ (.bool false)).cell? ⟨p, 0, none⟩ = some (.bool false) := by simp [go_sem, c0]
  have d1 : ((w.drewN n).setCell ⟨p, 0, none⟩ (.bool false)).cell? ⟨p, 1, none⟩ = some (.int .i64 (st : Int)) := by simp [go_sem, c1]
  have d2 : ((w.drewN n).setCell ⟨p, 0, none⟩ (.bool false)).cell? ⟨p, 2, none⟩ = some (.int .i64 (left : Int)) := by simp [go_sem, c2]
  have g0 : ((w.drewN n).setCell ⟨p, 0, none⟩ (.bool false)).frozen? ⟨p, 0, none⟩ = false := by simp [go_sem, f0]
  have g2 : ((w.drewN n).setCell ⟨p, 0, none⟩ (.bool false)).frozen? ⟨p, 2, none⟩ = false := by simp [go_sem, f2]
  obtain ⟨W1, hW1⟩ : ∃ W, (w.drewN n).setCell ⟨p, 0, none⟩ (.bool false) = W := ⟨_, rfl⟩
  rw [hW1] at d0 d1 d2 g0 g2
  have HG := Lib.hid (grown_set1 w p 0 n (.bool false))
  rw [hW1] at HG
  clear c0 c1 c2 f0 f2
  by_cases hm : 0 < left
  · have hm2 : (0 : Int) < (left : Int) := by omega
    go_wp2
    go_ret
    exact ⟨by rw [HN.out]; simp [hm], by rw [HN.out]; exact ⟨d0, d1, d2, g0, g2⟩, HG.out⟩
  · have hm2 : ¬ (0 : Int) < (left : Int) := by omega
    go_wp2
    go_ret
    exact ⟨by rw [HN.out]; simp [hm], by rw [HN.out]; exact ⟨d0, d1, d2, g0, g2⟩, HG.out⟩
set_option maxHeartbeats 1000000 in
theorem isOn_fft (p st left : Nat) (w : World) (hst : 1 ≤ st) (hs4 : st ≤ 4) (hl : left ≤ st) (h : RelAt w p false st left) :
    Calls Try.prog 79 #[.pointer (some ⟨p, 0, none⟩), .bool false, .bool true] w fun e w' => IsOnR p false false true st left w e w' := by
  obtain ⟨c0, c1, c2, f0, f2⟩ := h
  have hp : (0 : Int) < (st : Int) := by omega
  have hpd : decide (0 < st) = true := decide_eq_true (by omega)
  go_enter Try.func79, Try.ntmps79
  go_wp2_with fail
  refine (follow_any p 0 false false w c0 f0).mono ?_; rintro e w1 ⟨rfl, n, rfl⟩
  have d0 : ((w.drewN n).setCell ⟨p, 0, none⟩ (.bool false)).cell? ⟨p, 0, none⟩ = some (.bool false) := by simp [go_sem, c0]
  have d1 : ((w.drewN n).setCell ⟨p, 0, none⟩ (.bool false)).cell? ⟨p, 1, none⟩ = some (.int .i64 (st : Int)) := by simp [go_sem, c1]
  have d2 : ((w.drewN n).setCell ⟨p, 0, none⟩ (.bool false)).cell? ⟨p, 2, none⟩ = some (.int .i64 (left : Int)) := by simp [go_sem, c2]
  have g0 : ((w.drewN n).setCell ⟨p, 0, none⟩ (.bool false)).frozen? ⟨p, 0, none⟩ = false := by simp [go_sem, f0]
  have g2 : ((w.drewN n).setCell ⟨p, 0, none⟩ (.bool false)).frozen? ⟨p, 2, none⟩ = false := by simp [go_sem, f2]
  obtain ⟨W1, hW1⟩ : ∃ W, (w.drewN n).setCell ⟨p, 0, none⟩ (.bool false) = W := ⟨_, rfl⟩
  rw [hW1] at d0 d1 d2 g0 g2
  have HG := Lib.hid (grown_set1 w p 0 n (.bool false))
  rw [hW1] at HG
  clear c0 c1 c2 f0 f2
  go_wp2
  go_ret
  refine ⟨?_, ⟨?_, ?_, ?_, ?_, ?_⟩, ?_⟩
  · simp [relNext, hpd]
  · simp [go_sem, d0]
  · simp [go_sem, d1]
  · simp [go_sem, d2, relNext]
  · simpa [go_sem] using g0
  · simpa [go_sem] using g2
  · exact grown_then HG.out _ _
set_option maxHeartbeats 1000000 in
theorem isOn_ftf (p st left : Nat) (w : World) (hst : 1 ≤ st) (hs4 : st ≤ 4) (hl : left ≤ st) (h : RelAt w p false st left) :
    Calls Try.prog 79 #[.pointer (some ⟨p, 0, none⟩), .bool true, .bool false] w fun e w' => IsOnR p false true false st left w e w' := by
  obtain ⟨c0, c1, c2, f0, f2⟩ := h
  by_cases hl0 : left = 0
  · subst hl0
    go_enter Try.func79, Try.ntmps79
    go_wp2_with fail
    refine (follow_any p 0 false true w c0 f0).mono ?_; rintro e w1 ⟨rfl, n, rfl⟩
    have d0 : ((w.drewN n).setCell ⟨p, 0, none⟩ (.bool true)).cell? ⟨p, 0, none⟩ = some (.bool true) := by simp [go_sem, c0]
    have d1 : ((w.drewN n).setCell ⟨p, 0, none⟩ (.bool true)).cell? ⟨p, 1, none⟩ = some (.int .i64 (st : Int)) := by simp [go_sem, c1]
    have d2 : ((w.drewN n).setCell ⟨p, 0, none⟩ (.bool true)).cell? ⟨p, 2, none⟩ = some (.int .i64 (0 : Int)) := by simp [go_sem, c2]
    have g0 : ((w.drewN n).setCell ⟨p, 0, none⟩ (.bool true)).frozen? ⟨p, 0, none⟩ = false := by simp [go_sem, f0]
    have g2 : ((w.drewN n).setCell ⟨p, 0, none⟩ (.bool true)).frozen? ⟨p, 2, none⟩ = false := by simp [go_sem, f2]
    obtain ⟨W1, hW1⟩ : ∃ W, (w.drewN n).setCell ⟨p, 0, none⟩ (.bool true) = W := ⟨_, rfl⟩
    rw [hW1] at d0 d1 d2 g0 g2
    have HG := Lib.hid (grown_set1 w p 0 n (.bool true))
    rw [hW1] at HG
    clear c0 c1 c2 f0 f2
    go_wp2
    go_ret
    exact ⟨rfl, ⟨d0, d1, d2, g0, g2⟩, HG.out⟩
  · obtain ⟨m, rfl⟩ : ∃ m, left = m + 1 := ⟨left - 1, by omega⟩
    have hp : (0 : Int) < ((m + 1 : Nat) : Int) := by omega
    have hw1 : IntKind.i64.wrap (((m + 1 : Nat) : Int) - 1) = (m : Int) := by rw [show ((m + 1 : Nat) : Int) - 1 = (m : Int) by omega]; exact IntWalk.i64_in _ (by omega)
    have hn : relNext false true false st (m + 1) = m := by simp [relNext]
    have HN := Lib.hid hn
    clear hn
    obtain ⟨L, hL⟩ : ∃ L : Int, ((m + 1 : Nat) : Int) = L := ⟨_, rfl⟩
    rw [hL] at c2 hp hw1
    clear hL
    go_enter Try.func79, Try.ntmps79
    go_wp2_with fail
    refine (follow_any p 0 false true w c0 f0).mono ?_; rintro e w1 ⟨rfl, n, rfl⟩
    have d0 : ((w.drewN n).setCell ⟨p, 0, none⟩ (.bool true)).cell? ⟨p, 0, none⟩ = some (.bool true) := by simp [go_sem, c0]
    have d1 : ((w.drewN n).setCell ⟨p, 0, none⟩ (.bool true)).cell? ⟨p, 1, none⟩ = some (.int .i64 (st : Int)) := by simp [go_sem, c1]
    have d2 : ((w.drewN n).setCell ⟨p, 0, none⟩ (.bool true)).cell? ⟨p, 2, none⟩ = some (.int .i64 L) := by simp [go_sem, c2]
    have g0 : ((w.drewN n).setCell ⟨p, 0, none⟩ (.bool true)).frozen? ⟨p, 0, none⟩ = false := by simp [go_sem, f0]
    have g2 : ((w.drewN n).setCell ⟨p, 0, none⟩ (.bool true)).frozen? ⟨p, 2, none⟩ = false := by simp [go_sem, f2]
    obtain ⟨W1, hW1⟩ : ∃ W, (w.drewN n).setCell ⟨p, 0, none⟩ (.bool true) = W := ⟨_, rfl⟩
    rw [hW1] at d0 d1 d2 g0 g2
    have HG := Lib.hid (grown_set1 w p 0 n (.bool true))
    rw [hW1] at HG
    clear c0 c1 c2 f0 f2
    by_cases hm : 0 < m
    · have hm2 : (0 : Int) < (m : Int) := by omega
      go_wp2
      go_ret
      refine ⟨?_, ⟨?_, ?_, ?_, ?_, ?_⟩, ?_⟩
      · rw [HN.out]; simp [hm]
      · simp [go_sem, d0]
      · simp [go_sem, d1]
      · rw [HN.out]; simp [go_sem, d2]
      · simpa [go_sem] using g0
      · simpa [go_sem] using g2
      · exact grown_then HG.out _ _
    · have hm2 : ¬ (0 : Int) < (m : Int) := by omega
      go_wp2
      go_ret
      refine ⟨?_, ⟨?_, ?_, ?_, ?_, ?_⟩, ?_⟩
      · rw [HN.out]; simp [hm]
      · simp [go_sem, d0]
      · simp [go_sem, d1]
      · rw [HN.out]; simp [go_sem, d2]
      · simpa [go_sem] using g0
      · simpa [go_sem] using g2
      · exact grown_then HG.out _ _
set_option maxHeartbeats 1000000 in
theorem isOn_ftt (p st left : Nat) (w : World) (hst : 1 ≤ st) (hs4 : st ≤ 4) (hl : left ≤ st) (h : RelAt w p false st left) :
    Calls Try.prog 79 #[.pointer (some ⟨p, 0, none⟩), .bool true, .bool true] w fun e w' => IsOnR p false true true st left w e w' := by
  obtain ⟨c0, c1, c2, f0, f2⟩ := h
  have hp : (0 : Int) < (st : Int) := by omega
  have hpd : decide (0 < st) = true := decide_eq_true (by omega)
  go_enter Try.func79, Try.ntmps79
  go_wp2_with fail
  refine (follow_any p 0 false true w c0 f0).mono ?_; rintro e w1 ⟨rfl, n, rfl⟩
  have d0 : ((w.drewN n).setCell ⟨p, 0, none⟩ (.bool true)).cell? ⟨p, 0, none⟩ = some (.bool true) := by simp [go_sem, c0]
  have d1 : ((w.drewN n).setCell ⟨p, 0, none⟩ (.bool true)).cell? ⟨p, 1, none⟩ = some (.int .i64 (st : Int)) := by simp [go_sem, c1]
  have d2 : ((w.drewN n).setCell ⟨p, 0, none⟩ (.bool true)).cell? ⟨p, 2, none⟩ = some (.int .i64 (left : Int)) := by simp [go_sem, c2]
  have g0 : ((w.drewN n).setCell ⟨p, 0, none⟩ (.bool true)).frozen? ⟨p, 0, none⟩ = false := by simp [go_sem, f0]
  have g2 : ((w.drewN n).setCell ⟨p, 0, none⟩ (.bool true)).frozen? ⟨p, 2, none⟩ = false := by simp [go_sem, f2]
  obtain ⟨W1, hW1⟩ : ∃ W, (w.drewN n).setCell ⟨p, 0, none⟩ (.bool true) = W := ⟨_, rfl⟩
  rw [hW1] at d0 d1 d2 g0 g2
  have HG := Lib.hid (grown_set1 w p 0 n (.bool true))
  rw [hW1] at HG
  clear c0 c1 c2 f0 f2
  go_wp2
  go_ret
  refine ⟨?_, ⟨?_, ?_, ?_, ?_, ?_⟩, ?_⟩
  · simp [relNext, hpd]
  · simp [go_sem, d0]
  · simp [go_sem, d1]
  · simp [go_sem, d2, relNext]
  · simpa [go_sem] using g0
  · simpa [go_sem] using g2
  · exact grown_then HG.out _ _
set_option maxHeartbeats 1000000 in
theorem isOn_tff (p st left : Nat) (w : World) (hst : 1 ≤ st) (hs4 : st ≤ 4) (hl : left ≤ st) (h : RelAt w p true st left) :
    Calls Try.prog 79 #[.pointer (some ⟨p, 0, none⟩), .bool false, .bool false] w fun e w' => IsOnR p true false false st left w e w' := by
  obtain ⟨c0, c1, c2, f0, f2⟩ := h
  have hn : relNext true false false st left = left := by simp [relNext]
  have HN := Lib.hid hn
  clear hn
  go_enter Try.func79, Try.ntmps79
  go_wp2_with fail
  refine (follow_any p 0 true false w c0 f0).mono ?_; rintro e w1 ⟨rfl, n, rfl⟩
  have d0 : ((w.drewN n).setCell ⟨p, 0, none⟩ (.bool false)).cell? ⟨p, 0, none⟩ = some (.bool false) := by simp [go_sem, c0]
  have d1 : ((w.drewN n).setCell ⟨p, 0, none⟩ (.bool false)).cell? ⟨p, 1, none⟩ = some (.int .i64 (st : Int)) := by simp [go_sem, c1]
  have d2 : ((w.drewN n).setCell ⟨p, 0, none⟩ (.bool false)).cell? ⟨p, 2, none⟩ = some (.int .i64 (left : Int)) := by simp [go_sem, c2]
  have g0 : ((w.drewN n).setCell ⟨p, 0, none⟩ (.bool false)).frozen? ⟨p, 0, none⟩ = false := by simp [go_sem, f0]
  have g2 : ((w.drewN n).setCell ⟨p, 0, none⟩ (.bool false)).frozen? ⟨p, 2, none⟩ = false := by simp [go_sem, f2]
  obtain ⟨W1, hW1⟩ : ∃ W, (w.drewN n).setCell ⟨p, 0, none⟩ (.bool false) = W := ⟨_, rfl⟩
  rw [hW1] at d0 d1 d2 g0 g2
  have HG := Lib.hid (grown_set1 w p 0 n (.bool false))
  rw [hW1] at HG
  clear c0 c1 c2 f0 f2
  by_cases hm : 0 < left
  · have hm2 : (0 : Int) < (left : Int) := by omega
    go_wp2
    go_ret
    exact ⟨by rw [HN.out]; simp [hm], by rw [HN.out]; exact ⟨d0, d1, d2, g0, g2⟩, HG.out⟩
  · have hm2 : ¬ (0 : Int) < (left : Int) := by omega
    go_wp2
    go_ret
    exact ⟨by rw [HN.out]; simp [hm], by rw [HN.out]; exact ⟨d0, d1, d2, g0, g2⟩, HG.out⟩
set_option maxHeartbeats 1000000 in
theorem isOn_tft (p st left : Nat) (w : World) (hst : 1 ≤ st) (hs4 : st ≤ 4) (hl : left ≤ st) (h : RelAt w p true st left) :
    Calls Try.prog 79 #[.pointer (some ⟨p, 0, none⟩), .bool false, .bool true] w fun e w' => IsOnR p true false true st left w e w' := by
  obtain ⟨c0, c1, c2, f0, f2⟩ := h
  have hp : (0 : Int) < (st : Int) := by omega
  have hpd : decide (0 < st) = true := decide_eq_true (by omega)
  go_enter Try.func79, Try.ntmps79
  go_wp2_with fail
  refine (follow_any p 0 true false w c0 f0).mono ?_; rintro e w1 ⟨rfl, n, rfl⟩
  have d0 : ((w.drewN n).setCell ⟨p, 0, none⟩ (.bool false)).cell? ⟨p, 0, none⟩ = some (.bool false) := by simp [go_sem, c0]
  have d1 : ((w.drewN n).setCell ⟨p, 0, none⟩ (.bool false)).cell? ⟨p, 1, none⟩ = some (.int .i64 (st : Int)) := by simp [go_sem, c1]
  have d2 : ((w.drewN n).setCell ⟨p, 0, none⟩ (.bool false)).cell? ⟨p, 2, none⟩ = some (.int .i64 (left : Int)) := by simp [go_sem, c2]
  have g0 : ((w.drewN n).setCell ⟨p, 0, none⟩ (.bool false)).frozen? ⟨p, 0, none⟩ = false := by simp [go_sem, f0]
  have g2 : ((w.drewN n).setCell ⟨p, 0, none⟩ (.bool false)).frozen? ⟨p, 2, none⟩ = false := by simp [go_sem, f2]
  obtain ⟨W1, hW1⟩ : ∃ W, (w.drewN n).setCell ⟨p, 0, none⟩ (.bool false) = W := ⟨_, rfl⟩
  rw [hW1] at d0 d1 d2 g0 g2
  have HG := Lib.hid (grown_set1 w p 0 n (.bool false))
  rw [hW1] at HG
  clear c0 c1 c2 f0 f2
  go_wp2
  go_ret
  refine ⟨?_, ⟨?_, ?_, ?_, ?_, ?_⟩, ?_⟩
  · simp [relNext, hpd]
  · simp [go_sem, d0]
  · simp [go_sem, d1]
  · simp [go_sem, d2, relNext]
  · simpa [go_sem] using g0
  · simpa [go_sem] using g2
  · exact grown_then HG.out _ _
set_option maxHeartbeats 1000000 in
theorem isOn_ttf (p st left : Nat) (w : World) (hst : 1 ≤ st) (hs4 : st ≤ 4) (hl : left ≤ st) (h : RelAt w p true st left) :
    Calls Try.prog 79 #[.pointer (some ⟨p, 0, none⟩), .bool true, .bool false] w fun e w' => IsOnR p true true false st left w e w' := by
  obtain ⟨c0, c1, c2, f0, f2⟩ := h
  have hn : relNext true true false st left = left := by simp [relNext]
  have HN := Lib.hid hn
  clear hn
  go_enter Try.func79, Try.ntmps79
  go_wp2_with fail
  refine (follow_any p 0 true true w c0 f0).mono ?_; rintro e w1 ⟨rfl, n, rfl⟩
  have d0 : ((w.drewN n).setCell ⟨p, 0, none⟩ (.bool true)).cell? ⟨p, 0, none⟩ = some (.bool true) := by simp [go_sem, c0]
  have d1 : ((w.drewN n).setCell ⟨p, 0, none⟩ (.bool true)).cell? ⟨p, 1, none⟩ = some (.int .i64 (st : Int)) := by simp [go_sem, c1]
  have d2 : ((w.drewN n).setCell ⟨p, 0, none⟩ (.bool true)).cell? ⟨p, 2, none⟩ = some (.int .i64 (left : Int)) := by simp [go_sem, c2]
  have g0 : ((w.drewN n).setCell ⟨p, 0, none⟩ (.bool true)).frozen? ⟨p, 0, none⟩ = false := by simp [go_sem, f0]
  have g2 : ((w.drewN n).setCell ⟨p, 0, none⟩ (.bool true)).frozen? ⟨p, 2, none⟩ = false := by simp [go_sem, f2]
  obtain ⟨W1, hW1⟩ : ∃ W, (w.drewN n).setCell ⟨p, 0, none⟩ (.bool true) = W := ⟨_, rfl⟩
  rw [hW1] at d0 d1 d2 g0 g2
  have HG := Lib.hid (grown_set1 w p 0 n (.bool true))
  rw [hW1] at HG
  clear c0 c1 c2 f0 f2
  by_cases hm : 0 < left
  · have hm2 : (0 : Int) < (left : Int) := by omega
    go_wp2
    go_ret
    exact ⟨by rw [HN.out]; simp [hm], by rw [HN.out]; exact ⟨d0, d1, d2, g0, g2⟩, HG.out⟩
  · have hm2 : ¬ (0 : Int) < (left : Int) := by omega
    go_wp2
    go_ret
    exact ⟨by rw [HN.out]; simp [hm], by rw [HN.out]; exact ⟨d0, d1, d2, g0, g2⟩, HG.out⟩
set_option maxHeartbeats 1000000 in
theorem isOn_ttt (p st left : Nat) (w : World) (hst : 1 ≤ st) (hs4 : st ≤ 4) (hl : left ≤ st) (h : RelAt w p true st left) :
    Calls Try.prog 79 #[.pointer (some ⟨p, 0, none⟩), .bool true, .bool true] w fun e w' => IsOnR p true true true st left w e w' := by
  obtain ⟨c0, c1, c2, f0, f2⟩ := h
  have hp : (0 : Int) < (st : Int) := by omega
  have hpd : decide (0 < st) = true := decide_eq_true (by omega)
  go_enter Try.func79, Try.ntmps79
  go_wp2_with fail
  refine (follow_any p 0 true true w c0 f0).mono ?_; rintro e w1 ⟨rfl, n, rfl⟩
  have d0 : ((w.drewN n).setCell ⟨p, 0, none⟩ (.bool true)).cell? ⟨p, 0, none⟩ = some (.bool true) := by simp [go_sem, c0]
  have d1 : ((w.drewN n).setCell ⟨p, 0, none⟩ (.bool true)).cell? ⟨p, 1, none⟩ = some (.int .i64 (st : Int)) := by simp [go_sem, c1]
  have d2 : ((w.drewN n).setCell ⟨p, 0, none⟩ (.bool true)).cell? ⟨p, 2, none⟩ = some (.int .i64 (left : Int)) := by simp [go_sem, c2]
  have g0 : ((w.drewN n).setCell ⟨p, 0, none⟩ (.bool true)).frozen? ⟨p, 0, none⟩ = false := by simp [go_sem, f0]
  have g2 : ((w.drewN n).setCell ⟨p, 0, none⟩ (.bool true)).frozen? ⟨p, 2, none⟩ = false := by simp [go_sem, f2]
  obtain ⟨W1, hW1⟩ : ∃ W, (w.drewN n).setCell ⟨p, 0, none⟩ (.bool true) = W := ⟨_, rfl⟩
  rw [hW1] at d0 d1 d2 g0 g2
  have HG := Lib.hid (grown_set1 w p 0 n (.bool true))
  rw [hW1] at HG
  clear c0 c1 c2 f0 f2
  go_wp2
  go_ret
  refine ⟨?_, ⟨?_, ?_, ?_, ?_, ?_⟩, ?_⟩
  · simp [relNext, hpd]
  · simp [go_sem, d0]
  · simp [go_sem, d1]
  · simp [go_sem, d2, relNext]
  · simpa [go_sem] using g0
  · simpa [go_sem] using g2
  · exact grown_then HG.out _ _
theorem isOn_any (p st left : Nat) (y x r : Bool) (w : World) (hst : 1 ≤ st) (hs4 : st ≤ 4) (hl : left ≤ st) (h : RelAt w p y st left) :
    Calls Try.prog 79 #[.pointer (some ⟨p, 0, none⟩), .bool x, .bool r] w fun e w' => IsOnR p y x r st left w e w' := by
  cases y <;> cases x <;> cases r
  · exact isOn_fff p st left w hst hs4 hl h
  · exact isOn_fft p st left w hst hs4 hl h
  · exact isOn_ftf p st left w hst hs4 hl h
  · exact isOn_ftt p st left w hst hs4 hl h
  · exact isOn_tff p st left w hst hs4 hl h
  · exact isOn_tft p st left w hst hs4 hl h
  · exact isOn_ttf p st left w hst hs4 hl h
  · exact isOn_ttt p st left w hst hs4 hl h
end Go.Proofs.Ytmhbgpappjfolaa
