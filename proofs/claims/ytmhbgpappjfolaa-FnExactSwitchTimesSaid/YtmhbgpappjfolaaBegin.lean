/- A switch as it is before the tick 0. -/
import Derived.Test.YtmhbgpappjfolaaTickW
import Derived.Test.YtmhbgpappjfolaaTwoB
namespace Go.Proofs.Ytmhbgpappjfolaa
open Go.RowKit Go.Shelf
set_option linter.unusedVariables false
theorem grown_setD {w W : World} {p : Nat} (h : w.grownBy W (some p)) (i : Nat) (v : Value) : w.grownBy (W.drew.setCell ⟨p, i, none⟩ v) (some p) :=
  grown_then (w := w) (W := W.drew) ⟨h.os, h.tape, h.output, h.size, h.block⟩ i v
def bg0 (n : Int) (k : Nat) : List Value := swLs n 0 ⟨true, false, (List.replicate k true ++ List.replicate (6 - k) false), List.replicate 6 false⟩ false false
theorem bg0_at (n : Int) (k : Nat) (h : k < 6) : (bg0 n k)[5 + k]? = some (.bool false) ∧ (bg0 n k).set (5 + k) (.bool true) = bg0 n (k + 1) ∧ 5 + k < (bg0 n k).length := by
  match k, h with
  | 0, _ => exact ⟨rfl, rfl, by show _ < 18; decide⟩
  | 1, _ => exact ⟨rfl, rfl, by show _ < 18; decide⟩
  | 2, _ => exact ⟨rfl, rfl, by show _ < 18; decide⟩
  | 3, _ => exact ⟨rfl, rfl, by show _ < 18; decide⟩
  | 4, _ => exact ⟨rfl, rfl, by show _ < 18; decide⟩
  | 5, _ => exact ⟨rfl, rfl, by show _ < 18; decide⟩
set_option maxHeartbeats 2000000 in
set_option maxRecDepth 100000 in
theorem begin_0 (n : Int) (w : World) :
    Calls Try.prog 67 #[.agg #[.int .i64 n, .int .i64 0]] w fun e w' => e = .returned (.pointer (some ⟨w.heap.size + 1, 0, none⟩)) ∧ SwBlk w' (w.heap.size + 1) (swLs n (chI false) (sw0 false) false false) ∧ Below w.heap.size w w' ∧ w.heap.size + 1 < w'.heap.size := by
  obtain ⟨w0, hw0⟩ : ∃ w0, (w.alloc (.cells #[.int .i64 n, .int .i64 0] 36)).alloc (.cells (swL n 0 false false false false false false false false false false false false false false false false).toArray 92) = w0 := ⟨_, rfl⟩
  have hb0 : Below w.heap.size w w0 := by rw [← hw0]; exact ((Below.refl _ _).alloc (Nat.le_refl _) _).alloc (by simp) _
  have hs0 : w.heap.size + 1 < w0.heap.size := by rw [← hw0]; simp
  have c0 : w0.cell? ⟨w.heap.size, 0, none⟩ = some (.int .i64 n) := by rw [← hw0]; simp [go_sem]
  have c1 : w0.cell? ⟨w.heap.size, 1, none⟩ = some (.int .i64 0) := by rw [← hw0]; simp [go_sem]
  have hB : SwBlk w0 (w.heap.size + 1) (swL n 0 false false false false false false false false false false false false false false false false) := by
    rw [← hw0]
    have := World.alloc_heap_new (w.alloc (.cells #[.int .i64 n, .int .i64 0] 36)) (.cells (swL n 0 false false false false false false false false false false false false false false false false).toArray 92)
    rw [World.size_alloc] at this; exact this
  have k0 : w0.drew.cell? ⟨w.heap.size + 1, 2, none⟩ = some (.bool false) := by rw [(show SwBlk w0.drew _ _ from hB).cell]; rfl
  have f0 : w0.drew.frozen? ⟨w.heap.size + 1, 2, none⟩ = false := (show SwBlk w0.drew _ _ from hB).frozen 2
  have k0' : w0.cell? ⟨w.heap.size + 1, 2, none⟩ = some (.bool false) := k0
  have f0' : w0.frozen? ⟨w.heap.size + 1, 2, none⟩ = false := f0
  have hB1 : SwBlk (w0.drew.setCell ⟨w.heap.size + 1, 2, none⟩ (.bool true)) (w.heap.size + 1) (bg0 n 0) := (show SwBlk w0.drew _ _ from hB).set 2 (.bool true) (by simp [swL])
  have HB1 := Lib.hid hB1
  have HB0 := Lib.hid hb0
  have hd : (w0.drew.setCell ⟨w.heap.size + 1, 2, none⟩ (.bool true)).cell? ⟨w.heap.size, 1, none⟩ = some (.int .i64 0) := by simp [go_sem, c1]
  have HD := Lib.hid hd
  clear hB hb0 hB1 hd
  go_enter Try.func67, Try.ntmps67
  go_wp2
  have hw0' : (w.alloc (.cells #[.int .i64 n, .int .i64 0] 36)).alloc (.cells #[.int .i64 n, .int .i64 0, .bool false, .bool false, .bool false, .bool false, .bool false, .bool false, .bool false, .bool false, .bool false, .bool false, .bool false, .bool false, .bool false, .bool false, .bool false, .bool false] 92) = w0 := hw0
  rw [hw0']
  clear hw0 hw0'
  go_region
  all_goals
    go_wp2
    go_loopw [4, 14] (fun _ i wr => ∃ k : Nat, k ≤ 6 ∧ i = .int .i64 k ∧ Hid (SwBlk wr (w.heap.size + 1) (bg0 n k)) ∧ Hid (Below w.heap.size w wr) ∧ w.heap.size + 1 < wr.heap.size ∧ Hid (wr.cell? ⟨w.heap.size, 1, none⟩ = some (.int .i64 0))) (fun _ i _ => 6 - (intOf i).toNat)
    case atStart => exact ⟨0, Nat.zero_le _, rfl, HB1, Lib.hid (HB0.out.drew.setCell (p := ⟨w.heap.size + 1, 2, none⟩) (Nat.le_succ _) _), by simpa using hs0, HD⟩
    case round =>
      obtain ⟨k, hk, rfl, HB, HBW, hsz, HC⟩ := hrel
      clear c0 c1 k0 k0' f0 f0'
      by_cases hlt : k < 6
      · have hlt2 : (k : Int) < 6 := by omega
        obtain ⟨a1, a2, a3⟩ := bg0_at n k hlt
        have hc := HC.out
        have g0 : wr.drew.cell? ⟨w.heap.size + 1, 5 + k, none⟩ = some (.bool false) := by rw [(show SwBlk wr.drew _ _ from HB.out).cell]; exact a1
        have g1 : wr.drew.frozen? ⟨w.heap.size + 1, 5 + k, none⟩ = false := (show SwBlk wr.drew _ _ from HB.out).frozen _
        have g0' : wr.cell? ⟨w.heap.size + 1, 5 + k, none⟩ = some (.bool false) := g0
        have g1' : wr.frozen? ⟨w.heap.size + 1, 5 + k, none⟩ = false := g1
        have h2 : SwBlk (wr.drew.setCell ⟨w.heap.size + 1, 5 + k, none⟩ (.bool true)) (w.heap.size + 1) (bg0 n (k + 1)) := by
          rw [← a2]
          exact (show SwBlk wr.drew _ _ from HB.out).set (5 + k) (.bool true) a3
        have H2 := Lib.hid h2
        have HC2 : Hid ((wr.drew.setCell ⟨w.heap.size + 1, 5 + k, none⟩ (.bool true)).cell? ⟨w.heap.size, 1, none⟩ = some (.int .i64 0)) := by show _ = _; simp [go_sem, hc]
        have HW2 : Hid (Below w.heap.size w (wr.drew.setCell ⟨w.heap.size + 1, 5 + k, none⟩ (.bool true))) := HBW.out.drew.setCell (p := ⟨w.heap.size + 1, 5 + k, none⟩) (Nat.le_succ _) _
        clear a1 a2 a3 h2
        go_wp2
        go_region
        all_goals
          go_wp2
          go_roundw
          case rel => exact ⟨k + 1, by omega, by go_num, H2, HW2, by simpa using hsz, HC2⟩
          case measure => simp [intOf]; omega
      · obtain rfl : k = 6 := by omega
        go_wp2
        go_ret
        exact ⟨rfl, HB.out, HBW.out, hsz⟩
def bg1 (n : Int) (k : Nat) : List Value := swLs n 1 ⟨false, true, List.replicate 6 false, (List.replicate k true ++ List.replicate (6 - k) false)⟩ false false
theorem bg1_at (n : Int) (k : Nat) (h : k < 6) : (bg1 n k)[12 + k]? = some (.bool false) ∧ (bg1 n k).set (12 + k) (.bool true) = bg1 n (k + 1) ∧ 12 + k < (bg1 n k).length := by
  match k, h with
  | 0, _ => exact ⟨rfl, rfl, by show _ < 18; decide⟩
  | 1, _ => exact ⟨rfl, rfl, by show _ < 18; decide⟩
  | 2, _ => exact ⟨rfl, rfl, by show _ < 18; decide⟩
  | 3, _ => exact ⟨rfl, rfl, by show _ < 18; decide⟩
  | 4, _ => exact ⟨rfl, rfl, by show _ < 18; decide⟩
  | 5, _ => exact ⟨rfl, rfl, by show _ < 18; decide⟩
set_option maxHeartbeats 2000000 in
set_option maxRecDepth 100000 in
theorem begin_1 (n : Int) (w : World) :
    Calls Try.prog 67 #[.agg #[.int .i64 n, .int .i64 1]] w fun e w' => e = .returned (.pointer (some ⟨w.heap.size + 1, 0, none⟩)) ∧ SwBlk w' (w.heap.size + 1) (swLs n (chI true) (sw0 true) false false) ∧ Below w.heap.size w w' ∧ w.heap.size + 1 < w'.heap.size := by
  obtain ⟨w0, hw0⟩ : ∃ w0, (w.alloc (.cells #[.int .i64 n, .int .i64 1] 36)).alloc (.cells (swL n 1 false false false false false false false false false false false false false false false false).toArray 92) = w0 := ⟨_, rfl⟩
  have hb0 : Below w.heap.size w w0 := by rw [← hw0]; exact ((Below.refl _ _).alloc (Nat.le_refl _) _).alloc (by simp) _
  have hs0 : w.heap.size + 1 < w0.heap.size := by rw [← hw0]; simp
  have c0 : w0.cell? ⟨w.heap.size, 0, none⟩ = some (.int .i64 n) := by rw [← hw0]; simp [go_sem]
  have c1 : w0.cell? ⟨w.heap.size, 1, none⟩ = some (.int .i64 1) := by rw [← hw0]; simp [go_sem]
  have hB : SwBlk w0 (w.heap.size + 1) (swL n 1 false false false false false false false false false false false false false false false false) := by
    rw [← hw0]
    have := World.alloc_heap_new (w.alloc (.cells #[.int .i64 n, .int .i64 1] 36)) (.cells (swL n 1 false false false false false false false false false false false false false false false false).toArray 92)
    rw [World.size_alloc] at this; exact this
  have k0 : w0.drew.cell? ⟨w.heap.size + 1, 3, none⟩ = some (.bool false) := by rw [(show SwBlk w0.drew _ _ from hB).cell]; rfl
  have f0 : w0.drew.frozen? ⟨w.heap.size + 1, 3, none⟩ = false := (show SwBlk w0.drew _ _ from hB).frozen 3
  have k0' : w0.cell? ⟨w.heap.size + 1, 3, none⟩ = some (.bool false) := k0
  have f0' : w0.frozen? ⟨w.heap.size + 1, 3, none⟩ = false := f0
  have hB1 : SwBlk (w0.drew.setCell ⟨w.heap.size + 1, 3, none⟩ (.bool true)) (w.heap.size + 1) (bg1 n 0) := (show SwBlk w0.drew _ _ from hB).set 3 (.bool true) (by simp [swL])
  have HB1 := Lib.hid hB1
  have HB0 := Lib.hid hb0
  have hd : (w0.drew.setCell ⟨w.heap.size + 1, 3, none⟩ (.bool true)).cell? ⟨w.heap.size, 1, none⟩ = some (.int .i64 1) := by simp [go_sem, c1]
  have HD := Lib.hid hd
  clear hB hb0 hB1 hd
  go_enter Try.func67, Try.ntmps67
  go_wp2
  have hw0' : (w.alloc (.cells #[.int .i64 n, .int .i64 1] 36)).alloc (.cells #[.int .i64 n, .int .i64 1, .bool false, .bool false, .bool false, .bool false, .bool false, .bool false, .bool false, .bool false, .bool false, .bool false, .bool false, .bool false, .bool false, .bool false, .bool false, .bool false] 92) = w0 := hw0
  rw [hw0']
  clear hw0 hw0'
  go_region
  all_goals
    go_wp2
    go_loopw [4, 14] (fun _ i wr => ∃ k : Nat, k ≤ 6 ∧ i = .int .i64 k ∧ Hid (SwBlk wr (w.heap.size + 1) (bg1 n k)) ∧ Hid (Below w.heap.size w wr) ∧ w.heap.size + 1 < wr.heap.size ∧ Hid (wr.cell? ⟨w.heap.size, 1, none⟩ = some (.int .i64 1))) (fun _ i _ => 6 - (intOf i).toNat)
    case atStart => exact ⟨0, Nat.zero_le _, rfl, HB1, Lib.hid (HB0.out.drew.setCell (p := ⟨w.heap.size + 1, 3, none⟩) (Nat.le_succ _) _), by simpa using hs0, HD⟩
    case round =>
      obtain ⟨k, hk, rfl, HB, HBW, hsz, HC⟩ := hrel
      clear c0 c1 k0 k0' f0 f0'
      by_cases hlt : k < 6
      · have hlt2 : (k : Int) < 6 := by omega
        obtain ⟨a1, a2, a3⟩ := bg1_at n k hlt
        have hc := HC.out
        have g0 : wr.drew.cell? ⟨w.heap.size + 1, 12 + k, none⟩ = some (.bool false) := by rw [(show SwBlk wr.drew _ _ from HB.out).cell]; exact a1
        have g1 : wr.drew.frozen? ⟨w.heap.size + 1, 12 + k, none⟩ = false := (show SwBlk wr.drew _ _ from HB.out).frozen _
        have g0' : wr.cell? ⟨w.heap.size + 1, 12 + k, none⟩ = some (.bool false) := g0
        have g1' : wr.frozen? ⟨w.heap.size + 1, 12 + k, none⟩ = false := g1
        have h2 : SwBlk (wr.drew.setCell ⟨w.heap.size + 1, 12 + k, none⟩ (.bool true)) (w.heap.size + 1) (bg1 n (k + 1)) := by
          rw [← a2]
          exact (show SwBlk wr.drew _ _ from HB.out).set (12 + k) (.bool true) a3
        have H2 := Lib.hid h2
        have HC2 : Hid ((wr.drew.setCell ⟨w.heap.size + 1, 12 + k, none⟩ (.bool true)).cell? ⟨w.heap.size, 1, none⟩ = some (.int .i64 1)) := by show _ = _; simp [go_sem, hc]
        have HW2 : Hid (Below w.heap.size w (wr.drew.setCell ⟨w.heap.size + 1, 12 + k, none⟩ (.bool true))) := HBW.out.drew.setCell (p := ⟨w.heap.size + 1, 12 + k, none⟩) (Nat.le_succ _) _
        clear a1 a2 a3 h2
        go_wp2
        go_region
        all_goals
          go_wp2
          go_roundw
          case rel => exact ⟨k + 1, by omega, by go_num, H2, HW2, by simpa using hsz, HC2⟩
          case measure => simp [intOf]; omega
      · obtain rfl : k = 6 := by omega
        go_wp2
        go_ret
        exact ⟨rfl, HB.out, HBW.out, hsz⟩
theorem begin_any (n : Int) (fi : Bool) (w : World) :
    Calls Try.prog 67 #[.agg #[.int .i64 n, .int .i64 (chI fi)]] w fun e w' => e = .returned (.pointer (some ⟨w.heap.size + 1, 0, none⟩)) ∧ SwBlk w' (w.heap.size + 1) (swLs n (chI fi) (sw0 fi) false false) ∧ Below w.heap.size w w' ∧ w.heap.size + 1 < w'.heap.size := by
  cases fi
  · exact begin_0 n w
  · exact begin_1 n w
end Go.Proofs.Ytmhbgpappjfolaa
