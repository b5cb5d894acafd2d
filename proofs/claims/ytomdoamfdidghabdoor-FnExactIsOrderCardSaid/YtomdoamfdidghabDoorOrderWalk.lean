/- The walk of a law: IsOrder is the same on both sides. -/
import Derived.Test.YtomdoamfdidghabDoorOrdSpec
namespace Go.Proofs.YtomdoamfdidghabDoor
open Go.RowKit
set_option linter.unusedVariables false
theorem implOrder_f1 (s : ByteArray) (r : Int) (w : World) (hs2 : s.size ≤ 1048576) (h : ordB s = false) :
    Calls Tryd.prog 5 #[.string s, .int .i64 r] w fun e w' => e = .returned (.bool false) ∧ Below w.heap.size w w' := by
  have HS := Lib.hid (areSteps_any s w hs2)
  rw [h] at HS
  clear h
  go_enter Tryd.func5, Tryd.ntmps5
  go_wp2_with fail
  refine HS.out.mono ?_; rintro e w1 ⟨rfl, hb1⟩
  go_wp2
  go_ret
  exact ⟨rfl, hb1⟩
theorem implOrder_f2 (s : ByteArray) (r : Int) (w : World) (hs2 : s.size ≤ 1048576) (h : ordB s = true) (hr : r < 1 ∨ 4 < r) :
    Calls Tryd.prog 5 #[.string s, .int .i64 r] w fun e w' => e = .returned (.bool false) ∧ Below w.heap.size w w' := by
  have HS := Lib.hid (areSteps_any s w hs2)
  rw [h] at HS
  clear h
  go_enter Tryd.func5, Tryd.ntmps5
  go_wp2_with fail
  refine HS.out.mono ?_; rintro e w1 ⟨rfl, hb1⟩
  go_wp2_with fail
  refine (within_i64_f _ _ _ _ hr).mono ?_; rintro e w' ⟨rfl, rfl⟩
  go_wp2
  go_ret
  exact ⟨rfl, hb1⟩
theorem ratio_t (r : Int) (w : World) (h1 : 1 ≤ r) (h2 : r ≤ 4) :
    Calls Tryd.prog 7 #[.int .i64 r] w fun e w' => e = .returned (.bool true) ∧ w = w' := by
  go_enter Tryd.func7, Tryd.ntmps7
  go_wp2_with fail
  refine (l00In_t _ _ _ _ h1 h2).mono ?_; rintro e w' ⟨rfl, rfl⟩
  go_wp2
  go_ret
  exact ⟨rfl, rfl⟩
theorem ratio_f (r : Int) (w : World) (hr : r < 1 ∨ 4 < r) :
    Calls Tryd.prog 7 #[.int .i64 r] w fun e w' => e = .returned (.bool false) ∧ w = w' := by
  go_enter Tryd.func7, Tryd.ntmps7
  go_wp2_with fail
  refine (l00In_f _ _ _ _ hr).mono ?_; rintro e w' ⟨rfl, rfl⟩
  go_wp2
  go_ret
  exact ⟨rfl, rfl⟩
theorem specOrder_f1 (s : ByteArray) (r : Int) (w : World) (hs2 : s.size ≤ 1048576) (h : ordB s = false) :
    Calls Tryd.prog 4 #[.string s, .int .i64 r] w fun e w' => e = .returned (.bool false) ∧ Below w.heap.size w w' := by
  have HS := Lib.hid (l05Steps_any s w hs2)
  rw [h] at HS
  clear h
  go_enter Tryd.func4, Tryd.ntmps4
  go_wp2_with fail
  refine HS.out.mono ?_; rintro e w1 ⟨rfl, hb1⟩
  go_wp2
  go_ret
  exact ⟨rfl, hb1⟩
theorem specOrder_f2 (s : ByteArray) (r : Int) (w : World) (hs2 : s.size ≤ 1048576) (h : ordB s = true) (hr : r < 1 ∨ 4 < r) :
    Calls Tryd.prog 4 #[.string s, .int .i64 r] w fun e w' => e = .returned (.bool false) ∧ Below w.heap.size w w' := by
  have HS := Lib.hid (l05Steps_any s w hs2)
  rw [h] at HS
  clear h
  go_enter Tryd.func4, Tryd.ntmps4
  go_wp2_with fail
  refine HS.out.mono ?_; rintro e w1 ⟨rfl, hb1⟩
  go_wp2_with fail
  refine (ratio_f _ _ hr).mono ?_; rintro e w' ⟨rfl, rfl⟩
  go_wp2
  go_ret
  exact ⟨rfl, hb1⟩
set_option maxHeartbeats 2000000 in
theorem specOrder_t (s : ByteArray) (m : Nat) (w : World) (hs2 : s.size ≤ 1048576) (h : ordB s = true) (hm1 : 1 ≤ m) (hm4 : m ≤ 4) :
    Calls Tryd.prog 4 #[.string s, .int .i64 (m : Int)] w fun e w' => e = .returned (.bool (ordS s m)) ∧ Below w.heap.size w w' := by
  have HS := Lib.hid (l05Steps_any s w hs2)
  rw [h] at HS
  clear h
  go_enter Tryd.func4, Tryd.ntmps4
  go_wp2_with fail
  refine HS.out.mono ?_; rintro e w1 ⟨rfl, hb1⟩
  have HB1 := Lib.hid hb1
  clear hb1
  go_wp2_with fail
  refine (ratio_t _ _ (by omega) (by omega)).mono ?_; rintro e w' ⟨rfl, rfl⟩
  go_wp2
  go_loopw [5, 6] (fun u i wr => ∃ k : Nat, k ≤ s.size ∧ i = .int .i64 (k : Int) ∧ u = .int .i64 ((trun s.data.toList k : Nat) : Int) ∧ (∀ j, j < k → trun s.data.toList (j + 1) ≤ m) ∧ Below w.heap.size w wr) (fun _ i _ => s.size - (intOf i).toNat)
  case atStart => exact ⟨0, Nat.zero_le _, rfl, rfl, fun j hj => by omega, HB1.out⟩
  case round =>
    obtain ⟨k, hk, rfl, rfl, h0, hB⟩ := hrel
    have H0 := Lib.hid h0
    have HB := Lib.hid hB
    have htl := trun_le s.data.toList k
    have HNX : Hid (trun s.data.toList (k + 1) = if 0 < k ∧ s.data.toList[k]? = s.data.toList[k - 1]? then trun s.data.toList k + 1 else 1) := Lib.hid (by rw [trun])
    clear h0 hB
    by_cases hlt : k < s.size
    · obtain ⟨R, hR⟩ : ∃ R, trun s.data.toList k = R := ⟨_, rfl⟩
      rw [hR] at htl
      have HR := Lib.hid hR
      rw [hR]
      clear hR
      by_cases hk0 : k = 0
      · subst hk0
        have HE := Lib.hid (show trun s.data.toList (0 + 1) = 1 by rw [HNX.out, if_neg (by omega)])
        obtain rfl : R = 0 := by omega
        have hd : decide (1 > (m : Int)) = false := decide_eq_false (by omega)
        have hd2 : decide ((m : Int) < 1) = false := decide_eq_false (by omega)
        clear htl
        go_wp2
        go_quiet (fail)
        go_wp2
        go_roundw
        case rel => exact ⟨1, by omega, by go_num, by rw [HE.out]; rfl, fun j hj => by have : j = 0 := by omega
                                                                                       subst this; rw [HE.out]; exact hm1, by first | exact HB.out | exact bwo HB.out _⟩
        case measure => simp [intOf]; omega
      · obtain ⟨P, rfl⟩ : ∃ P, k = P + 1 := ⟨k - 1, by omega⟩
        have hP : P < s.size := by omega
        have e1 := sget s (P + 1) hlt
        have e2 := sget s P hP
        have hg : decide ((0 : Int) < ((P + 1 : Nat) : Int)) = true := decide_eq_true (by omega)
        by_cases hq : s[P + 1] = s[P]
        · have HE := Lib.hid (show trun s.data.toList (P + 1 + 1) = R + 1 by rw [HNX.out, if_pos ⟨by omega, by rw [e1, show P + 1 - 1 = P by omega, e2, hq]⟩, HR.out])
          have hx : ((s[P + 1].toNat : Nat) : Int) = ((s[P].toNat : Nat) : Int) := by rw [hq]
          clear e1 e2 hq
          by_cases hbad : m < R + 1
          · have HF := Lib.hid (ordS_f s m (P + 1) hlt (by rw [HE.out]; exact hbad))
            go_wp2
            go_quiet (fail)
            go_wp2
            go_ret
            exact ⟨by rw [HF.out]; rfl, by first | exact HB.out | exact bwo HB.out _⟩
          · go_wp2
            go_quiet (fail)
            go_wp2
            go_roundw
            case rel => exact ⟨P + 1 + 1, by omega, by go_num, by rw [HE.out]; go_num, fun j hj => by
              by_cases e : j = P + 1
              · subst e; rw [HE.out]; omega
              · exact H0.out j (by omega), by first | exact HB.out | exact bwo HB.out _⟩
            case measure => simp [intOf]; omega
        · have HE := Lib.hid (show trun s.data.toList (P + 1 + 1) = 1 by rw [HNX.out, if_neg (fun hh => by have h3 := hh.2; rw [e1, show P + 1 - 1 = P by omega, e2] at h3; exact hq (Option.some.inj h3))])
          have n1 : ¬ ((s[P + 1].toNat : Nat) : Int) = ((s[P].toNat : Nat) : Int) := fun e => hq (UInt8.toNat_inj.1 (by omega))
          obtain ⟨x, hx⟩ : ∃ x : Int, ((s[P + 1].toNat : Nat) : Int) = x := ⟨_, rfl⟩
          obtain ⟨y, hy⟩ : ∃ y : Int, ((s[P].toNat : Nat) : Int) = y := ⟨_, rfl⟩
          rw [hx, hy] at n1
          have b1 : (x == y) = false := beq_eq_false_iff_ne.2 n1
          have b2 : (x != y) = true := by simp [n1]
          have hd2 : decide ((m : Int) < 1) = false := decide_eq_false (by omega)
          clear e1 e2 hq
          go_wp2
          go_quiet (fail)
          go_wp2
          go_roundw
          case rel => exact ⟨P + 1 + 1, by omega, by go_num, by rw [HE.out]; rfl, fun j hj => by
            by_cases e : j = P + 1
            · subst e; rw [HE.out]; exact hm1
            · exact H0.out j (by omega), by first | exact HB.out | exact bwo HB.out _⟩
          case measure => simp [intOf]; omega
    · have HT := Lib.hid (ordS_t s m (fun j hj => H0.out j (by omega)))
      go_wp2
      go_ret
      exact ⟨by rw [HT.out]; rfl, HB.out⟩

theorem order_both (s : ByteArray) (r : Int) (hs2 : s.size ≤ 1048576) : ∃ b : Bool, (∀ w, Calls Tryd.prog 4 #[.string s, .int .i64 r] w fun e w' => e = .returned (.bool b) ∧ Below w.heap.size w w') ∧
    (∀ (mx : Int) (w : World), w.cell? ⟨0, 0, none⟩ = some (.int .i64 mx) → Calls Tryd.prog 5 #[.string s, .int .i64 r] w fun e w' => e = .returned (.bool b) ∧ Below w.heap.size w w') := by
  cases h : ordB s with
  | false => exact ⟨false, fun w => specOrder_f1 s r w hs2 h, fun mx w _ => implOrder_f1 s r w hs2 h⟩
  | true =>
    by_cases hr : r < 1 ∨ 4 < r
    · exact ⟨false, fun w => specOrder_f2 s r w hs2 h hr, fun mx w _ => implOrder_f2 s r w hs2 h hr⟩
    · obtain ⟨m, rfl⟩ := Int.eq_ofNat_of_zero_le (show 0 ≤ r by omega)
      refine ⟨ordS s m, fun w => specOrder_t s m w hs2 h (by omega) (by omega), fun mx w hm => ?_⟩
      rw [ord_same s m h]
      exact implOrder_t s m w mx hm hs2 h (by omega) (by omega)
theorem walk_FnExactIsOrder (s : ByteArray) (r : Int) (w : World) (hs : s.size ≤ maxLen) (wr : (Lit.int .i64 r).wf = true) (mx : Int) (hmx : w.cell? ⟨0, 0, none⟩ = some (.int .i64 mx)) :
    Calls Tryd.prog 3 #[.string s, .int .i64 r] w fun e w' => e = .returned (.bool true) ∧ Below w.heap.size w w' := by
  by_cases hl : (s.size : Int) ≤ 1048576
  · obtain ⟨b, hS, hI⟩ := order_both s r (by omega)
    have HS := Lib.hid hS
    have HI := Lib.hid hI
    have hlt := World.block_lt_of_cell? w _ hmx
    have HMX := Lib.hid hmx
    clear hS hI hmx
    go_enter Tryd.func3, Tryd.ntmps3
    go_wp2_with fail
    refine (HS.out _).mono ?_; rintro e w1 ⟨rfl, hb1⟩
    have HX1 := Lib.hid ((hb1.cell (p := ⟨0, 0, none⟩) hlt).trans HMX.out)
    have HB1 := Lib.hid hb1
    clear hb1
    go_wp2_with fail
    refine (HI.out mx _ HX1.out).mono ?_; rintro e w2 ⟨rfl, hb2⟩
    have HB2 := Lib.hid (HB1.out.trans (hb2.mono HB1.out.size))
    clear hb2
    cases b
    all_goals
      go_wp2
      go_ret
      exact ⟨rfl, HB2.out⟩
  · go_enter Tryd.func3, Tryd.ntmps3
    go_wp2
    go_ret
    exact ⟨rfl, Below.refl _ _⟩
end Go.Proofs.YtomdoamfdidghabDoor
