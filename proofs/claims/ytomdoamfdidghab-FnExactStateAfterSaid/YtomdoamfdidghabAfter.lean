/- The state behind some steps, on both sides. -/
import Derived.Test.YtomdoamfdidghabTail
import Derived.IntWalk
namespace Go.Proofs.Ytomdoamfdidghab
open Go.RowKit
set_option linter.unusedVariables false
/-- where one is on the way behind s steps -/
def stepAt (s k t : Nat) : Nat := if s ≤ t then s else t + (s - t) % (k - t)
theorem l00Min_nat (a b : Nat) (w : World) :
    Calls Try.prog 23 #[.int .i64 (a : Int), .int .i64 (b : Int)] w fun e w' => e = .returned (.int .i64 ((min a b : Nat) : Int)) ∧ w = w' := by
  by_cases h : a < b
  · rw [show min a b = a from by omega]
    go_enter Try.func23, Try.ntmps23
    go_wp2
    go_ret
    exact ⟨rfl, rfl⟩
  · rw [show min a b = b from by omega]
    go_enter Try.func23, Try.ntmps23
    go_wp2
    go_ret
    exact ⟨rfl, rfl⟩
set_option maxHeartbeats 1000000 in
set_option maxRecDepth 100000 in
theorem specStateAfter_t (b : Int) (a : Option Addr) (n cap : Nat) (l : List Int) (x S : Int) (w : World) (hn : n = l.length) (hl : n ≤ 1048576) (hr : RowOf w a l) (hlt : ∀ g, a = some ⟨g, 0, none⟩ → g < w.heap.size) (hat : atB b l x = true) (k t s : Nat) (hst : Stop l x k) (ht : t < k) (hte : itr l x t = itr l x k) (hss : S = (s : Int)) (hs9 : s ≤ 1000000000) :
    Calls Try.prog 11 #[.agg #[.int .i64 b, .slice a n cap], .int .i64 x, .int .i64 S] w fun e w' => e = .returned (.tuple #[.int .i64 (itr l x (stepAt s k t)), .bool true]) ∧ Below w.heap.size w w' := by
  obtain ⟨hN, hin, hx⟩ := at_in hat
  have hb0 : Below w.heap.size w (w.alloc (.cells #[.int .i64 b, .slice a n cap] 28)) := (Below.refl _ _).alloc (Nat.le_refl _) _
  have hr0 := row_alloc hr hlt hb0 (Nat.le_refl _)
  have HA := Lib.hid (l02At_any w.heap.size b x a n cap l (w.alloc (.cells #[.int .i64 b, .slice a n cap] 28)) hn hl (At2.new w _ _ _) hr0)
  rw [hat] at HA
  have HLT := Lib.hid (fun g e => Nat.lt_of_lt_of_le (hlt g e) hb0.size)
  have HR0 := Lib.hid hr0
  have HBW := Lib.hid hb0
  have HIN := Lib.hid hin
  have HX := Lib.hid hx
  have HN := Lib.hid hn
  have hnl : n ≤ 256 := by omega
  clear hr hlt hr0 hb0 hat hn hin hx
  go_enter Try.func11, Try.ntmps11
  go_wp2_with fail
  refine HA.out.mono ?_; rintro e w' ⟨rfl, q, rfl⟩
  have bx := (At2.new w (.int .i64 b) (.slice a n cap) 28).drewN q
  have hr1 : RowOf ((w.alloc (.cells #[.int .i64 b, .slice a n cap] 28)).drewN q) a l := HR0.out
  have HB0 := Lib.hid (bw HBW.out q)
  have hs0 : w.heap.size < ((w.alloc (.cells #[.int .i64 b, .slice a n cap] 28)).drewN q).heap.size := by show w.heap.size < (w.alloc (.cells #[.int .i64 b, .slice a n cap] 28)).heap.size; simp
  have HLT1 : Hid (∀ g, a = some ⟨g, 0, none⟩ → g < ((w.alloc (.cells #[.int .i64 b, .slice a n cap] 28)).drewN q).heap.size) := HLT
  generalize (w.alloc (.cells #[.int .i64 b, .slice a n cap] 28)).drewN q = W0 at *
  have HPX := Lib.hid bx
  obtain ⟨b0, b1, -, -⟩ := bx
  have HR1 := Lib.hid hr1
  clear hr1
  subst hss
  go_wp2_with fail
  refine (l00In_t _ _ _ _ (by omega) (by omega)).mono ?_; rintro e w' ⟨rfl, rfl⟩
  go_wp2_with fail
  refine (specRing_any w.heap.size b a n cap l x W0 HN.out hN HIN.out HX.out HPX.out HR1.out HLT1.out).mono ?_
  rintro e w2 ⟨k', t', ls, v, hst', ht', hte', hls, rfl, hi2, hb2⟩
  obtain rfl := stop_unique hst hst'
  obtain rfl := tail_unique hst ht hte ht' hte'
  have hk256 : k ≤ 256 := Nat.le_trans (pth_le HIN.out HX.out hst.1) hN
  have hlsl : ls < ((pth l x k).drop t).length := hls.1
  have HB2 := Lib.hid (HB0.out.trans (hb2.mono (by omega)))
  have HP2 := Lib.hid (HPX.out.below hb2 (by omega))
  have HR2 := Lib.hid (row_alloc HR1.out HLT1.out hb2 (Nat.le_refl _))
  obtain ⟨av, cv, rfl, -, -⟩ := hi2.form
  obtain ⟨m, hm⟩ : ∃ m, k - t = m := ⟨_, rfl⟩
  have HLEN := Lib.hid (show (((pth l x k).drop t).drop ls ++ ((pth l x k).drop t).take ls).length = m by
    simp [pth_length] at hlsl ⊢; omega)
  have HM := Lib.hid hm
  have hm1 : 1 ≤ m := by omega
  have hm2 : m ≤ 256 := by omega
  have HTE := Lib.hid hte
  clear hst hst' hte hte' hb2 hi2 hls hlsl hm b0 b1
  rw [HLEN.out]
  obtain ⟨b0, b1, -, -⟩ := HP2.out
  go_wp2
  have HMN := Lib.hid (fun w => l00Min_nat s t w)
  obtain ⟨M, hM⟩ : ∃ M, min s t = M := ⟨_, rfl⟩
  rw [hM] at HMN
  have HMM := Lib.hid hM
  clear hM
  go_loop [10, 11] (fun u i => ∃ j : Nat, j ≤ M ∧ i = .int .i64 (j : Int) ∧ u = .int .i64 (itr l x j)) (fun _ i => M - (intOf i).toNat)
  case atStart => exact ⟨0, Nat.zero_le _, rfl, rfl⟩
  case round =>
    obtain ⟨j, hj, rfl, rfl⟩ := hrel
    obtain ⟨yn, hyn, hy, hnx⟩ := row_get (itr_in HIN.out HX.out (j))
    obtain ⟨g, rfl, hcN⟩ := HR2.out yn hyn
    have HIT : Hid (itr l x (j + 1) = l[yn]) := Lib.hid hnx
    have HY := Lib.hid hy
    have hynn : yn < n := by have := HN.out; omega
    obtain ⟨z, hz⟩ : ∃ z, l[yn] = z := ⟨_, rfl⟩
    rw [hz] at hcN HIT
    clear hnx hy hz
    rw [HY.out]
    by_cases hjM : j < M
    · have hjs : M ≤ t := by have := HMM.out; omega
      go_wp2_with (go_at_call 23; refine (HMN.out _).mono ?_; rintro e w' ⟨rfl, rfl⟩)
      go_round
      case rel => exact ⟨j + 1, by omega, by go_num, by rw [HIT.out]⟩
      case measure => simp [intOf]; omega
    · obtain rfl : j = M := by omega
      by_cases hst : s ≤ t
      · have hMs : j = s := by have := HMM.out; omega
        have HE := Lib.hid (show itr l x (stepAt s k t) = (yn : Int) by unfold stepAt; rw [if_pos hst, ← hMs, HY.out])
        go_wp2_with (go_at_call 23; refine (HMN.out _).mono ?_; rintro e w' ⟨rfl, rfl⟩)
        go_ret2
        exact ⟨by rw [HE.out]; rfl, HB2.out⟩
      · have hMt : j = t := by have := HMM.out; omega
        obtain ⟨R, hR⟩ : ∃ R, (s - t) % m = R := ⟨_, rfl⟩
        have hRm : R < m := by rw [← hR]; exact Nat.mod_lt _ (by omega)
        have HE := Lib.hid (show stepAt s k t = t + R by unfold stepAt; rw [if_neg hst, HM.out, hR])
        have hR1 : ((s : Int) - (t : Int)) % (m : Int) = (R : Int) := by rw [← hR, show (s : Int) - (t : Int) = ((s - t : Nat) : Int) from by omega]; simp
        have hR2 : IntKind.i64.wrap (((s : Int) - (t : Int)).tmod (m : Int)) = (R : Int) := by rw [Int.tmod_eq_emod_of_nonneg (by omega), hR1]; exact IntWalk.i64_in _ (by omega)
        have hne : ((m : Int) == 0) = false := by simp; omega
        have hn0 : ¬ (m : Int) = 0 := by omega
        have hn1 : ¬ m = 0 := by omega
        have HJT := Lib.hid hMt
        clear hR hMt
        go_wp2_with (go_at_call 23; refine (HMN.out _).mono ?_; rintro e w' ⟨rfl, rfl⟩)
        have HR1X := Lib.hid hR1
        clear hR1 hR2
        go_loop [10, 12] (fun u i => ∃ (r : Nat), r ≤ R ∧ i = .int .i64 (r : Int) ∧ u = .int .i64 (itr l x (t + (R - r)))) (fun _ i => (intOf i).toNat)
        case atStart => exact ⟨R, Nat.le_refl _, by first | rfl | rw [HR1X.out], by rw [Nat.sub_self, Nat.add_zero, ← HJT.out, HY.out]⟩
        case round =>
          clear hcN HIT
          obtain ⟨r, hr, rfl, rfl⟩ := hrel
          obtain ⟨y2, hy2, hy3, hnx⟩ := row_get (itr_in HIN.out HX.out (t + (R - r)))
          obtain ⟨g2, hg2, hcN⟩ := HR2.out y2 hy2
          have hg3 : g2 = g := by simp at hg2; exact hg2.symm
          subst hg3
          have HIT : Hid (itr l x (t + (R - r) + 1) = l[y2]) := Lib.hid hnx
          have HY2 := Lib.hid hy3
          have hynn2 : y2 < n := by have := HN.out; omega
          obtain ⟨z2, hz2⟩ : ∃ z, l[y2] = z := ⟨_, rfl⟩
          rw [hz2] at hcN HIT
          clear hnx hy3 hz2 hg2
          rw [HY2.out]
          by_cases hr0 : 0 < r
          · go_wp2
            go_round
            case rel => exact ⟨r - 1, by omega, by go_num, by rw [show t + (R - (r - 1)) = t + (R - r) + 1 from by omega, HIT.out]⟩
            case measure => simp [intOf]; omega
          · obtain rfl : r = 0 := by omega
            go_wp2
            go_ret2
            exact ⟨by rw [HE.out, ← HY2.out, Nat.sub_zero]; rfl, HB2.out⟩
set_option maxHeartbeats 1000000 in
set_option maxRecDepth 100000 in
theorem implStateAfter_t (b : Int) (a : Option Addr) (n cap : Nat) (l : List Int) (x S : Int) (w : World) (hn : n = l.length) (hl : n ≤ 1048576) (hr : RowOf w a l) (hlt : ∀ g, a = some ⟨g, 0, none⟩ → g < w.heap.size) (hat : atB b l x = true) (k t s : Nat) (hst : Stop l x k) (ht : t < k) (hte : itr l x t = itr l x k) (hss : S = (s : Int)) (hs9 : s ≤ 1000000000) :
    Calls Try.prog 12 #[.agg #[.int .i64 b, .slice a n cap], .int .i64 x, .int .i64 S] w fun e w' => e = .returned (.tuple #[.int .i64 (itr l x (stepAt s k t)), .bool true]) ∧ Below w.heap.size w w' := by
  obtain ⟨hN, hin, hx⟩ := at_in hat
  have hb0 : Below w.heap.size w (w.alloc (.cells #[.int .i64 b, .slice a n cap] 28)) := (Below.refl _ _).alloc (Nat.le_refl _) _
  have hr0 := row_alloc hr hlt hb0 (Nat.le_refl _)
  have HA := Lib.hid (has_any b x a n cap l (w.alloc (.cells #[.int .i64 b, .slice a n cap] 28)) hn hl hr0 (fun g e => Nat.lt_of_lt_of_le (hlt g e) hb0.size))
  rw [hat] at HA
  have HLT := Lib.hid (fun g e => Nat.lt_of_lt_of_le (hlt g e) hb0.size)
  have HR0 := Lib.hid hr0
  have HBW := Lib.hid hb0
  have HIN := Lib.hid hin
  have HX := Lib.hid hx
  have HN := Lib.hid hn
  have hnl : n ≤ 256 := by omega
  clear hr hlt hr0 hb0 hat hn hin hx
  go_enter Try.func12, Try.ntmps12
  go_wp2_with fail
  refine HA.out.mono ?_; rintro e W0 ⟨rfl, hb1⟩
  have bx := (At2.new w (.int .i64 b) (.slice a n cap) 28).below hb1 (by simp)
  have hr1 := row_alloc HR0.out HLT.out hb1 (Nat.le_refl _)
  have HB0 := Lib.hid (HBW.out.trans (hb1.mono HBW.out.size))
  have hs0 : w.heap.size < W0.heap.size := by have := hb1.size; simp at this; omega
  have HLT1 := Lib.hid (fun g e => Nat.lt_of_lt_of_le (HLT.out g e) hb1.size)
  clear hb1
  have HPX := Lib.hid bx
  obtain ⟨b0, b1, -, -⟩ := bx
  have HR1 := Lib.hid hr1
  clear hr1
  subst hss
  go_wp2_with fail
  refine (within_i64_t _ _ _ _ (by omega) (by omega)).mono ?_; rintro e w' ⟨rfl, rfl⟩
  go_wp2_with fail
  refine (route_any b a n cap l x W0 HN.out hN HIN.out HX.out HR1.out HLT1.out).mono ?_
  rintro e w2 ⟨k', t', v, hst', ht', hte', rfl, hi2, hb2⟩
  obtain rfl := stop_unique hst hst'
  obtain rfl := tail_unique hst ht hte ht' hte'
  have hk256 : k ≤ 256 := Nat.le_trans (pth_le HIN.out HX.out hst.1) hN
  have HB2 := Lib.hid (HB0.out.trans (hb2.mono (by omega)))
  obtain ⟨av, cv, rfl, -, hform⟩ := hi2.form
  obtain ⟨gl, hgl, -, -, -, -⟩ := hform 0 (by rw [pth_length]; omega)
  subst hgl
  rw [pth_length] at hi2 ⊢
  have HC := Lib.hid (fun j hj => pth_cells hi2 j hj)
  clear hst hst' hte hte' hb2 hi2 hform b0 b1
  by_cases hst : s ≤ t
  · have HE := Lib.hid (show stepAt s k t = s by unfold stepAt; rw [if_pos hst])
    have hc := HC.out s (by omega)
    go_wp2
    go_ret2
    exact ⟨by rw [HE.out]; rfl, HB2.out⟩
  · obtain ⟨m, hm⟩ : ∃ m, k - t = m := ⟨_, rfl⟩
    obtain ⟨R, hR⟩ : ∃ R, (s - t) % m = R := ⟨_, rfl⟩
    have hRm : R < m := by rw [← hR]; exact Nat.mod_lt _ (by omega)
    have HE := Lib.hid (show stepAt s k t = t + R by unfold stepAt; rw [if_neg hst, hm, hR])
    have hmi : (k : Int) - (t : Int) = (m : Int) := by omega
    have hmw : IntKind.i64.wrap (m : Int) = (m : Int) := IntWalk.i64_in _ (by omega)
    have hR1 : ((s : Int) - (t : Int)) % (m : Int) = (R : Int) := by rw [← hR, show (s : Int) - (t : Int) = ((s - t : Nat) : Int) from by omega]; simp
    have hR2 : IntKind.i64.wrap (((s : Int) - (t : Int)).tmod (m : Int)) = (R : Int) := by rw [Int.tmod_eq_emod_of_nonneg (by omega), hR1]; exact IntWalk.i64_in _ (by omega)
    have hne : ((m : Int) == 0) = false := by simp; omega
    have hn0 : ¬ (m : Int) = 0 := by omega
    have hn1 : ¬ m = 0 := by omega
    have htr : t + R < k := by omega
    have hc := HC.out (t + R) htr
    clear hR hm
    go_wp2
    go_ret2
    exact ⟨by rw [HE.out]; rfl, HB2.out⟩
set_option maxRecDepth 100000 in
theorem specStateAfter_f (b : Int) (a : Option Addr) (n cap : Nat) (l : List Int) (x S : Int) (w : World) (hn : n = l.length) (hl : n ≤ 1048576) (hr : RowOf w a l) (hlt : ∀ g, a = some ⟨g, 0, none⟩ → g < w.heap.size) (hat : atB b l x = false) :
    Calls Try.prog 11 #[.agg #[.int .i64 b, .slice a n cap], .int .i64 x, .int .i64 S] w fun e w' => e = .returned (.tuple #[.int .i64 0, .bool false]) ∧ Below w.heap.size w w' := by
  have hb0 : Below w.heap.size w (w.alloc (.cells #[.int .i64 b, .slice a n cap] 28)) := (Below.refl _ _).alloc (Nat.le_refl _) _
  have hr0 := row_alloc hr hlt hb0 (Nat.le_refl _)
  have HA := Lib.hid (l02At_any w.heap.size b x a n cap l (w.alloc (.cells #[.int .i64 b, .slice a n cap] 28)) hn hl (At2.new w _ _ _) hr0)
  have HBW := Lib.hid hb0
  rw [hat] at HA
  clear hr hlt hr0 hb0 hn hat
  go_enter Try.func11, Try.ntmps11
  go_wp2_with fail
  refine HA.out.mono ?_; rintro e w' ⟨rfl, q, rfl⟩
  have HB0 := Lib.hid (bw HBW.out q)
  go_wp2
  go_ret2
  exact ⟨rfl, HB0.out⟩
set_option maxRecDepth 100000 in
theorem implStateAfter_f (b : Int) (a : Option Addr) (n cap : Nat) (l : List Int) (x S : Int) (w : World) (hn : n = l.length) (hl : n ≤ 1048576) (hr : RowOf w a l) (hlt : ∀ g, a = some ⟨g, 0, none⟩ → g < w.heap.size) (hat : atB b l x = false) :
    Calls Try.prog 12 #[.agg #[.int .i64 b, .slice a n cap], .int .i64 x, .int .i64 S] w fun e w' => e = .returned (.tuple #[.int .i64 0, .bool false]) ∧ Below w.heap.size w w' := by
  have hb0 : Below w.heap.size w (w.alloc (.cells #[.int .i64 b, .slice a n cap] 28)) := (Below.refl _ _).alloc (Nat.le_refl _) _
  have hr0 := row_alloc hr hlt hb0 (Nat.le_refl _)
  have HA := Lib.hid (has_any b x a n cap l (w.alloc (.cells #[.int .i64 b, .slice a n cap] 28)) hn hl hr0 (fun g e => Nat.lt_of_lt_of_le (hlt g e) hb0.size))
  have HBW := Lib.hid hb0
  rw [hat] at HA
  clear hr hlt hr0 hb0 hn hat
  go_enter Try.func12, Try.ntmps12
  go_wp2_with fail
  refine HA.out.mono ?_; rintro e w' ⟨rfl, hb1⟩
  have HB0 := Lib.hid (HBW.out.trans (hb1.mono HBW.out.size))
  go_wp2
  go_ret2
  exact ⟨rfl, HB0.out⟩
set_option maxHeartbeats 1000000 in
set_option maxRecDepth 100000 in
theorem specStateAfter_g (b : Int) (a : Option Addr) (n cap : Nat) (l : List Int) (x S : Int) (w : World) (hn : n = l.length) (hl : n ≤ 1048576) (hr : RowOf w a l) (hlt : ∀ g, a = some ⟨g, 0, none⟩ → g < w.heap.size) (hat : atB b l x = true) (hS : S < 0 ∨ 1000000000 < S) :
    Calls Try.prog 11 #[.agg #[.int .i64 b, .slice a n cap], .int .i64 x, .int .i64 S] w fun e w' => e = .returned (.tuple #[.int .i64 0, .bool false]) ∧ Below w.heap.size w w' := by
  obtain ⟨hN, hin, hx⟩ := at_in hat
  have hb0 : Below w.heap.size w (w.alloc (.cells #[.int .i64 b, .slice a n cap] 28)) := (Below.refl _ _).alloc (Nat.le_refl _) _
  have hr0 := row_alloc hr hlt hb0 (Nat.le_refl _)
  have HA := Lib.hid (l02At_any w.heap.size b x a n cap l (w.alloc (.cells #[.int .i64 b, .slice a n cap] 28)) hn hl (At2.new w _ _ _) hr0)
  rw [hat] at HA
  have HLT := Lib.hid (fun g e => Nat.lt_of_lt_of_le (hlt g e) hb0.size)
  have HR0 := Lib.hid hr0
  have HBW := Lib.hid hb0
  have HIN := Lib.hid hin
  have HX := Lib.hid hx
  have HN := Lib.hid hn
  have hnl : n ≤ 256 := by omega
  clear hr hlt hr0 hb0 hat hn hin hx
  go_enter Try.func11, Try.ntmps11
  go_wp2_with fail
  refine HA.out.mono ?_; rintro e w' ⟨rfl, q, rfl⟩
  have bx := (At2.new w (.int .i64 b) (.slice a n cap) 28).drewN q
  have hr1 : RowOf ((w.alloc (.cells #[.int .i64 b, .slice a n cap] 28)).drewN q) a l := HR0.out
  have HB0 := Lib.hid (bw HBW.out q)
  have hs0 : w.heap.size < ((w.alloc (.cells #[.int .i64 b, .slice a n cap] 28)).drewN q).heap.size := by show w.heap.size < (w.alloc (.cells #[.int .i64 b, .slice a n cap] 28)).heap.size; simp
  have HLT1 : Hid (∀ g, a = some ⟨g, 0, none⟩ → g < ((w.alloc (.cells #[.int .i64 b, .slice a n cap] 28)).drewN q).heap.size) := HLT
  generalize (w.alloc (.cells #[.int .i64 b, .slice a n cap] 28)).drewN q = W0 at *
  have HPX := Lib.hid bx
  obtain ⟨b0, b1, -, -⟩ := bx
  have HR1 := Lib.hid hr1
  clear hr1
  go_wp2_with fail
  refine (l00In_f _ _ _ _ (by omega)).mono ?_; rintro e w' ⟨rfl, rfl⟩
  go_wp2
  go_ret2
  exact ⟨rfl, HB0.out⟩
set_option maxHeartbeats 1000000 in
set_option maxRecDepth 100000 in
theorem implStateAfter_g (b : Int) (a : Option Addr) (n cap : Nat) (l : List Int) (x S : Int) (w : World) (hn : n = l.length) (hl : n ≤ 1048576) (hr : RowOf w a l) (hlt : ∀ g, a = some ⟨g, 0, none⟩ → g < w.heap.size) (hat : atB b l x = true) (hS : S < 0 ∨ 1000000000 < S) :
    Calls Try.prog 12 #[.agg #[.int .i64 b, .slice a n cap], .int .i64 x, .int .i64 S] w fun e w' => e = .returned (.tuple #[.int .i64 0, .bool false]) ∧ Below w.heap.size w w' := by
  obtain ⟨hN, hin, hx⟩ := at_in hat
  have hb0 : Below w.heap.size w (w.alloc (.cells #[.int .i64 b, .slice a n cap] 28)) := (Below.refl _ _).alloc (Nat.le_refl _) _
  have hr0 := row_alloc hr hlt hb0 (Nat.le_refl _)
  have HA := Lib.hid (has_any b x a n cap l (w.alloc (.cells #[.int .i64 b, .slice a n cap] 28)) hn hl hr0 (fun g e => Nat.lt_of_lt_of_le (hlt g e) hb0.size))
  rw [hat] at HA
  have HLT := Lib.hid (fun g e => Nat.lt_of_lt_of_le (hlt g e) hb0.size)
  have HR0 := Lib.hid hr0
  have HBW := Lib.hid hb0
  have HIN := Lib.hid hin
  have HX := Lib.hid hx
  have HN := Lib.hid hn
  have hnl : n ≤ 256 := by omega
  clear hr hlt hr0 hb0 hat hn hin hx
  go_enter Try.func12, Try.ntmps12
  go_wp2_with fail
  refine HA.out.mono ?_; rintro e W0 ⟨rfl, hb1⟩
  have bx := (At2.new w (.int .i64 b) (.slice a n cap) 28).below hb1 (by simp)
  have hr1 := row_alloc HR0.out HLT.out hb1 (Nat.le_refl _)
  have HB0 := Lib.hid (HBW.out.trans (hb1.mono HBW.out.size))
  have hs0 : w.heap.size < W0.heap.size := by have := hb1.size; simp at this; omega
  have HLT1 := Lib.hid (fun g e => Nat.lt_of_lt_of_le (HLT.out g e) hb1.size)
  clear hb1
  have HPX := Lib.hid bx
  obtain ⟨b0, b1, -, -⟩ := bx
  have HR1 := Lib.hid hr1
  clear hr1
  go_wp2_with fail
  refine (within_i64_f _ _ _ _ (by omega)).mono ?_; rintro e w' ⟨rfl, rfl⟩
  go_wp2
  go_ret2
  exact ⟨rfl, HB0.out⟩
theorem stateAfter_both (b : Int) (l : List Int) (x S : Int) (hl : l.length ≤ 1048576) : ∃ (r : Int) (c : Bool), (∀ (a : Option Addr) (cap : Nat) (w : World), RowOf w a l → (∀ g, a = some ⟨g, 0, none⟩ → g < w.heap.size) → Calls Try.prog 11 #[.agg #[.int .i64 b, .slice a l.length cap], .int .i64 x, .int .i64 S] w fun e w' => e = .returned (.tuple #[.int .i64 r, .bool c]) ∧ Below w.heap.size w w') ∧ (∀ (a : Option Addr) (cap : Nat) (w : World), RowOf w a l → (∀ g, a = some ⟨g, 0, none⟩ → g < w.heap.size) → Calls Try.prog 12 #[.agg #[.int .i64 b, .slice a l.length cap], .int .i64 x, .int .i64 S] w fun e w' => e = .returned (.tuple #[.int .i64 r, .bool c]) ∧ Below w.heap.size w w') := by
  cases hat : atB b l x with
  | false => exact ⟨_, _, fun a cap w hr hlt => specStateAfter_f b a l.length cap l x S w rfl hl hr hlt hat, fun a cap w hr hlt => implStateAfter_f b a l.length cap l x S w rfl hl hr hlt hat⟩
  | true =>
    by_cases hS : S < 0 ∨ 1000000000 < S
    · exact ⟨_, _, fun a cap w hr hlt => specStateAfter_g b a l.length cap l x S w rfl hl hr hlt hat hS, fun a cap w hr hlt => implStateAfter_g b a l.length cap l x S w rfl hl hr hlt hat hS⟩
    · obtain ⟨s, hs⟩ := Int.eq_ofNat_of_zero_le (show 0 ≤ S by omega)
      obtain ⟨-, hin, hx⟩ := at_in hat
      obtain ⟨k, t, hst, ht, hte⟩ := stop_ex hin hx
      exact ⟨_, _, fun a cap w hr hlt => specStateAfter_t b a l.length cap l x S w rfl hl hr hlt hat k t s hst ht hte hs (by omega), fun a cap w hr hlt => implStateAfter_t b a l.length cap l x S w rfl hl hr hlt hat k t s hst ht hte hs (by omega)⟩
end Go.Proofs.Ytomdoamfdidghab
