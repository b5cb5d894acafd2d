/- The walk of a law: pulses of an accumulator come at their told ticks, less than a tick behind their times, with gaps between the told least and greatest one. -/
import Derived.Test.YthkooboiacajeaaAccLaw
import Derived.Test.YthkooboiacajeaaPErr
import Derived.Test.YthkooboiacajeaaSMake
import Derived.Test.YthkooboiacajeaaKept
import Derived.Test.YthkooboiacajeaaByteB
namespace Go.Proofs.Ythkooboiacajeaa
open Go.RowKit
set_option linter.unusedVariables false

/-- the number t is the tick: it is the least one behind whose end the sum is reached -/
theorem tick_eq (s q t : Int) (a : Int) (hs : 1 ≤ s) (h1 : a ≤ (q + 1) * s) (h2 : (q + 1) * s ≤ a + s - 1) (h3 : a ≤ (t + 1) * s) (h4 : t * s < a) : q = t := by
  have e1 : (q + 1) * s = q * s + s := by rw [Int.add_mul, Int.one_mul]
  have e2 : (t + 1) * s = t * s + s := by rw [Int.add_mul, Int.one_mul]
  rw [e1] at h1 h2
  rw [e2] at h3
  by_cases h : q < t
  · have := Int.mul_le_mul_of_nonneg_right (show q + 1 ≤ t by omega) (show 0 ≤ s by omega)
    rw [e1] at this; omega
  · by_cases h' : t < q
    · have := Int.mul_le_mul_of_nonneg_right (show t + 1 ≤ q by omega) (show 0 ≤ s by omega)
      rw [e2] at this; omega
    · omega
theorem gap_ok (s m t b p k : Int) (hs : 1 ≤ s) (hm : 1 ≤ m) (a1 : k * m ≤ p + (b + 1) * s) (a2 : p + b * s < k * m) (a3 : (k + 1) * m ≤ p + (t + 1) * s) (a4 : p + t * s < (k + 1) * m) : m / s ≤ t - b ∧ t - b ≤ upQ m s := by
  have e1 : (b + 1) * s = b * s + s := by rw [Int.add_mul, Int.one_mul]
  have e2 : (t + 1) * s = t * s + s := by rw [Int.add_mul, Int.one_mul]
  have e3 : (k + 1) * m = k * m + m := by rw [Int.add_mul, Int.one_mul]
  have e4 : (t - b) * s = t * s - b * s := Int.sub_mul _ _ _
  rw [e1] at a1
  rw [e2, e3] at a3
  rw [e3] at a4
  obtain ⟨-, -, u2, -⟩ := upQ_bd m s (by omega) hs
  have d1 := Int.ediv_mul_le m (show s ≠ 0 by omega)
  constructor
  · by_cases h : m / s ≤ t - b
    · exact h
    · have := Int.mul_le_mul_of_nonneg_right (show t - b + 1 ≤ m / s by omega) (show 0 ≤ s by omega)
      rw [Int.add_mul, Int.one_mul, e4] at this; omega
  · by_cases h : t - b ≤ upQ m s
    · exact h
    · have := Int.mul_le_mul_of_nonneg_right (show upQ m s + 1 ≤ t - b by omega) (show 0 ≤ s by omega)
      rw [Int.add_mul, Int.one_mul, e4] at this; omega
theorem range_ok (s m : Int) (hs : 1 ≤ s) (hm : 1 ≤ m) : m / s ≤ upQ m s ∧ upQ m s ≤ m / s + 1 := by
  obtain ⟨-, u1, u2, -⟩ := upQ_bd m s (by omega) hs
  have d1 := Int.ediv_mul_le m (show s ≠ 0 by omega)
  have d2 := Int.lt_ediv_add_one_mul_self m (show 0 < s by omega)
  constructor
  · by_cases h : m / s ≤ upQ m s
    · exact h
    · have := Int.mul_le_mul_of_nonneg_right (show upQ m s + 1 ≤ m / s by omega) (show 0 ≤ s by omega)
      rw [Int.add_mul, Int.one_mul] at this; omega
  · by_cases h : upQ m s ≤ m / s + 1
    · exact h
    · have := Int.mul_le_mul_of_nonneg_right (show m / s + 1 + 1 ≤ upQ m s by omega) (show 0 ≤ s by omega)
      rw [Int.add_mul (m / s + 1), Int.one_mul] at this; omega
/-- the wave at a tick -/
theorem acc_at (s m ph T t : Nat) (L : List UInt8) (ht : t < T) (h : L.drop t = accL s m ph (T - t)) : ∃ hl : t < L.length, (m ≤ ph + s → L[t] = 49 ∧ L.drop (t + 1) = accL s m (ph + s - m) (T - (t + 1))) ∧ (¬ m ≤ ph + s → L[t] = 48 ∧ L.drop (t + 1) = accL s m (ph + s) (T - (t + 1))) := by
  have hlen := congrArg List.length h
  rw [accL_len, List.length_drop] at hlen
  have hl : t < L.length := by omega
  refine ⟨hl, ?_⟩
  rw [List.drop_eq_getElem_cons hl, show T - t = (T - (t + 1)) + 1 from by omega, accL] at h
  constructor
  · intro hm
    rw [if_pos hm] at h
    exact ⟨(List.cons.inj h).1, (List.cons.inj h).2⟩
  · intro hm
    rw [if_neg hm] at h
    exact ⟨(List.cons.inj h).1, (List.cons.inj h).2⟩
theorem part_lt (a b g : Nat) (hg : 0 < g) (ha : g ∣ a) (hb : g ∣ b) (h : a < b) : a / g < b / g := by
  obtain ⟨x, rfl⟩ := ha
  obtain ⟨y, rfl⟩ := hb
  rw [Nat.mul_div_cancel_left _ hg, Nat.mul_div_cancel_left _ hg]
  exact Nat.lt_of_mul_lt_mul_left h

theorem mk_natp (n d : Nat) (hd : 0 < d) : mkN (n : Int) (d : Int) = ((n / Nat.gcd n d : Nat) : Int) ∧ mkD (n : Int) (d : Int) = ((d / Nat.gcd n d : Nat) : Int) := by
  obtain ⟨m1, m2⟩ := mk_pos (n : Int) (d : Int) (by omega)
  have e : ((Int.gcd (n : Int) (d : Int) : Nat) : Int) = ((Nat.gcd n d : Nat) : Int) := rfl
  rw [m1, m2, e]
  exact ⟨by rw [Int.tdiv_eq_ediv_of_nonneg (by omega)]; simp, by simp⟩
theorem str_at (L : List UInt8) (S : ByteArray) (h : (⟨L.toArray⟩ : ByteArray) = S) (t : Nat) (ht : t < L.length) : ∃ h2 : t < S.size, S[t] = L[t] := by
  subst h
  exact ⟨by simpa [ByteArray.size] using ht, by simp [ByteArray.getElem_eq_getElem_data]⟩

set_option maxHeartbeats 4000000 in
set_option maxRecDepth 100000 in
theorem walk_FnPulses (a : Option Addr) (n cap : Nat) (l : List Int) (a2 : Option Addr) (n2 cap2 : Nat) (l2 : List Int) (w : World) (hn : n = l.length) (hr : ByteRow w a l) (hm : n ≤ maxLen) (hn2 : n2 = l2.length) (hr2 : ByteRow w a2 l2) (hm2 : n2 ≤ maxLen) :
    Calls Try.prog 4 #[.slice a n cap, .slice a2 n2 cap2] w fun e w' => e = .returned (.bool true) ∧ Below w.heap.size w w' := by
  by_cases hlong : n ≤ 1048576 ∧ n2 ≤ 1048576
  · obtain ⟨k1, k2⟩ := hlong
    have HLO := Lib.hid (fun w => b10Long_any a a2 n cap n2 cap2 w)
    rw [decide_eq_false (show ¬ 1048576 < n by omega), decide_eq_false (show ¬ 1048576 < n2 by omega)] at HLO
    have hv0 := b10V_bd l 0 100 (by omega)
    have HV0 := Lib.hid (b10At_any a n cap l 0 100 w hn hr (by omega) (by omega) (by omega))
    obtain ⟨V0, e0⟩ := Int.eq_ofNat_of_zero_le hv0.1
    rw [e0] at HV0 hv0
    obtain ⟨m, hmm⟩ : ∃ m, 1 + V0 = m := ⟨_, rfl⟩
    have hmi : (1 : Int) + (V0 : Int) = (m : Int) := by omega
    have hmb : 1 ≤ m ∧ m ≤ 100 := by omega
    have hv1 := b10V_bd l 1 (m : Int) (by omega)
    have HV1 := Lib.hid (b10At_any a n cap l 1 (m : Int) w hn hr (by omega) (by omega) (by omega))
    obtain ⟨V1, e1⟩ := Int.eq_ofNat_of_zero_le hv1.1
    rw [e1] at HV1 hv1
    obtain ⟨s, hss⟩ : ∃ s, 1 + V1 = s := ⟨_, rfl⟩
    have hsi : (1 : Int) + (V1 : Int) = (s : Int) := by omega
    have hsb : 1 ≤ s ∧ s ≤ m := by omega
    have hv2 := b10V_bd l2 0 (m : Int) (by omega)
    have HV2 := Lib.hid (b10At_any a2 n2 cap2 l2 0 (m : Int) w hn2 hr2 (by omega) (by omega) (by omega))
    obtain ⟨p, e2⟩ := Int.eq_ofNat_of_zero_le hv2.1
    rw [e2] at HV2 hv2
    have hpm : p < m := by omega
    have HAW := Lib.hid (fun w => implAccW_t s m p 200 w (by omega) (by omega) (by omega) (by omega) hpm (by omega))
    have HGR := Lib.hid (fun w => implGap_t (s : Int) (m : Int) w (by omega) (by omega) (by omega) (by omega))
    obtain ⟨r1, r2⟩ := range_ok (s : Int) (m : Int) (by omega) (by omega)
    have r3 : 0 ≤ (m : Int) / (s : Int) := Int.ediv_nonneg (by omega) (by omega)
    have r4 : (m : Int) / (s : Int) ≤ (m : Int) := Int.ediv_le_self _ (by omega)
    obtain ⟨lo, hlo⟩ : ∃ lo, (m : Int) / (s : Int) = lo := ⟨_, rfl⟩
    obtain ⟨hi, hhi⟩ : ∃ hi, upQ (m : Int) (s : Int) = hi := ⟨_, rfl⟩
    rw [hlo, hhi] at HGR r1 r2
    rw [hlo] at r3 r4
    have hlenL := accL_len s m 200 p
    obtain ⟨LL, hLL⟩ : ∃ LL, accL s m p 200 = LL := ⟨_, rfl⟩
    have hdr0 : LL.drop 0 = accL s m p (200 - 0) := by rw [← hLL]; rfl
    rw [hLL] at hlenL HAW
    obtain ⟨S, hS⟩ : ∃ S : ByteArray, (⟨LL.toArray⟩ : ByteArray) = S := ⟨_, rfl⟩
    have hsz : S.size = 200 := by rw [← hS]; simpa [ByteArray.size] using hlenL
    rw [hS] at HAW
    have HSS := Lib.hid hS
    have HDR0 := Lib.hid hdr0
    have hdf : ¬ (1 : Int) < hi - lo := by omega
    have hlh : ¬ hi < lo := by omega
    have whl : IntKind.i64.wrap (hi - lo) = hi - lo := IntWalk.i64_in _ (by omega)
    clear e0 e1 e2 hv0 hv1 hv2 hmm hss hn hr hn2 hr2 hS hdr0 hLL hlenL
    go_enter Try.func4, Try.ntmps4
    go_wp2_with fail
    refine (HLO.out _).mono ?_; rintro e w' ⟨rfl, rfl⟩
    go_wp2_with fail
    refine HV0.out.mono ?_; rintro e w' ⟨rfl, rfl⟩
    go_wp2_with fail
    refine HV1.out.mono ?_; rintro e w' ⟨rfl, rfl⟩
    go_wp2_with fail
    refine HV2.out.mono ?_; rintro e w' ⟨rfl, rfl⟩
    go_wp2_with fail
    refine (HAW.out _).mono ?_; rintro e w1 ⟨rfl, b1⟩
    have B1 := Lib.hid b1
    clear b1
    go_wp2_with fail
    refine (HGR.out _).mono ?_; rintro e w2 ⟨rfl, b2⟩
    have B2 := Lib.hid (B1.out.trans (b2.mono B1.out.size))
    clear b2
    go_wp2
    go_loopw [13, 14, 15] (fun ks bs ts wr => ∃ (tt k ph : Nat) (bf : Int), ts = .int .i64 (tt : Int) ∧ ks = .int .i64 (k : Int) ∧ bs = .int .i64 bf ∧ tt ≤ 200 ∧ k ≤ tt ∧ ph < m ∧ LL.drop tt = accL s m ph (200 - tt) ∧ (p : Int) + (tt : Int) * (s : Int) = (ph : Int) + (k : Int) * (m : Int) ∧ (bf = -1 ∨ (0 ≤ bf ∧ bf < (tt : Int) ∧ (k : Int) * (m : Int) ≤ (p : Int) + (bf + 1) * (s : Int) ∧ (p : Int) + bf * (s : Int) < (k : Int) * (m : Int))) ∧ Below w.heap.size w wr) (fun _ _ ts _ => 200 - (intOf ts).toNat)
    case atStart => exact ⟨0, 0, p, -1, rfl, rfl, rfl, by omega, by omega, hpm, HDR0.out, by simp, .inl rfl, B2.out⟩
    case round =>
      obtain ⟨tt, k, ph, bf, rfl, rfl, rfl, ht, hk, hph, hdr, heq, hbf, hB⟩ := hrel
      have HB := Lib.hid hB
      clear hB
      by_cases hlt : tt < 200
      · obtain ⟨hl1, hpul, hnot⟩ := acc_at s m ph 200 tt LL hlt hdr
        obtain ⟨hl2, hat⟩ := str_at LL S HSS.out tt hl1
        have e1 : ((tt : Int) + 1) * (s : Int) = (tt : Int) * (s : Int) + (s : Int) := by rw [Int.add_mul, Int.one_mul]
        by_cases hm3 : m ≤ ph + s
        · obtain ⟨hv, hdr2⟩ := hpul hm3
          rw [hv] at hat
          have hb48 : ((S[tt].toNat : Int) == 48) = false := by rw [hat]; decide
          have HDR := Lib.hid hdr2
          have e3 : ((k : Int) + 1) * (m : Int) = (k : Int) * (m : Int) + (m : Int) := by rw [Int.add_mul, Int.one_mul]
          have HPH := Lib.hid (show (p : Int) + ((tt + 1 : Nat) : Int) * (s : Int) = ((ph + s - m : Nat) : Int) + ((k + 1 : Nat) : Int) * (m : Int) from by
            rw [show ((tt + 1 : Nat) : Int) = (tt : Int) + 1 from by omega, show ((k + 1 : Nat) : Int) = (k : Int) + 1 from by omega, e1, e3]; omega)
          have hp1 : ((k : Int) + 1) * (m : Int) ≤ (p : Int) + ((tt : Int) + 1) * (s : Int) := by rw [e1, e3]; omega
          have hp2 : (p : Int) + (tt : Int) * (s : Int) < ((k : Int) + 1) * (m : Int) := by rw [e3]; omega
          -- the tick
          obtain ⟨b1, b2, b3, t1, t2, t3, t4⟩ := tk_bd (s : Int) (m : Int) (p : Int) (k : Int) (by omega) (by omega) (by omega) (by omega) (by omega) (by omega) (by omega) (by omega)
          have htq : tkQ (s : Int) (m : Int) (p : Int) (k : Int) = (tt : Int) := tick_eq (s : Int) _ (tt : Int) (((k : Int) + 1) * (m : Int) - (p : Int)) (by omega) t3 t4 (by omega) (by omega)
          have HTK := Lib.hid (fun w => implTick_t (s : Int) (m : Int) (p : Int) (k : Int) w (by omega) (by omega) (by omega) (by omega) (by omega) (by omega) (by omega) (by omega))
          rw [htq] at HTK
          -- how late
          obtain ⟨u1, u2, u3, u4, u5, u6, u7⟩ := tk_bd (s : Int) (m : Int) 0 (k : Int) (by omega) (by omega) (by omega) (by omega) (by omega) (by omega) (by omega) (by omega)
          have HER := Lib.hid (fun w => implErr_t (s : Int) (m : Int) (k : Int) w (by omega) (by omega) (by omega) (by omega) (by omega) (by omega))
          have HST := Lib.hid (fun w => specTick_t (s : Int) (m : Int) 0 (k : Int) w (by omega) (by omega) (by omega) (by omega) (by omega) (by omega) (by omega) (by omega))
          have hlq : (tkQ (s : Int) (m : Int) 0 (k : Int) + 1) * (s : Int) - ((k : Int) + 1) * (m : Int) = lateQ (s : Int) (m : Int) (k : Int) := rfl
          have hl0 : 0 ≤ lateQ (s : Int) (m : Int) (k : Int) ∧ lateQ (s : Int) (m : Int) (k : Int) < (s : Int) := by rw [← hlq]; omega
          obtain ⟨lt, hlt2⟩ := Int.eq_ofNat_of_zero_le hl0.1
          rw [hlt2] at hlq hl0 HER
          have hmk := mk_natp lt s (by omega)
          have HMK := Lib.hid (fun w => specMake_t (lt : Int) (s : Int) w (by omega) (by omega) (by omega) (by omega) (by omega))
          rw [hmk.1, hmk.2] at HMK HER
          have hND : lt / Nat.gcd lt s < s / Nat.gcd lt s := part_lt lt s _ (Nat.gcd_pos_of_pos_right _ (by omega)) (Nat.gcd_dvd_left _ _) (Nat.gcd_dvd_right _ _) (by omega)
          generalize lt / Nat.gcd lt s = N1 at *
          generalize s / Nat.gcd lt s = D1 at *
          generalize tkQ (s : Int) (m : Int) 0 (k : Int) = q0 at *
          have x1 : IntKind.i64.wrap (q0 + 1) = q0 + 1 := IntWalk.i64_in _ (by omega)
          have x2 : IntKind.i64.wrap ((q0 + 1) * (s : Int)) = (q0 + 1) * (s : Int) := IntWalk.i64_in _ (by omega)
          have x3 : IntKind.i64.wrap (((k : Int) + 1) * (m : Int)) = ((k : Int) + 1) * (m : Int) := IntWalk.i64_in _ (by omega)
          have x4 : IntKind.i64.wrap (lt : Int) = (lt : Int) := IntWalk.i64_in _ (by omega)
          have hNDi : ¬ (D1 : Int) ≤ (N1 : Int) := by omega
          have hN0 : ¬ (N1 : Int) < 0 := by omega
          clear hpul hnot hat hv hdr2 heq e1 e3 b1 b2 b3 t1 t2 t3 t4 u1 u2 u3 u4 u5 u6 u7 htq hlt2 hl0 hmk hdr hND
          rcases hbf with hbn | ⟨hb1, hb2, hb3, hb4⟩
          · subst hbn
            have HP1 := Lib.hid hp1
            have HP2 := Lib.hid hp2
            have HLO := Lib.hid hlo
            have HHI := Lib.hid hhi
            clear hp1 hp2 hlo hhi
            go_wp2_with fail
            refine (HTK.out _).mono ?_; rintro e w1 ⟨rfl, b1⟩
            have B1 := Lib.hid (HB.out.trans (b1.mono HB.out.size))
            clear b1
            go_wp2_with fail
            refine (HER.out _).mono ?_; rintro e w2 ⟨rfl, b2⟩
            have B2 := Lib.hid ((B1.out.trans (b2.mono B1.out.size)).alloc (Nat.le_trans B1.out.size b2.size) (.cells #[.int .i64 (N1 : Int), .int .i64 (D1 : Int)] 26))
            clear b2
            go_wp2_with fail
            refine (HST.out _).mono ?_; rintro e w' ⟨rfl, rfl⟩
            go_wp2_with fail
            refine (HMK.out _).mono ?_; rintro e w3 ⟨rfl, b3⟩
            have q0 := cell_alloc_kept (o := .cells #[.int .i64 (N1 : Int), .int .i64 (D1 : Int)] 26) (cell_kept b3 (a := ⟨w2.heap.size, 0, none⟩) (v := .int .i64 (N1 : Int)) (by simp [go_sem]))
            have q1 := cell_alloc_kept (o := .cells #[.int .i64 (N1 : Int), .int .i64 (D1 : Int)] 26) (cell_kept b3 (a := ⟨w2.heap.size, 1, none⟩) (v := .int .i64 (D1 : Int)) (by simp [go_sem]))
            have B3 := Lib.hid ((B2.out.trans (b3.mono B2.out.size)).alloc (Nat.le_trans B2.out.size b3.size) (.cells #[.int .i64 (N1 : Int), .int .i64 (D1 : Int)] 26))
            clear b3
            go_wp2
            go_roundw
            case rel => exact ⟨tt + 1, k + 1, ph + s - m, (tt : Int), by go_num, by go_num, rfl, by omega, by omega, by omega, HDR.out, HPH.out, .inr ⟨by omega, by omega, HP1.out, HP2.out⟩, B3.out⟩
            case measure => simp [intOf]; omega
          · have hb5 : ¬ bf < 0 := by omega
            obtain ⟨c1, c2⟩ := gap_ok (s : Int) (m : Int) (tt : Int) bf (p : Int) (k : Int) (by omega) (by omega) hb3 hb4 hp1 hp2
            rw [hlo] at c1
            rw [hhi] at c2
            have c1' : ¬ (tt : Int) - bf < lo := by omega
            have c2' : ¬ hi < (tt : Int) - bf := by omega
            have wtb : IntKind.i64.wrap ((tt : Int) - bf) = (tt : Int) - bf := IntWalk.i64_in _ (by omega)
            clear hb3 hb4
            have HP1 := Lib.hid hp1
            have HP2 := Lib.hid hp2
            have HLO := Lib.hid hlo
            have HHI := Lib.hid hhi
            clear hp1 hp2 hlo hhi
            go_wp2_with fail
            refine (HTK.out _).mono ?_; rintro e w1 ⟨rfl, b1⟩
            have B1 := Lib.hid (HB.out.trans (b1.mono HB.out.size))
            clear b1
            go_wp2_with fail
            refine (HER.out _).mono ?_; rintro e w2 ⟨rfl, b2⟩
            have B2 := Lib.hid ((B1.out.trans (b2.mono B1.out.size)).alloc (Nat.le_trans B1.out.size b2.size) (.cells #[.int .i64 (N1 : Int), .int .i64 (D1 : Int)] 26))
            clear b2
            go_wp2_with fail
            refine (HST.out _).mono ?_; rintro e w' ⟨rfl, rfl⟩
            go_wp2_with fail
            refine (HMK.out _).mono ?_; rintro e w3 ⟨rfl, b3⟩
            have q0 := cell_alloc_kept (o := .cells #[.int .i64 (N1 : Int), .int .i64 (D1 : Int)] 26) (cell_kept b3 (a := ⟨w2.heap.size, 0, none⟩) (v := .int .i64 (N1 : Int)) (by simp [go_sem]))
            have q1 := cell_alloc_kept (o := .cells #[.int .i64 (N1 : Int), .int .i64 (D1 : Int)] 26) (cell_kept b3 (a := ⟨w2.heap.size, 1, none⟩) (v := .int .i64 (D1 : Int)) (by simp [go_sem]))
            have B3 := Lib.hid ((B2.out.trans (b3.mono B2.out.size)).alloc (Nat.le_trans B2.out.size b3.size) (.cells #[.int .i64 (N1 : Int), .int .i64 (D1 : Int)] 26))
            clear b3
            go_wp2
            go_roundw
            case rel => exact ⟨tt + 1, k + 1, ph + s - m, (tt : Int), by go_num, by go_num, rfl, by omega, by omega, by omega, HDR.out, HPH.out, .inr ⟨by omega, by omega, HP1.out, HP2.out⟩, B3.out⟩
            case measure => simp [intOf]; omega
        · obtain ⟨hv, hdr2⟩ := hnot hm3
          rw [hv] at hat
          have hb48 : ((S[tt].toNat : Int) == 48) = true := by rw [hat]; decide
          have HDR := Lib.hid hdr2
          have HPH := Lib.hid (show (p : Int) + ((tt + 1 : Nat) : Int) * (s : Int) = ((ph + s : Nat) : Int) + (k : Int) * (m : Int) from by
            rw [show ((tt + 1 : Nat) : Int) = (tt : Int) + 1 from by omega, e1]; omega)
          have HBF := Lib.hid hbf
          clear hpul hnot hat hv hdr2 heq e1 hbf hdr
          go_wp2
          go_roundw
          case rel => exact ⟨tt + 1, k, ph + s, bf, by go_num, rfl, rfl, by omega, by omega, by omega, HDR.out, HPH.out, HBF.out.elim .inl (fun h => .inr ⟨h.1, by have := h.2.1; omega, h.2.2⟩), HB.out⟩
          case measure => simp [intOf]; omega
      · have hte : tt = 200 := by omega
        obtain ⟨b1, b2, b3, t1, t2, t3, t4⟩ := tk_bd (s : Int) (m : Int) (p : Int) (k : Int) (by omega) (by omega) (by omega) (by omega) (by omega) (by omega) (by omega) (by omega)
        have HTK := Lib.hid (fun w => implTick_t (s : Int) (m : Int) (p : Int) (k : Int) w (by omega) (by omega) (by omega) (by omega) (by omega) (by omega) (by omega) (by omega))
        have e3 : ((k : Int) + 1) * (m : Int) = (k : Int) * (m : Int) + (m : Int) := by rw [Int.add_mul, Int.one_mul]
        have hge : ¬ tkQ (s : Int) (m : Int) (p : Int) (k : Int) < 200 := by
          intro h
          have h2 := Int.mul_le_mul_of_nonneg_right (show tkQ (s : Int) (m : Int) (p : Int) (k : Int) + 1 ≤ 200 by omega) (show 0 ≤ (s : Int) by omega)
          rw [hte] at heq
          have : ((200 : Nat) : Int) = 200 := rfl
          rw [this] at heq
          omega
        generalize tkQ (s : Int) (m : Int) (p : Int) (k : Int) = q0 at *
        clear b1 b2 b3 t1 t2 t3 t4 e3 heq hdr hbf hte
        go_wp2_with fail
        refine (HTK.out _).mono ?_; rintro e w3 ⟨rfl, b3⟩
        go_wp2
        go_ret
        exact ⟨rfl, HB.out.trans (b3.mono HB.out.size)⟩
  · have HLO := Lib.hid (fun w => b10Long_any a a2 n cap n2 cap2 w)
    have hb : (decide (1048576 < n) || decide (1048576 < n2)) = true := by simp; omega
    rw [hb] at HLO
    clear hr hr2 hn hn2 hb hlong
    go_enter Try.func4, Try.ntmps4
    go_wp2_with fail
    refine (HLO.out _).mono ?_; rintro e w' ⟨rfl, rfl⟩
    go_wp2
    go_ret
    exact ⟨rfl, Below.refl _ _⟩
end Go.Proofs.Ythkooboiacajeaa
