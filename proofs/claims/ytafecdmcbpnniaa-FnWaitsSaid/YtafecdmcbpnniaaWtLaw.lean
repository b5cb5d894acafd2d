/- The walk of a law: how long edges wait. -/
import Derived.Test.YtafecdmcbpnniaaWtM
import Derived.Test.YtafecdmcbpnniaaMtLaw
namespace Go.Proofs.Ytafecdmcbpnniaa
open Go.RowKit
set_option linter.unusedVariables false
/-- is one near, as far as the third loop has come -/
def ClI (A ao t bf bh x : Int) (c : Bool) : Prop := c = true ↔ ∃ z, t - bf ≤ z ∧ z < x ∧ (z ≤ t ∨ z < t + bh) ∧ (z - ao) % A = 0
theorem cl_start (A ao t bf bh : Int) : ClI A ao t bf bh (t - bf) false := ⟨fun h => Bool.noConfusion h, fun ⟨z, h1, h2, _⟩ => by omega⟩
theorem cl_true {A ao t bf bh x : Int} (h : ClI A ao t bf bh x true) : ClI A ao t bf bh (x + 1) true := ⟨fun _ => by
  obtain ⟨z, h1, h2, h3⟩ := h.1 rfl
  exact ⟨z, h1, by omega, h3⟩, fun _ => rfl⟩
theorem cl_hit {A ao t bf bh x : Int} (hx : t - bf ≤ x) (h2 : x ≤ t ∨ x < t + bh) (hz : (x - ao) % A = 0) : ClI A ao t bf bh (x + 1) true := ⟨fun _ => ⟨x, hx, by omega, h2, hz⟩, fun _ => rfl⟩
theorem cl_miss {A ao t bf bh x : Int} (h : ClI A ao t bf bh x false) (hz : ¬ (x - ao) % A = 0) : ClI A ao t bf bh (x + 1) false := ⟨fun h => Bool.noConfusion h, fun ⟨z, h1, h2, h3, h4⟩ => by
  by_cases e : z = x
  · rw [e] at h4; exact absurd h4 hz
  · exact h.2 ⟨z, h1, by omega, h3, h4⟩⟩
theorem cl_end {A ao t bf bh x : Int} {c : Bool} (h : ClI A ao t bf bh x c) (h1 : ¬ x < t + bh) (h2 : ¬ x ≤ t) (hA : 1 ≤ A) (hbf : 0 ≤ bf) : c = nearC A bf bh ((t - ao) % A) := by
  rw [Bool.eq_iff_iff, ← close_iff A ao t bf bh hA hbf]
  exact ⟨fun hc => by obtain ⟨z, z1, _, z3, z4⟩ := h.1 hc; exact ⟨z, z1, z3, z4⟩, fun ⟨z, z1, z3, z4⟩ => h.2 ⟨z, z1, by omega, z3, z4⟩⟩
set_option maxHeartbeats 16000000 in
set_option maxRecDepth 100000 in
theorem walk_FnWaits (a : Option Addr) (n cap : Nat) (l : List Int) (a2 : Option Addr) (n2 cap2 : Nat) (l2 : List Int) (w : World) (hn : n = l.length) (hr : ByteRow w a l) (hm : n ≤ maxLen) (hn2 : n2 = l2.length) (hr2 : ByteRow w a2 l2) (hm2 : n2 ≤ maxLen) :
    Calls Try.prog 13 #[.slice a n cap, .slice a2 n2 cap2] w fun e w' => e = .returned (.bool true) ∧ Below w.heap.size w w' := by
  clear hm hm2
  have HLO := Lib.hid (fun w => r8Long_any a a2 n cap n2 cap2 w)
  by_cases hle : 48 < n ∨ 48 < n2
  · have hb : (decide (48 < n) || decide (48 < n2)) = true := by simp; omega
    rw [hb] at HLO
    clear hb hr hr2 hn hn2 hle
    go_enter Try.func13, Try.ntmps13
    go_wp2_with fail
    refine (HLO.out _).mono ?_; rintro e w' ⟨rfl, rfl⟩
    go_wp2
    go_ret
    exact ⟨rfl, Below.refl _ _⟩
  · have hb : (decide (48 < n) || decide (48 < n2)) = false := by simp; omega
    rw [hb] at HLO
    have HC1 := Lib.hid (r8Clock_any a n cap l w hn (by omega) hr)
    have HC2 := Lib.hid (fun W (b : Below w.heap.size w W) => r8Clock_any a2 n2 cap2 l2 W hn2 (by omega) (hr2.keep b (Nat.le_refl _)))
    have HA1 := Lib.hid (fun W (b : Below w.heap.size w W) => r8At_any a2 n2 cap2 l2 40 5 W hn2 (by omega) (hr2.keep b (Nat.le_refl _)) (by omega) (by omega) (by omega))
    have HA2 := Lib.hid (fun W (b : Below w.heap.size w W) => r8At_any a2 n2 cap2 l2 41 5 W hn2 (by omega) (hr2.keep b (Nat.le_refl _)) (by omega) (by omega) (by omega))
    obtain ⟨bf0, bf1⟩ := r8V_bd l2 40 5 (by omega)
    obtain ⟨bh0, bh1⟩ := r8V_bd l2 41 5 (by omega)
    obtain ⟨bf, hbf⟩ : ∃ z, r8V l2 40 5 = z := ⟨_, rfl⟩
    obtain ⟨bh, hbh⟩ : ∃ z, r8V l2 41 5 = z := ⟨_, rfl⟩
    rw [hbf] at HA1 bf0 bf1
    rw [hbh] at HA2 bh0 bh1
    clear hb hr hr2 hn hn2 hle hbf hbh
    go_enter Try.func13, Try.ntmps13
    go_wp2_with fail
    refine (HLO.out _).mono ?_; rintro e w' ⟨rfl, rfl⟩
    go_wp2_with fail
    refine HC1.out.mono ?_; rintro e w1 ⟨A, ao, rfl, hA, ha, hb1⟩
    have HB1 := Lib.hid (hb1.alloc hb1.size (.cells #[.int .i64 A, .int .i64 ao] 25))
    have CA1 := Lib.hid (CkAt.new w1 A ao 25)
    clear hb1
    go_wp2_with fail
    refine (HC2.out _ HB1.out).mono ?_; rintro e w2 ⟨B, bo, rfl, hB, hbo, hb2⟩
    have HB2 := Lib.hid ((bel_call HB1.out hb2).alloc (bel_call HB1.out hb2).size (.cells #[.int .i64 B, .int .i64 bo] 25))
    have CA2 := Lib.hid ((CA1.out.call hb2).alloc (.cells #[.int .i64 B, .int .i64 bo] 25))
    have CB2 := Lib.hid (CkAt.new w2 B bo 25)
    obtain ⟨-, ca20, ca21⟩ := CA2.out
    obtain ⟨-, cb20, cb21⟩ := CB2.out
    have hcl1 : clkB A ao = true := clkB_t ⟨by omega, by omega⟩
    have hcl2 : clkB B bo = true := clkB_t ⟨by omega, by omega⟩
    have HLW := Lib.hid (fun w => implLongestWait_t A ao B bo w hcl1 hcl2)
    have HCM := Lib.hid (fun B0 a n0 w (h : Recs w B0 (.slice a 2 n0) 2 [A, ao, B, bo]) => implCommon B0 a 2 n0 [A, ao, B, bo] (A / (Int.gcd A B : Int) * B) true w h (.inl ⟨allC2 A ao B bo hcl1 hcl2, comR2 A ao B bo hA hB, rfl⟩) (by omega))
    have HNE := Lib.hid (fun w => implNear_t A ao B bo bf bh w hcl1 hcl2 ⟨bf0, by omega⟩ ⟨bh0, by omega⟩)
    have HNB := Lib.hid (fun (t : Int) (h : 0 ≤ t ∧ t < 1000) w => implNextEdge_t B bo t w hcl2 ⟨by omega, by omega⟩)
    obtain ⟨g1, g2, g3⟩ := gcdZ_bd A B hA.1 hB.1
    have hR0 : 0 ≤ shR A ao B bo := by unfold shR; exact Int.emod_nonneg _ (by omega)
    have hR1 : shR A ao B bo < (Int.gcd A B : Int) := by unfold shR; exact Int.emod_lt_of_pos _ (by omega)
    obtain ⟨xq, yq, hx, hy, hyn, hL1⟩ := lcm_parts A B hA.1 hB.1
    obtain ⟨l1, l2', l3, l4, l5, l6, l7, l8⟩ := lcm_bd A B hA.1 (by omega) hB.1 (by omega)
    have l9 : A / (Int.gcd A B : Int) * B ≤ A * B := Int.mul_le_mul_of_nonneg_right l2' (by omega)
    have l10 : A * B ≤ 20 * 20 := Int.mul_le_mul hA.2 hB.2 (by omega) (by omega)
    have HTOP := Lib.hid (fun v => @most_end2 A ao B bo v hA hB ha hbo)
    have HWLE := Lib.hid (fun t h => wait_le A ao B bo t hA.1 hB.1 ha.1 hbo.1 h)
    have HCE := Lib.hid (fun c => @cnt_end A ao B bo bf bh c hA.1 hB.1 hbo bf0 bh0)
    have hnb := nearN_bd A B hA.1 hB.1
    have hnk := near_le A ao B bo bf bh (nearN A B).toNat
    obtain ⟨lw, hlw⟩ : ∃ lw, B - (Int.gcd A B : Int) + shR A ao B bo = lw := ⟨_, rfl⟩
    have hlw0 : 0 ≤ lw ∧ lw ≤ 40 := by omega
    rw [hlw] at HLW HTOP HWLE
    obtain ⟨nk, hnkk⟩ : ∃ nk : Int, ((nearK A ao B bo bf bh (nearN A B).toNat : Nat) : Int) = nk := ⟨_, rfl⟩
    rw [hnkk] at HNE HCE
    have hnk2 : 0 ≤ nk ∧ nk ≤ 20 := by omega
    obtain ⟨N, hN⟩ : ∃ N, nearN A B = N := ⟨_, rfl⟩
    rw [hN] at HNE hyn hnb
    obtain ⟨Lc, hLc⟩ : ∃ Lc, A / (Int.gcd A B : Int) * B = Lc := ⟨_, rfl⟩
    rw [hLc] at HCM HTOP HCE hx hy hL1 l9 l6 l7
    have hLd : Lc / B = N := by rw [hy, hyn]; exact Int.mul_ediv_cancel _ (by omega)
    have hLt : Lc.tdiv B = N := by rw [← hLd]; exact Int.tdiv_eq_ediv_of_nonneg (by omega)
    have y1 : IntKind.i64.wrap (Lc.tdiv B) = N := by rw [hLt]; exact IntWalk.i64_in _ (by omega)
    have y2 : IntKind.i64.wrap N = N := IntWalk.i64_in _ (by omega)
    have y3 : (N != N) = false := by simp
    have yA : (A == 0) = false := by simp; omega
    have yB : (B == 0) = false := by simp; omega
    have yA0 : ¬ A = 0 := by omega
    have yB0 : ¬ B = 0 := by omega
    have yl0 : IntKind.i64.wrap (40 + Lc) = 40 + Lc := IntWalk.i64_in _ (by omega)
    have yl1 : IntKind.i64.wrap (60 + Lc) = 60 + Lc := IntWalk.i64_in _ (by omega)
    have hLb : Lc ≤ 400 := by omega
    have HX := Lib.hid hx
    have HY := Lib.hid hy
    have HLD := Lib.hid hLd
    clear hLt hx hy hyn hLc hN hnkk hlw hcl1 hcl2 l1 l2' l3 l4 l5 l6 l7 l8 l9 l10 hnk hnb hR0 hR1 g1 g2 g3
    go_wp2_with fail
    refine (HLW.out _).mono ?_; rintro e w3 ⟨rfl, hb3⟩
    have HB3 := Lib.hid (bel_call HB2.out hb3)
    have CA3 := Lib.hid (CA2.out.call hb3)
    have CB3 := Lib.hid (CB2.out.call hb3)
    obtain ⟨-, x0, x1⟩ := CA3.out
    obtain ⟨-, x2, x3⟩ := CB3.out
    have hrw := recs_two w3 A ao B bo
    have HRW := Lib.hid hrw
    have HB3' := Lib.hid (HB3.out.alloc HB3.out.size (.cells #[.int .i64 A, .int .i64 ao, .int .i64 B, .int .i64 bo] 25))
    have CA3' := Lib.hid (CA3.out.alloc (.cells #[.int .i64 A, .int .i64 ao, .int .i64 B, .int .i64 bo] 25))
    have CB3' := Lib.hid (CB3.out.alloc (.cells #[.int .i64 A, .int .i64 ao, .int .i64 B, .int .i64 bo] 25))
    clear hrw hb3 ca20 ca21 cb20 cb21
    go_wp2_with fail
    refine (HCM.out _ _ _ _ HRW.out).mono ?_; rintro e w4 ⟨rfl, hb4⟩
    have HB4 := Lib.hid (bel_call HB3'.out hb4)
    have CA4 := Lib.hid (CA3'.out.call hb4)
    have CB4 := Lib.hid (CB3'.out.call hb4)
    clear hb4 x0 x1 x2 x3
    go_wp2_with fail
    refine (HA1.out _ HB4.out).mono ?_; rintro e w' ⟨rfl, rfl⟩
    go_wp2_with fail
    refine (HA2.out _ HB4.out).mono ?_; rintro e w' ⟨rfl, rfl⟩
    obtain ⟨-, x0, x1⟩ := CA4.out
    obtain ⟨-, x2, x3⟩ := CB4.out
    go_wp2_with fail
    refine (HNE.out _).mono ?_; rintro e w6 ⟨rfl, hb6⟩
    have HB6 := Lib.hid (bel_call HB4.out hb6)
    have CA6 := Lib.hid (CA4.out.call hb6)
    have CB6 := Lib.hid (CB4.out.call hb6)
    obtain ⟨-, v0, v1⟩ := CA6.out
    obtain ⟨-, v2, v3⟩ := CB6.out
    clear hb6 x0 x1 x2 x3
    go_wp2
    clear v0 v1 v2 v3 y1 y2 y3 hLd
    go_loopw [16, 17] (fun nv tv wr => ∃ (t v : Int), 40 ≤ t ∧ t ≤ 40 + Lc ∧ tv = .int .i64 t ∧ nv = .int .i64 v ∧ Hid (MostI A ao B bo lw t v) ∧ Hid (CkAt wr w1.heap.size A ao) ∧ Hid (CkAt wr w2.heap.size B bo) ∧ Hid (Below w.heap.size w wr)) (fun _ tv _ => (40 + Lc - intOf tv).toNat)
    case atStart => exact ⟨40, -1, by omega, by omega, rfl, rfl, most_start A ao B bo lw hlw0.1, CA6, CB6, HB6⟩
    case round =>
      obtain ⟨t, v, ht0, ht1, rfl, rfl, HMO, CAW, CBW, HBW⟩ := hrel
      by_cases hlt : t < 40 + Lc
      · have e1 : IntKind.i64.wrap (t - ao) = t - ao := IntWalk.i64_in _ (by omega)
        have e6 : IntKind.i64.wrap (t + 1) = t + 1 := IntWalk.i64_in _ (by omega)
        have k3 : 0 ≤ t - ao := by omega
        obtain ⟨-, ca0, ca1⟩ := CAW.out
        obtain ⟨-, cb0, cb1⟩ := CBW.out
        by_cases k4 : (t - ao) % A = 0
        · have k5 : (t - ao).tmod A = 0 := (tmod_zero _ _ (by omega)).2 k4
          have k6 : ((t - ao).tmod A != 0) = false := by simp [k5]
          have k7 : ((t - ao) % A != 0) = false := by simp [k4]
          have hedge : edgeP A ao t := ⟨by omega, k4⟩
          have hwle := HWLE.out t hedge (by omega)
          have HN1 := Lib.hid (HNB.out t ⟨by omega, by omega⟩)
          have hmb := befZ_mul B bo t hB.1 hbo.1 (by omega)
          have hup := @most_up A ao B bo lw t v HMO.out hwle
          have hkp := @most_keep A ao B bo lw t v HMO.out
          obtain ⟨NB, hNB⟩ : ∃ NB, bo + befZ B bo t * B = NB := ⟨_, rfl⟩
          rw [hNB] at HN1 hup hkp
          have e4 : IntKind.i64.wrap (NB - t) = NB - t := IntWalk.i64_in _ (by omega)
          by_cases m1 : v < NB - t
          · have m1d : decide (v < NB - t) = true := decide_eq_true m1
            have HST := Lib.hid (hup m1)
            clear hup hkp hwle hedge hmb hNB
            go_wp2_with fail
            refine (HN1.out _).mono ?_; rintro e w7 ⟨rfl, hb7⟩
            have HB7 := Lib.hid (bel_call HBW.out hb7)
            have CA7 := Lib.hid (CAW.out.call hb7)
            have CB7 := Lib.hid (CBW.out.call hb7)
            clear hb7
            go_wp2
            go_roundw
            case rel => exact ⟨t + 1, NB - t, by omega, by omega, rfl, rfl, HST, CA7, CB7, HB7⟩
            case measure => simp [intOf]; omega
          · have m1d : decide (v < NB - t) = false := decide_eq_false m1
            have HST := Lib.hid (hkp m1)
            clear hup hkp hwle hedge hmb hNB
            go_wp2_with fail
            refine (HN1.out _).mono ?_; rintro e w7 ⟨rfl, hb7⟩
            have HB7 := Lib.hid (bel_call HBW.out hb7)
            have CA7 := Lib.hid (CAW.out.call hb7)
            have CB7 := Lib.hid (CBW.out.call hb7)
            clear hb7
            go_wp2
            go_roundw
            case rel => exact ⟨t + 1, v, by omega, by omega, rfl, rfl, HST, CA7, CB7, HB7⟩
            case measure => simp [intOf]; omega
        · have k5 : ¬ (t - ao).tmod A = 0 := fun h => k4 ((tmod_zero _ _ (by omega)).1 h)
          have k6 : ((t - ao).tmod A != 0) = true := by simp [k5]
          have k7 : ((t - ao) % A != 0) = true := by simp [k4]
          have HST := Lib.hid (most_skip HMO.out (fun h => k4 h.2))
          go_wp2
          go_roundw
          case rel => exact ⟨t + 1, v, by omega, by omega, rfl, rfl, HST, CAW, CBW, HBW⟩
          case measure => simp [intOf]; omega
      · obtain rfl : t = 40 + Lc := by omega
        have hv := HTOP.out v HMO.out
        subst hv
        obtain ⟨wB, rfl⟩ : ∃ wB, wB = wr := ⟨_, rfl⟩
        obtain ⟨-, ca0, ca1⟩ := CAW.out
        obtain ⟨-, cb0, cb1⟩ := CBW.out
        have HC0 := Lib.hid (cnt_start A ao B bo bf bh hB.1 hbo)
        clear HMO
        go_wp2
        go_loop [20, 21] (fun cv tv => ∃ (t c : Int), 60 ≤ t ∧ t ≤ 60 + Lc ∧ 0 ≤ c ∧ c ≤ t ∧ tv = .int .i64 t ∧ cv = .int .i64 c ∧ Hid (CntI A ao B bo bf bh t c)) (fun _ tv => (60 + Lc - intOf tv).toNat)
        case atStart => exact ⟨60, 0, by omega, by omega, by omega, by omega, rfl, rfl, HC0⟩
        case round =>
          obtain ⟨t, c, ht0', ht1', hc0, hc1, rfl, rfl, HCI⟩ := hrel
          by_cases hlt2 : t < 60 + Lc
          · have e1 : IntKind.i64.wrap (t - bo) = t - bo := IntWalk.i64_in _ (by omega)
            have e2 : IntKind.i64.wrap (t - bf) = t - bf := IntWalk.i64_in _ (by omega)
            have e3 : IntKind.i64.wrap (t + bh) = t + bh := IntWalk.i64_in _ (by omega)
            have e5 : IntKind.i64.wrap (c + 1) = c + 1 := IntWalk.i64_in _ (by omega)
            have e6 : IntKind.i64.wrap (t + 1) = t + 1 := IntWalk.i64_in _ (by omega)
            have k3 : 0 ≤ t - bo := by omega
            by_cases k4 : (t - bo) % B = 0
            · have k5 : (t - bo).tmod B = 0 := (tmod_zero _ _ (by omega)).2 k4
              have k6 : ((t - bo).tmod B != 0) = false := by simp [k5]
              have k7 : ((t - bo) % B != 0) = false := by simp [k4]
              have HST := Lib.hid (cnt_edge hB.1 HCI.out k4)
              go_wp2
              clear k4 k5 k6 k7 k3
              go_loop [22, 23] (fun cv xv => ∃ (x : Int) (b : Bool), t - bf ≤ x ∧ x ≤ t + 10 ∧ (x ≤ t + 1 ∨ x ≤ t + bh) ∧ xv = .int .i64 x ∧ cv = .bool b ∧ Hid (ClI A ao t bf bh x b)) (fun _ xv => (t + 10 - intOf xv).toNat)
              case atStart => exact ⟨t - bf, false, by omega, by omega, by omega, rfl, rfl, cl_start A ao t bf bh⟩
              case round =>
                obtain ⟨x, b, hx0, hx1, hx2, rfl, rfl, HCL⟩ := hrel
                by_cases hin : x < t + bh ∨ x ≤ t
                · have f1 : IntKind.i64.wrap (x - ao) = x - ao := IntWalk.i64_in _ (by omega)
                  have f2 : IntKind.i64.wrap (x + 1) = x + 1 := IntWalk.i64_in _ (by omega)
                  have f3 : ao ≤ x := by omega
                  have f4 : 0 ≤ x - ao := by omega
                  have f5 : ¬ x < ao := by omega
                  rcases (show (x ≤ t ∧ (x < t + bh ∨ ¬ x < t + bh)) ∨ (¬ x ≤ t ∧ t ≤ x ∧ x < t + bh) by omega) with ⟨p1, p2 | p2⟩ | ⟨p1, p2, p3⟩
                  all_goals
                    cases b with
                    | true =>
                      have HCT := Lib.hid (cl_true HCL.out)
                      as_aux_lemma =>
                        go_wp2
                        go_round
                        case rel => exact ⟨x + 1, true, by omega, by omega, by omega, rfl, rfl, HCT⟩
                        case measure => simp [intOf]; omega
                    | false =>
                      by_cases k4 : (x - ao) % A = 0
                      · have k5 : (x - ao).tmod A = 0 := (tmod_zero _ _ (by omega)).2 k4
                        have k6 : ((x - ao).tmod A == 0) = true := by simp [k5]
                        have k7 : ((x - ao) % A == 0) = true := by simp [k4]
                        have HCT := Lib.hid (@cl_hit A ao t bf bh x hx0 (by omega) k4)
                        as_aux_lemma =>
                          go_wp2
                          go_round
                          case rel => exact ⟨x + 1, true, by omega, by omega, by omega, rfl, rfl, HCT⟩
                          case measure => simp [intOf]; omega
                      · have k5 : ¬ (x - ao).tmod A = 0 := fun h => k4 ((tmod_zero _ _ (by omega)).1 h)
                        have k6 : ((x - ao).tmod A == 0) = false := by simp [k5]
                        have k7 : ((x - ao) % A == 0) = false := by simp [k4]
                        have HCT := Lib.hid (cl_miss HCL.out k4)
                        as_aux_lemma =>
                          go_wp2
                          go_round
                          case rel => exact ⟨x + 1, false, by omega, by omega, by omega, rfl, rfl, HCT⟩
                          case measure => simp [intOf]; omega
                · have q1 : ¬ x < t + bh := by omega
                  have q2 : ¬ x ≤ t := by omega
                  have hbe := cl_end HCL.out q1 q2 hA.1 bf0
                  have hst := HST.out
                  rw [← hbe] at hst
                  have HCL2 := HCL
                  clear hbe
                  cases b with
                  | true =>
                    rw [if_pos rfl] at hst
                    have HS2 := Lib.hid hst
                    clear hst
                    go_wp2
                    go_round
                    case rel => exact ⟨t + 1, c + 1, by omega, by omega, by omega, by omega, rfl, rfl, HS2⟩
                    case measure => simp [intOf]; omega
                  | false =>
                    rw [if_neg Bool.noConfusion] at hst
                    have HS2 := Lib.hid hst
                    clear hst
                    go_wp2
                    go_round
                    case rel => exact ⟨t + 1, c, by omega, by omega, by omega, by omega, rfl, rfl, HS2⟩
                    case measure => simp [intOf]; omega
            · have k5 : ¬ (t - bo).tmod B = 0 := fun h => k4 ((tmod_zero _ _ (by omega)).1 h)
              have k6 : ((t - bo).tmod B != 0) = true := by simp [k5]
              have k7 : ((t - bo) % B != 0) = true := by simp [k4]
              have HST := Lib.hid (cnt_skip hB.1 HCI.out k4)
              go_wp2
              go_round
              case rel => exact ⟨t + 1, c, by omega, by omega, by omega, by omega, rfl, rfl, HST⟩
              case measure => simp [intOf]; omega
          · obtain rfl : t = 60 + Lc := by omega
            have hc := HCE.out c HCI.out
            subst hc
            clear HCI
            go_wp2
            go_ret
            exact ⟨by simp, HBW.out⟩
end Go.Proofs.Ytafecdmcbpnniaa
