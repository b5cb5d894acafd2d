/- The walk of a law: where two clocks meet. -/
import Derived.Test.YtafecdmcbpnniaaMtN
import Derived.Deep.CutRange
namespace Go.Proofs.Ytafecdmcbpnniaa
open Go.RowKit
set_option linter.unusedVariables false
theorem recs_two (w : World) (x y z u : Int) : Recs (w.alloc (.cells #[.int .i64 x, .int .i64 y, .int .i64 z, .int .i64 u] 25)) w.heap.size (.slice (some ⟨w.heap.size, 0, none⟩) 2 2) 2 [x, y, z, u] :=
  ⟨rfl, World.ownsRow_lit w #[.int .i64 x, .int .i64 y, .int .i64 z, .int .i64 u] 2 (Nat.le_refl _) (by unfold maxLen; omega) rfl⟩
set_option maxHeartbeats 16000000 in
set_option maxRecDepth 100000 in
theorem walk_FnMeetings (a : Option Addr) (n cap : Nat) (l : List Int) (a2 : Option Addr) (n2 cap2 : Nat) (l2 : List Int) (w : World) (hn : n = l.length) (hr : ByteRow w a l) (hm : n ≤ maxLen) (hn2 : n2 = l2.length) (hr2 : ByteRow w a2 l2) (hm2 : n2 ≤ maxLen) :
    Calls Try.prog 14 #[.slice a n cap, .slice a2 n2 cap2] w fun e w' => e = .returned (.bool true) ∧ Below w.heap.size w w' := by
  clear hm hm2
  have HLO := Lib.hid (fun w => r8Long_any a a2 n cap n2 cap2 w)
  by_cases hle : 48 < n ∨ 48 < n2
  · have hb : (decide (48 < n) || decide (48 < n2)) = true := by simp; omega
    rw [hb] at HLO
    clear hb hr hr2 hn hn2 hle
    go_enter Try.func14, Try.ntmps14
    go_wp2_with fail
    refine (HLO.out _).mono ?_; rintro e w' ⟨rfl, rfl⟩
    go_wp2
    go_ret
    exact ⟨rfl, Below.refl _ _⟩
  · have hb : (decide (48 < n) || decide (48 < n2)) = false := by simp; omega
    rw [hb] at HLO
    have HC1 := Lib.hid (r8Clock_any a n cap l w hn (by omega) hr)
    have HC2 := Lib.hid (fun W (b : Below w.heap.size w W) => r8Clock_any a2 n2 cap2 l2 W hn2 (by omega) (hr2.keep b (Nat.le_refl _)))
    clear hb hr hr2 hn hn2 hle
    go_enter Try.func14, Try.ntmps14
    go_wp2_with fail
    refine (HLO.out _).mono ?_; rintro e w' ⟨rfl, rfl⟩
    go_wp2_with fail
    refine HC1.out.mono ?_; rintro e w1 ⟨A, ao, rfl, hA, ha, hb1⟩
    have HB1 := Lib.hid (hb1.alloc hb1.size (.cells #[.int .i64 A, .int .i64 ao] 25))
    have CA1 := Lib.hid (CkAt.new w1 A ao 25)
    have hle1 := hb1.size
    clear hb1
    go_wp2_with fail
    refine (HC2.out _ HB1.out).mono ?_; rintro e w2 ⟨B, bo, rfl, hB, hbo, hb2⟩
    have HB2 := Lib.hid ((bel_call HB1.out hb2).alloc (bel_call HB1.out hb2).size (.cells #[.int .i64 B, .int .i64 bo] 25))
    have CA2 := Lib.hid ((CA1.out.call hb2).alloc (.cells #[.int .i64 B, .int .i64 bo] 25))
    have CB2 := Lib.hid (CkAt.new w2 B bo 25)
    obtain ⟨-, ca20, ca21⟩ := CA2.out
    obtain ⟨-, cb20, cb21⟩ := CB2.out
    have hcl1 : clkB A ao = true := clkB_t ⟨by omega, by omega⟩
    have hcl2 : clkB B bo = true := clkB_t ⟨by omega, by omega⟩
    obtain ⟨r, c, hM⟩ := firstA_ex [A, ao, B, bo] 2
    have hM' : MeetR [A, ao, B, bo] 2 r c := by
      rcases hM with ⟨-, h⟩ | ⟨h, -⟩
      · exact h
      · rw [allC2 A ao B bo hcl1 hcl2] at h; cases h
    have HT := Lib.hid (mt_facts A ao B bo r c hA hB ha hbo hM')
    have HFM := Lib.hid (fun B0 a n0 w (h : Recs w B0 (.slice a 2 n0) 2 [A, ao, B, bo]) => implFirst B0 a 2 n0 [A, ao, B, bo] r c w h hM (by omega))
    have HCM := Lib.hid (fun B0 a n0 w (h : Recs w B0 (.slice a 2 n0) 2 [A, ao, B, bo]) => implCommon B0 a 2 n0 [A, ao, B, bo] (A / (Int.gcd A B : Int) * B) true w h (.inl ⟨allC2 A ao B bo hcl1 hcl2, comR2 A ao B bo hA hB, rfl⟩) (by omega))
    have HLG := Lib.hid (fun w => implLeastGap_t A ao B bo w hcl1 hcl2)
    have HNB := Lib.hid (fun (t : Nat) (h : t < 900) w => implNextEdge_t B bo (t : Int) w hcl2 ⟨by omega, by omega⟩)
    have HNA := Lib.hid (fun (t : Nat) (h : t < 900) w => implNextEdge_t A ao (t : Int) w hcl1 ⟨by omega, by omega⟩)
    have hgz : (min (shR A ao B bo) ((Int.gcd A B : Int) - shR A ao B bo)) = gapZ A ao B bo := rfl
    rw [hgz] at HLG
    obtain ⟨Lc, hLc⟩ : ∃ Lc, A / (Int.gcd A B : Int) * B = Lc := ⟨_, rfl⟩
    obtain ⟨gp, hgp⟩ : ∃ gp, gapZ A ao B bo = gp := ⟨_, rfl⟩
    rw [hLc] at HT HCM
    rw [hgp] at HT HLG
    have hrw := recs_two (w2.alloc (.cells #[.int .i64 B, .int .i64 bo] 25)) A ao B bo
    simp only [World.size_alloc] at hrw
    have HRW := Lib.hid hrw
    clear hrw
    have HB3 := Lib.hid (HB2.out.alloc HB2.out.size (.cells #[.int .i64 A, .int .i64 ao, .int .i64 B, .int .i64 bo] 25))
    have CA3 := Lib.hid (CA2.out.alloc (.cells #[.int .i64 A, .int .i64 ao, .int .i64 B, .int .i64 bo] 25))
    have CB3 := Lib.hid (CB2.out.alloc (.cells #[.int .i64 A, .int .i64 ao, .int .i64 B, .int .i64 bo] 25))
    have hl1 := HT.out.l1
    have hl2 := HT.out.l2
    have hl3 := HT.out.l3
    have hl4 := HT.out.l4
    have hgz0 := HT.out.gz
    have hg0 := HT.out.g0
    have hg1 := HT.out.g1
    have hrr0 := HT.out.r0
    have hrr1 := HT.out.r1
    have hAB : A * B ≤ 20 * 20 := Int.mul_le_mul hA.2 hB.2 (by omega) (by omega)
    have hAB0 : 0 ≤ A * B := Int.mul_nonneg (by omega) (by omega)
    have y1 : IntKind.i64.wrap (A * B) = A * B := IntWalk.i64_in _ (by omega)
    have y2 : Lc.tmod A = 0 := (tmod_zero _ _ (by omega)).2 hl3
    have y3 : Lc.tmod B = 0 := (tmod_zero _ _ (by omega)).2 hl4
    have y4 : (Lc.tmod A != 0) = false := by simp [y2]
    have y5 : (Lc.tmod B != 0) = false := by simp [y3]
    have y6 : (Lc % A != 0) = false := by simp [hl3]
    have y7 : (Lc % B != 0) = false := by simp [hl4]
    have y8 : ¬ Lc < 1 := by omega
    have y9 : ¬ A * B < Lc := by omega
    have yA : (A == 0) = false := by simp; omega
    have yB : (B == 0) = false := by simp; omega
    have yA0 : ¬ A = 0 := by omega
    have yB0 : ¬ B = 0 := by omega
    have yL : (Lc == 0) = false := by simp; omega
    have yL0 : ¬ Lc = 0 := by omega
    have yg : (gp == 0) = c := by
      rw [hgz0]
      by_cases h : gp = 0
      · simp [h]
      · have : (gp == 0) = false := by simp [h]
        simp [this, h]
    clear hgz0 hM hM' hgz hLc hgp hcl1 hcl2 hl1 hl2 hl3 hl4 hAB hAB0 hle1
    go_wp2_with fail
    refine (HFM.out _ _ _ _ HRW.out).mono ?_; rintro e w3 ⟨rfl, hb3⟩
    have HB4 := Lib.hid (bel_call HB3.out hb3)
    have CA4 := Lib.hid (CA3.out.call hb3)
    have CB4 := Lib.hid (CB3.out.call hb3)
    have HRW4 := Lib.hid (HRW.out.keep hb3 (Nat.le_refl _))
    clear hb3
    go_wp2_with fail
    refine (HCM.out _ _ _ _ HRW4.out).mono ?_; rintro e w4 ⟨rfl, hb4⟩
    have HB5 := Lib.hid (bel_call HB4.out hb4)
    have CA5' := Lib.hid (CA4.out.call hb4)
    have CB5' := Lib.hid (CB4.out.call hb4)
    obtain ⟨-, x0, x1⟩ := CA5'.out
    obtain ⟨-, x2, x3⟩ := CB5'.out
    clear hb4 ca20 ca21 cb20 cb21
    go_wp2_with fail
    refine (HLG.out _).mono ?_; rintro e w5 ⟨rfl, hb5⟩
    have HB6 := Lib.hid (bel_call HB5.out hb5)
    have CA6' := Lib.hid (CA5'.out.call hb5)
    have CB6' := Lib.hid (CB5'.out.call hb5)
    obtain ⟨-, v0, v1⟩ := CA6'.out
    obtain ⟨-, v2, v3⟩ := CB6'.out
    clear hb5 x0 x1 x2 x3
    go_wp2
    clear v0 v1 v2 v3 yg y1 y2 y3 y4 y5 y6 y7 y8 y9
    go_loopw [14, 15] (fun nv tv wr => ∃ (t : Nat) (v : Int), t ≤ 900 ∧ tv = .int .i64 (t : Int) ∧ nv = .int .i64 v ∧ NearI A ao B bo gp t v ∧ Hid (CkAt wr w1.heap.size A ao) ∧ Hid (CkAt wr w2.heap.size B bo) ∧ Hid (Below w.heap.size w wr)) (fun _ tv _ => 900 - (intOf tv).toNat)
    case atStart => exact ⟨0, 1000, by omega, rfl, rfl, ⟨by omega, by omega, fun s h0 h1 => by omega⟩, CA6', CB6', HB6⟩
    case round =>
      obtain ⟨t, v, ht, rfl, rfl, hnear, CAW, CBW, HBW⟩ := hrel
      by_cases hlt : t < 900
      · have hltI : (t : Int) < 900 := by omega
        obtain ⟨x, hx⟩ : ∃ x : Bool, x = true ↔ edgeP A ao (t : Int) := by
          rcases Classical.em (edgeP A ao (t : Int)) with h | h
          · exact ⟨true, by simp [h]⟩
          · exact ⟨false, by simp [h]⟩
        obtain ⟨y, hy⟩ : ∃ y : Bool, y = true ↔ edgeP B bo (t : Int) := by
          rcases Classical.em (edgeP B bo (t : Int)) with h | h
          · exact ⟨true, by simp [h]⟩
          · exact ⟨false, by simp [h]⟩
        have hst := near_step HT.out hnear x y hx hy
        have Hx := Lib.hid hx
        have Hy := Lib.hid hy
        have HST := Lib.hid hst
        have HNEAR := Lib.hid hnear
        have HNB := Lib.hid (HNB.out t hlt)
        have HNA := Lib.hid (HNA.out t hlt)
        have hmb := befZ_mul B bo (t : Int) hB.1 hbo.1 (by omega)
        have hma := befZ_mul A ao (t : Int) hA.1 ha.1 (by omega)
        obtain ⟨NB, hNB⟩ : ∃ NB, bo + befZ B bo (t : Int) * B = NB := ⟨_, rfl⟩
        obtain ⟨NA, hNA⟩ : ∃ NA, ao + befZ A ao (t : Int) * A = NA := ⟨_, rfl⟩
        rw [hNB] at HNB
        rw [hNA] at HNA
        have HNBE := Lib.hid hNB
        have HNAE := Lib.hid hNA
        have e1 : IntKind.i64.wrap ((t : Int) - ao) = (t : Int) - ao := IntWalk.i64_in _ (by omega)
        have e2 : IntKind.i64.wrap ((t : Int) - bo) = (t : Int) - bo := IntWalk.i64_in _ (by omega)
        have e3 : IntKind.i64.wrap ((t : Int) - r) = (t : Int) - r := IntWalk.i64_in _ (by omega)
        have e4 : IntKind.i64.wrap (NB - (t : Int)) = NB - (t : Int) := IntWalk.i64_in _ (by omega)
        have e5 : IntKind.i64.wrap (NA - (t : Int)) = NA - (t : Int) := IntWalk.i64_in _ (by omega)
        have e6 : IntKind.i64.wrap ((t : Int) + 1) = (t : Int) + 1 := IntWalk.i64_in _ (by omega)
        obtain ⟨-, ca0, ca1⟩ := CAW.out
        obtain ⟨-, cb0, cb1⟩ := CBW.out
        clear hx hy hst hnear hmb hma hNB hNA
        go_upto_region 15 with fail
        obtain ⟨wz, hwz⟩ : ∃ wz, wz = wr := ⟨_, rfl⟩
        go_cut [16] from 91 to 104 (fun b wx => b = .bool x ∧ wr = wx)
        case first =>
          by_cases k1 : ao ≤ (t : Int)
          · have k2 : ¬ (t : Int) < ao := by omega
            have k3 : 0 ≤ (t : Int) - ao := by omega
            by_cases k4 : ((t : Int) - ao) % A = 0
            · have k5 : ((t : Int) - ao).tmod A = 0 := (tmod_zero _ _ (by omega)).2 k4
              have k6 : (((t : Int) - ao).tmod A == 0) = true := by simp [k5]
              have k7 : (((t : Int) - ao) % A == 0) = true := by simp [k4]
              have HX : Hid (x = true) := Hx.out.2 ⟨k1, k4⟩
              go_wp2
              go_meet
              exact ⟨by rw [HX.out], rfl⟩
            · have k5 : ¬ ((t : Int) - ao).tmod A = 0 := fun h => k4 ((tmod_zero _ _ (by omega)).1 h)
              have k6 : (((t : Int) - ao).tmod A == 0) = false := by simp [k5]
              have k7 : (((t : Int) - ao) % A == 0) = false := by simp [k4]
              have HX : Hid (x = false) := by
                show _ = _
                cases h : x with
                | false => rfl
                | true => exact absurd (Hx.out.1 h).2 k4
              go_wp2
              go_meet
              exact ⟨by rw [HX.out], rfl⟩
          · have k2 : (t : Int) < ao := by omega
            have HX : Hid (x = false) := by
              show _ = _
              cases h : x with
              | false => rfl
              | true => exact absurd (Hx.out.1 h).1 k1
            go_wp2
            go_meet
            exact ⟨by rw [HX.out], rfl⟩
        case rest =>
          obtain ⟨rfl, rfl⟩ := hcut
          go_upto_region 16 with fail
          go_cut [17] from 105 to 118 (fun b wx => b = .bool y ∧ wr = wx)
          case first =>
            by_cases k1 : bo ≤ (t : Int)
            · have k2 : ¬ (t : Int) < bo := by omega
              have k3 : 0 ≤ (t : Int) - bo := by omega
              by_cases k4 : ((t : Int) - bo) % B = 0
              · have k5 : ((t : Int) - bo).tmod B = 0 := (tmod_zero _ _ (by omega)).2 k4
                have k6 : (((t : Int) - bo).tmod B == 0) = true := by simp [k5]
                have k7 : (((t : Int) - bo) % B == 0) = true := by simp [k4]
                have HX : Hid (y = true) := Hy.out.2 ⟨k1, k4⟩
                go_wp2
                go_meet
                exact ⟨by rw [HX.out], rfl⟩
              · have k5 : ¬ ((t : Int) - bo).tmod B = 0 := fun h => k4 ((tmod_zero _ _ (by omega)).1 h)
                have k6 : (((t : Int) - bo).tmod B == 0) = false := by simp [k5]
                have k7 : (((t : Int) - bo) % B == 0) = false := by simp [k4]
                have HX : Hid (y = false) := by
                  show _ = _
                  cases h : y with
                  | false => rfl
                  | true => exact absurd (Hy.out.1 h).2 k4
                go_wp2
                go_meet
                exact ⟨by rw [HX.out], rfl⟩
            · have k2 : (t : Int) < bo := by omega
              have HX : Hid (y = false) := by
                show _ = _
                cases h : y with
                | false => rfl
                | true => exact absurd (Hy.out.1 h).1 k1
              go_wp2
              go_meet
              exact ⟨by rw [HX.out], rfl⟩
          case rest =>
            obtain ⟨rfl, rfl⟩ := hcut
            have HX := Hx
            have HY := Hy
            have hst := HST.out
            clear hwz Hx Hy HST
            go_upto_region 17 with fail
            go_cut [139] from 119 to 138 (fun b wx => b = .bool false ∧ wr = wx)
            case first =>
              cases x with
              | true =>
                cases y with
                | true =>
                  have hb3 := HT.out.both (t : Int) (by omega) (HX.out.1 rfl) (HY.out.1 rfl)
                  obtain ⟨rfl, z1, z2⟩ := hb3
                  have z3 : ¬ (t : Int) < r := by omega
                  have z4 : ((t : Int) - r).tmod Lc = 0 := (tmod_zero _ _ (by omega)).2 z2
                  have z5 : (((t : Int) - r).tmod Lc != 0) = false := by simp [z4]
                  have z6 : (((t : Int) - r) % Lc != 0) = false := by simp [z2]
                  have z7 : (((t : Int) - r).tmod Lc == 0) = true := by simp [z4]
                  have z8 : (((t : Int) - r) % Lc == 0) = true := by simp [z2]
                  have z9 : 0 ≤ (t : Int) - r := by omega
                  go_wp2
                  go_meet
                  exact ⟨rfl, rfl⟩
                | false =>
                  go_wp2
                  go_meet
                  exact ⟨rfl, rfl⟩
              | false =>
                go_wp2
                go_meet
                exact ⟨rfl, rfl⟩
            case rest =>
              obtain ⟨rfl, rfl⟩ := hcut
              go_upto_region 19 with fail
              go_cut [160] from 140 to 159 (fun b wx => b = .bool false ∧ wr = wx)
              case first =>
                cases x with
                | true =>
                  cases y with
                  | true =>
                    have hb3 := HT.out.both (t : Int) (by omega) (HX.out.1 rfl) (HY.out.1 rfl)
                    obtain ⟨rfl, z1, z2⟩ := hb3
                    have z3 : ¬ (t : Int) < r := by omega
                    have z4 : ((t : Int) - r).tmod Lc = 0 := (tmod_zero _ _ (by omega)).2 z2
                    have z5 : (((t : Int) - r).tmod Lc != 0) = false := by simp [z4]
                    have z6 : (((t : Int) - r) % Lc != 0) = false := by simp [z2]
                    have z7 : (((t : Int) - r).tmod Lc == 0) = true := by simp [z4]
                    have z8 : (((t : Int) - r) % Lc == 0) = true := by simp [z2]
                    have z9 : 0 ≤ (t : Int) - r := by omega
                    go_wp2
                    go_meet
                    exact ⟨rfl, rfl⟩
                  | false =>
                    cases c with
                    | false =>
                      go_wp2
                      go_meet
                      exact ⟨rfl, rfl⟩
                    | true =>
                      by_cases z2 : ((t : Int) - r) % Lc = 0
                      · have z1 : (t : Int) < r := by
                          apply Decidable.byContradiction
                          intro hn
                          obtain ⟨q1, q2⟩ := HT.out.back (t : Int) rfl (by omega) z2
                          exact Bool.noConfusion (HY.out.2 q2)
                        have z3 : ¬ r ≤ (t : Int) := by omega
                        have z4 : ((t : Int) - r).tmod Lc = 0 := (tmod_zero _ _ (by omega)).2 z2
                        have z7 : (((t : Int) - r).tmod Lc == 0) = true := by simp [z4]
                        go_wp2
                        go_meet
                        exact ⟨rfl, rfl⟩
                      · have z4 : ¬ ((t : Int) - r).tmod Lc = 0 := fun h => z2 ((tmod_zero _ _ (by omega)).1 h)
                        have z7 : (((t : Int) - r).tmod Lc == 0) = false := by simp [z4]
                        have z8 : (((t : Int) - r) % Lc == 0) = false := by simp [z2]
                        go_wp2
                        go_meet
                        exact ⟨rfl, rfl⟩
                | false =>
                  cases y with
                  | true =>
                    cases c with
                    | false =>
                      go_wp2
                      go_meet
                      exact ⟨rfl, rfl⟩
                    | true =>
                      by_cases z2 : ((t : Int) - r) % Lc = 0
                      · have z1 : (t : Int) < r := by
                          apply Decidable.byContradiction
                          intro hn
                          obtain ⟨q1, q2⟩ := HT.out.back (t : Int) rfl (by omega) z2
                          exact Bool.noConfusion (HX.out.2 q1)
                        have z3 : ¬ r ≤ (t : Int) := by omega
                        have z4 : ((t : Int) - r).tmod Lc = 0 := (tmod_zero _ _ (by omega)).2 z2
                        have z7 : (((t : Int) - r).tmod Lc == 0) = true := by simp [z4]
                        go_wp2
                        go_meet
                        exact ⟨rfl, rfl⟩
                      · have z4 : ¬ ((t : Int) - r).tmod Lc = 0 := fun h => z2 ((tmod_zero _ _ (by omega)).1 h)
                        have z7 : (((t : Int) - r).tmod Lc == 0) = false := by simp [z4]
                        have z8 : (((t : Int) - r) % Lc == 0) = false := by simp [z2]
                        go_wp2
                        go_meet
                        exact ⟨rfl, rfl⟩
                  | false =>
                    cases c with
                    | false =>
                      go_wp2
                      go_meet
                      exact ⟨rfl, rfl⟩
                    | true =>
                      by_cases z2 : ((t : Int) - r) % Lc = 0
                      · have z1 : (t : Int) < r := by
                          apply Decidable.byContradiction
                          intro hn
                          obtain ⟨q1, q2⟩ := HT.out.back (t : Int) rfl (by omega) z2
                          exact Bool.noConfusion (HX.out.2 q1)
                        have z3 : ¬ r ≤ (t : Int) := by omega
                        have z4 : ((t : Int) - r).tmod Lc = 0 := (tmod_zero _ _ (by omega)).2 z2
                        have z7 : (((t : Int) - r).tmod Lc == 0) = true := by simp [z4]
                        go_wp2
                        go_meet
                        exact ⟨rfl, rfl⟩
                      · have z4 : ¬ ((t : Int) - r).tmod Lc = 0 := fun h => z2 ((tmod_zero _ _ (by omega)).1 h)
                        have z7 : (((t : Int) - r).tmod Lc == 0) = false := by simp [z4]
                        have z8 : (((t : Int) - r) % Lc == 0) = false := by simp [z2]
                        go_wp2
                        go_meet
                        exact ⟨rfl, rfl⟩
              case rest =>
                obtain ⟨rfl, rfl⟩ := hcut
                clear e1 e2 e3 yA yB yL yA0 yB0 yL0
                cases x with
                | true =>
                  cases y with
                  | true =>
                    by_cases m1 : NB - (t : Int) < v
                    · have m1d : decide (NB - (t : Int) < v) = true := decide_eq_true m1
                      have c1 : candX B bo (t : Int) v true = NB - (t : Int) := by unfold candX; rw [HNBE.out, if_pos ⟨rfl, m1⟩]
                      rw [c1] at hst
                      by_cases m2 : NA - (t : Int) < NB - (t : Int)
                      · have m2d : decide (NA - (t : Int) < NB - (t : Int)) = true := decide_eq_true m2
                        have c2 : candX A ao (t : Int) (NB - (t : Int)) true = NA - (t : Int) := by unfold candX; rw [HNAE.out, if_pos ⟨rfl, m2⟩]
                        rw [c2] at hst
                        have HSTEP := Lib.hid hst
                        clear hst c1 c2
                        as_aux_lemma =>
                          go_wp2_with fail
                          refine (HNB.out _).mono ?_; rintro e w5 ⟨rfl, hb5⟩
                          have HBW5 := Lib.hid (bel_call HBW.out hb5)
                          have CA5 := Lib.hid (CAW.out.call hb5)
                          have CB5 := Lib.hid (CBW.out.call hb5)
                          obtain ⟨-, ca50, ca51⟩ := CA5.out
                          obtain ⟨-, cb50, cb51⟩ := CB5.out
                          clear hb5
                          go_wp2_with fail
                          refine (HNA.out _).mono ?_; rintro e w6 ⟨rfl, hb6⟩
                          have HBW6 := Lib.hid (bel_call HBW5.out hb6)
                          have CA6 := Lib.hid (CA5.out.call hb6)
                          have CB6 := Lib.hid (CB5.out.call hb6)
                          obtain ⟨-, ca60, ca61⟩ := CA6.out
                          obtain ⟨-, cb60, cb61⟩ := CB6.out
                          clear hb6
                          go_wp2
                          go_roundw
                          case rel => exact ⟨t + 1, NA - (t : Int), by omega, by go_num, rfl, HSTEP.out, CA6, CB6, HBW6⟩
                          case measure => simp [intOf]; omega
                      · have m2d : decide (NA - (t : Int) < NB - (t : Int)) = false := decide_eq_false m2
                        have c2 : candX A ao (t : Int) (NB - (t : Int)) true = NB - (t : Int) := by unfold candX; rw [HNAE.out, if_neg (fun h => m2 h.2)]
                        rw [c2] at hst
                        have HSTEP := Lib.hid hst
                        clear hst c1 c2
                        as_aux_lemma =>
                          go_wp2_with fail
                          refine (HNB.out _).mono ?_; rintro e w5 ⟨rfl, hb5⟩
                          have HBW5 := Lib.hid (bel_call HBW.out hb5)
                          have CA5 := Lib.hid (CAW.out.call hb5)
                          have CB5 := Lib.hid (CBW.out.call hb5)
                          obtain ⟨-, ca50, ca51⟩ := CA5.out
                          obtain ⟨-, cb50, cb51⟩ := CB5.out
                          clear hb5
                          go_wp2_with fail
                          refine (HNA.out _).mono ?_; rintro e w6 ⟨rfl, hb6⟩
                          have HBW6 := Lib.hid (bel_call HBW5.out hb6)
                          have CA6 := Lib.hid (CA5.out.call hb6)
                          have CB6 := Lib.hid (CB5.out.call hb6)
                          obtain ⟨-, ca60, ca61⟩ := CA6.out
                          obtain ⟨-, cb60, cb61⟩ := CB6.out
                          clear hb6
                          go_wp2
                          go_roundw
                          case rel => exact ⟨t + 1, NB - (t : Int), by omega, by go_num, rfl, HSTEP.out, CA6, CB6, HBW6⟩
                          case measure => simp [intOf]; omega
                    · have m1d : decide (NB - (t : Int) < v) = false := decide_eq_false m1
                      have c1 : candX B bo (t : Int) v true = v := by unfold candX; rw [HNBE.out, if_neg (fun h => m1 h.2)]
                      rw [c1] at hst
                      by_cases m2 : NA - (t : Int) < v
                      · have m2d : decide (NA - (t : Int) < v) = true := decide_eq_true m2
                        have c2 : candX A ao (t : Int) v true = NA - (t : Int) := by unfold candX; rw [HNAE.out, if_pos ⟨rfl, m2⟩]
                        rw [c2] at hst
                        have HSTEP := Lib.hid hst
                        clear hst c1 c2
                        as_aux_lemma =>
                          go_wp2_with fail
                          refine (HNB.out _).mono ?_; rintro e w5 ⟨rfl, hb5⟩
                          have HBW5 := Lib.hid (bel_call HBW.out hb5)
                          have CA5 := Lib.hid (CAW.out.call hb5)
                          have CB5 := Lib.hid (CBW.out.call hb5)
                          obtain ⟨-, ca50, ca51⟩ := CA5.out
                          obtain ⟨-, cb50, cb51⟩ := CB5.out
                          clear hb5
                          go_wp2_with fail
                          refine (HNA.out _).mono ?_; rintro e w6 ⟨rfl, hb6⟩
                          have HBW6 := Lib.hid (bel_call HBW5.out hb6)
                          have CA6 := Lib.hid (CA5.out.call hb6)
                          have CB6 := Lib.hid (CB5.out.call hb6)
                          obtain ⟨-, ca60, ca61⟩ := CA6.out
                          obtain ⟨-, cb60, cb61⟩ := CB6.out
                          clear hb6
                          go_wp2
                          go_roundw
                          case rel => exact ⟨t + 1, NA - (t : Int), by omega, by go_num, rfl, HSTEP.out, CA6, CB6, HBW6⟩
                          case measure => simp [intOf]; omega
                      · have m2d : decide (NA - (t : Int) < v) = false := decide_eq_false m2
                        have c2 : candX A ao (t : Int) v true = v := by unfold candX; rw [HNAE.out, if_neg (fun h => m2 h.2)]
                        rw [c2] at hst
                        have HSTEP := Lib.hid hst
                        clear hst c1 c2
                        as_aux_lemma =>
                          go_wp2_with fail
                          refine (HNB.out _).mono ?_; rintro e w5 ⟨rfl, hb5⟩
                          have HBW5 := Lib.hid (bel_call HBW.out hb5)
                          have CA5 := Lib.hid (CAW.out.call hb5)
                          have CB5 := Lib.hid (CBW.out.call hb5)
                          obtain ⟨-, ca50, ca51⟩ := CA5.out
                          obtain ⟨-, cb50, cb51⟩ := CB5.out
                          clear hb5
                          go_wp2_with fail
                          refine (HNA.out _).mono ?_; rintro e w6 ⟨rfl, hb6⟩
                          have HBW6 := Lib.hid (bel_call HBW5.out hb6)
                          have CA6 := Lib.hid (CA5.out.call hb6)
                          have CB6 := Lib.hid (CB5.out.call hb6)
                          obtain ⟨-, ca60, ca61⟩ := CA6.out
                          obtain ⟨-, cb60, cb61⟩ := CB6.out
                          clear hb6
                          go_wp2
                          go_roundw
                          case rel => exact ⟨t + 1, v, by omega, by go_num, rfl, HSTEP.out, CA6, CB6, HBW6⟩
                          case measure => simp [intOf]; omega
                  | false =>
                    by_cases m1 : NB - (t : Int) < v
                    · have m1d : decide (NB - (t : Int) < v) = true := decide_eq_true m1
                      have c1 : candX B bo (t : Int) v true = NB - (t : Int) := by unfold candX; rw [HNBE.out, if_pos ⟨rfl, m1⟩]
                      have c0 : candX A ao (t : Int) (NB - (t : Int)) false = (NB - (t : Int)) := by unfold candX; rw [if_neg (fun h => by cases h.1)]
                      rw [c1, c0] at hst
                      have HSTEP := Lib.hid hst
                      clear hst c1 c0
                      as_aux_lemma =>
                        go_wp2_with fail
                        refine (HNB.out _).mono ?_; rintro e w5 ⟨rfl, hb5⟩
                        have HBW5 := Lib.hid (bel_call HBW.out hb5)
                        have CA5 := Lib.hid (CAW.out.call hb5)
                        have CB5 := Lib.hid (CBW.out.call hb5)
                        obtain ⟨-, ca50, ca51⟩ := CA5.out
                        obtain ⟨-, cb50, cb51⟩ := CB5.out
                        clear hb5
                        go_wp2
                        go_roundw
                        case rel => exact ⟨t + 1, NB - (t : Int), by omega, by go_num, rfl, HSTEP.out, CA5, CB5, HBW5⟩
                        case measure => simp [intOf]; omega
                    · have m1d : decide (NB - (t : Int) < v) = false := decide_eq_false m1
                      have c1 : candX B bo (t : Int) v true = v := by unfold candX; rw [HNBE.out, if_neg (fun h => m1 h.2)]
                      have c0 : candX A ao (t : Int) (v) false = (v) := by unfold candX; rw [if_neg (fun h => by cases h.1)]
                      rw [c1, c0] at hst
                      have HSTEP := Lib.hid hst
                      clear hst c1 c0
                      as_aux_lemma =>
                        go_wp2_with fail
                        refine (HNB.out _).mono ?_; rintro e w5 ⟨rfl, hb5⟩
                        have HBW5 := Lib.hid (bel_call HBW.out hb5)
                        have CA5 := Lib.hid (CAW.out.call hb5)
                        have CB5 := Lib.hid (CBW.out.call hb5)
                        obtain ⟨-, ca50, ca51⟩ := CA5.out
                        obtain ⟨-, cb50, cb51⟩ := CB5.out
                        clear hb5
                        go_wp2
                        go_roundw
                        case rel => exact ⟨t + 1, v, by omega, by go_num, rfl, HSTEP.out, CA5, CB5, HBW5⟩
                        case measure => simp [intOf]; omega
                | false =>
                  cases y with
                  | true =>
                    by_cases m1 : NA - (t : Int) < v
                    · have m1d : decide (NA - (t : Int) < v) = true := decide_eq_true m1
                      have c1 : candX A ao (t : Int) v true = NA - (t : Int) := by unfold candX; rw [HNAE.out, if_pos ⟨rfl, m1⟩]
                      have c0 : candX B bo (t : Int) v false = v := by unfold candX; rw [if_neg (fun h => by cases h.1)]
                      rw [c0, c1] at hst
                      have HSTEP := Lib.hid hst
                      clear hst c1 c0
                      as_aux_lemma =>
                        go_wp2_with fail
                        refine (HNA.out _).mono ?_; rintro e w5 ⟨rfl, hb5⟩
                        have HBW5 := Lib.hid (bel_call HBW.out hb5)
                        have CA5 := Lib.hid (CAW.out.call hb5)
                        have CB5 := Lib.hid (CBW.out.call hb5)
                        obtain ⟨-, ca50, ca51⟩ := CA5.out
                        obtain ⟨-, cb50, cb51⟩ := CB5.out
                        clear hb5
                        go_wp2
                        go_roundw
                        case rel => exact ⟨t + 1, NA - (t : Int), by omega, by go_num, rfl, HSTEP.out, CA5, CB5, HBW5⟩
                        case measure => simp [intOf]; omega
                    · have m1d : decide (NA - (t : Int) < v) = false := decide_eq_false m1
                      have c1 : candX A ao (t : Int) v true = v := by unfold candX; rw [HNAE.out, if_neg (fun h => m1 h.2)]
                      have c0 : candX B bo (t : Int) v false = v := by unfold candX; rw [if_neg (fun h => by cases h.1)]
                      rw [c0, c1] at hst
                      have HSTEP := Lib.hid hst
                      clear hst c1 c0
                      as_aux_lemma =>
                        go_wp2_with fail
                        refine (HNA.out _).mono ?_; rintro e w5 ⟨rfl, hb5⟩
                        have HBW5 := Lib.hid (bel_call HBW.out hb5)
                        have CA5 := Lib.hid (CAW.out.call hb5)
                        have CB5 := Lib.hid (CBW.out.call hb5)
                        obtain ⟨-, ca50, ca51⟩ := CA5.out
                        obtain ⟨-, cb50, cb51⟩ := CB5.out
                        clear hb5
                        go_wp2
                        go_roundw
                        case rel => exact ⟨t + 1, v, by omega, by go_num, rfl, HSTEP.out, CA5, CB5, HBW5⟩
                        case measure => simp [intOf]; omega
                  | false =>
                    have c1 : candX B bo (t : Int) v false = v := by unfold candX; rw [if_neg (fun h => by cases h.1)]
                    have c2 : candX A ao (t : Int) v false = v := by unfold candX; rw [if_neg (fun h => by cases h.1)]
                    rw [c1, c2] at hst
                    have HSTEP := Lib.hid hst
                    clear hst c1 c2
                    as_aux_lemma =>
                      go_wp2
                      go_roundw
                      case rel => exact ⟨t + 1, v, by omega, by go_num, rfl, HSTEP.out, CAW, CBW, HBW⟩
                      case measure => simp [intOf]; omega
      · obtain rfl : t = 900 := by omega
        have hv := near_end HT.out hnear
        subst hv
        clear hnear
        go_wp2
        go_ret
        exact ⟨by simp, HBW.out⟩
end Go.Proofs.Ytafecdmcbpnniaa
