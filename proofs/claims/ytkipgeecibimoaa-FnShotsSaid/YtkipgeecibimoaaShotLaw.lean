/- The law: a shot lasts its ticks from each tick at which the wave goes up and counts. -/
import Derived.Test.YtkipgeecibimoaaShotM
import Derived.Test.YtkipgeecibimoaaOneS
import Derived.Test.YtkipgeecibimoaaDrawW
import Derived.Test.YtkipgeecibimoaaPulS
import Derived.Deep.CutRange
namespace Go.Proofs.Ytkipgeecibimoaa
open Go.RowKit
set_option linter.unusedVariables false
set_option linter.unusedSimpArgs false

set_option maxHeartbeats 4000000 in
set_option maxRecDepth 100000 in
theorem walk_FnShots (a : Option Addr) (n cap : Nat) (l : List Int) (a2 : Option Addr) (n2 cap2 : Nat) (l2 : List Int) (w : World) (hn : n = l.length) (hr : ByteRow w a l) (hm : n ≤ maxLen) (hn2 : n2 = l2.length) (hr2 : ByteRow w a2 l2) (hm2 : n2 ≤ maxLen) :
    Calls Try.prog 4 #[.slice a n cap, .slice a2 n2 cap2] w fun e w' => e = .returned (.bool true) ∧ Below w.heap.size w w' := by
  by_cases hlong : n ≤ 1048576 ∧ n2 ≤ 1048576
  · obtain ⟨k1, k2⟩ := hlong
    have HLO := Lib.hid (fun w => b10Long_any a a2 n cap n2 cap2 w)
    rw [decide_eq_false (show ¬ 1048576 < n by omega), decide_eq_false (show ¬ 1048576 < n2 by omega)] at HLO
    have HWV := Lib.hid (wave_w a n cap l w hn k1 hr)
    have hv0 := b10V_bd l2 0 6 (by omega)
    have HV0 := Lib.hid (fun W (hb : Below w.heap.size w W) => b10At_any a2 n2 cap2 l2 0 6 W hn2 (hr2.keep hb (Nat.le_refl _)) (by omega) (by omega) (by omega))
    obtain ⟨V0, e0⟩ := Int.eq_ofNat_of_zero_le hv0.1
    rw [e0] at HV0 hv0
    obtain ⟨T, hT⟩ : ∃ T, 1 + V0 = T := ⟨_, rfl⟩
    have hti : (1 : Int) + (V0 : Int) = (T : Int) := by omega
    have htb : 1 ≤ T ∧ T ≤ 6 := by omega
    obtain ⟨hT1, hT6⟩ := htb
    have hwt : IntKind.i64.wrap (1 + (V0 : Int)) = (T : Int) := by rw [hti]; exact IntWalk.i64_in _ (by omega)
    clear e0 hv0 hn hr hn2 hr2 hT
    have HTI := Lib.hid hti
    clear hti
    go_enter Try.func4, Try.ntmps4
    go_wp2_with fail
    refine (HLO.out _).mono ?_; rintro e w' ⟨rfl, rfl⟩
    go_wp2_with fail
    refine HWV.out.mono ?_; rintro e w1 ⟨s, rfl, hwv, hs40, b1⟩
    have HB1 := Lib.hid b1
    have HW := Lib.hid hwv
    have hs : s.size ≤ maxLen := by unfold maxLen; omega
    have hc : canB s (T : Int) = true := by unfold canB; rw [hwv]; simp; omega
    have HI0 := Lib.hid (fun w => implOne_t s T 0 w hs hc (.inl rfl))
    have HI1 := Lib.hid (fun w => implOne_t s T 1 w hs hc (.inr rfl))
    have HTO := Lib.hid (fun w => callsIn_wide (n := 8).1 (implTO_in 8 (by omega) s T w hs hc))
    rw [(toK_eq s T hT1 s.size).1] at HTO
    clear b1 hwv hc
    go_wp2_with fail
    refine (HV0.out _ HB1.out).mono ?_; rintro e w' ⟨rfl, rfl⟩
    obtain ⟨O, hO⟩ : ∃ O, outS (shotL false T s) s.size = O := ⟨_, rfl⟩
    obtain ⟨G, hG⟩ : ∃ G, outS (shotL true T s) s.size = G := ⟨_, rfl⟩
    have hOs : O.size = s.size := by rw [← hO]; exact outS_size _ _
    have hGs : G.size = s.size := by rw [← hG]; exact outS_size _ _
    have HOB : Hid (∀ k (h : k < s.size) (h2 : k < O.size), ((O[k].toNat : Int) == 49) = shotL false T s k) := fun k h h2 => by
      rw [bit_at O k h2, ← hO, outS_bit _ _ _ h]
    have HGB : Hid (∀ k (h : k < s.size) (h2 : k < G.size), ((G[k].toNat : Int) == 49) = shotL true T s k) := fun k h h2 => by
      rw [bit_at G k h2, ← hG, outS_bit _ _ _ h]
    have e0 : ((0 : Int) == 1) = false := rfl
    have e1 : ((1 : Int) == 1) = true := rfl
    rw [e0, hO] at HI0
    rw [e1, hG] at HI1
    have hO1 : (O.size : Int) ≤ (s.size : Int) := by omega
    have hO2 : (s.size : Int) ≤ (O.size : Int) := by omega
    have hG1 : (G.size : Int) ≤ (s.size : Int) := by omega
    have hG2 : (s.size : Int) ≤ (G.size : Int) := by omega
    have hOe : ((O.size : Int) != (s.size : Int)) = false := by simp; omega
    have hGe : ((G.size : Int) != (s.size : Int)) = false := by simp; omega
    have hOe2 : (O.size != s.size) = false := by simp; omega
    have hGe2 : (G.size != s.size) = false := by simp; omega
    have hOe3 : (((O.size : Int) == (s.size : Int))) = true := by simp; omega
    have hGe3 : (((G.size : Int) == (s.size : Int))) = true := by simp; omega
    clear hO hG hOs hGs e0 e1
    go_wp2_with fail
    refine (HI0.out _).mono ?_; rintro e w2 ⟨rfl, b2⟩
    have HB2 := Lib.hid (HB1.out.trans (b2.mono HB1.out.size))
    clear b2
    go_wp2_with fail
    refine (HI1.out _).mono ?_; rintro e w3 ⟨rfl, b3⟩
    have HB3 := Lib.hid (HB2.out.trans (b3.mono HB2.out.size))
    clear b3
    go_wp2_with fail
    refine (HTO.out _).mono ?_; rintro e w4 ⟨v, rfl, i4, b4⟩
    have HB4 := Lib.hid (HB3.out.trans (b4.mono HB3.out.size))
    have HI4 := Lib.hid i4
    obtain ⟨a4, cap4, rfl, -, -⟩ := i4.form
    have hL := toK_len s T s.size
    clear b4 i4
    obtain ⟨sh, hsh⟩ : ∃ sh, shB (upB s) false T = sh := ⟨_, rfl⟩
    have HSH := Lib.hid hsh
    clear hsh
    go_wp2
    go_loopw [14, 15, 16, 17] (fun bz si td iv wr => ∃ k L q m : Nat, k ≤ s.size ∧ iv = .int .i64 (k : Int) ∧ bz = .int .i64 (L : Int) ∧ si = .int .i64 (q : Int) ∧ td = .int .i64 (m : Int) ∧ Hid (LeftB sh T k L) ∧ Hid (q = quietN (upB s) k) ∧ Hid (m = (toK s T k).length) ∧ w4 = wr) (fun _ _ _ iv _ => s.size - (intOf iv).toNat)
    case atStart => exact ⟨0, 0, 0, 0, Nat.zero_le _, rfl, rfl, rfl, rfl, Lib.hid (LeftB.start sh T), rfl, rfl, rfl⟩
    case round =>
      obtain ⟨k, L, q, m, hk, rfl, rfl, rfl, rfl, HLB, HQ, HM, rfl⟩ := hrel
      by_cases hlt : k < s.size
      · have e0 := bit_at s k hlt
        have hLT := HLB.out.le
        have hqk : q ≤ k := by rw [HQ.out]; exact quietN_le _ _
        have hmk : m ≤ k := by rw [HM.out]; exact toK_len _ _ _
        have hst := HLB.out.step hT1
        have hupe : sh k = (upB s k && (L == 0)) := by
          rw [← HLB.out.rest (by omega), ← HSH.out, shB_eq _ _ _ _ (by omega), Bool.false_or]
        have hy0 : shotL false T s k = decide (0 < lastC sh T (k + 1)) := by rw [← HSH.out]; rfl
        have hq1 : quietN (upB s) (k + 1) = if upB s k then 0 else quietN (upB s) k + 1 := rfl
        rw [← HQ.out] at hq1
        have hU : upB s k = (bit s k && !(decide (0 < k) && bit s (k - 1))) := rfl
        have hre : recB (upB s) k (min T (k + 1)) = shotL true T s k := shotL_again T s k hT1
        obtain ⟨u, hu⟩ : ∃ u, upB s k = u := ⟨_, rfl⟩
        rw [hu] at hupe hq1 hU
        have hkO : k < O.size := by omega
        have hkG : k < G.size := by omega
        have eO := HOB.out k hlt hkO
        have eG := HGB.out k hlt hkG
        rw [hy0, hst.2] at eO
        obtain ⟨y1, hy1⟩ : ∃ y1, shotL true T s k = y1 := ⟨_, rfl⟩
        rw [hy1] at eG hre
        have HU := Lib.hid hU
        have HUU := Lib.hid hu
        have HRE := Lib.hid hre
        have HUP := Lib.hid hupe
        have HST := Lib.hid hst.1
        have HQ1 := Lib.hid hq1
        have HEO := Lib.hid eO
        have HTOK := Lib.hid (toK_hit s T k s.size hlt)
        have HTOM := Lib.hid (toK_miss s T k)
        clear hst hupe hy0 hq1 hU hu hre hy1 eO
        go_upto_region 17 with fail
        go_cut [18] from 76 to 90 (fun v wx => v = .bool u ∧ w4 = wx)
        case first =>
          obtain ⟨x, hx⟩ : ∃ x, bit s k = x := ⟨_, rfl⟩
          rw [hx] at e0 HU
          by_cases hk0 : k = 0
          · have t1 : ((k : Int) == 0) = true := by simp; omega
            have t2 : (k == 0) = true := by simp; omega
            have t3 : (k : Int) = 0 := by omega
            have HU2 : Hid (u = x) := by show _ = _; rw [HU.out, hk0]; simp
            have T3 := Lib.hid t3
            clear hk0 hx t3
            cases x
            all_goals
              go_wp2
              go_meet
              exact ⟨by rw [HU2.out], rfl⟩
          · obtain ⟨j, hj⟩ : ∃ j, k = j + 1 := ⟨k - 1, by omega⟩
            have t1 : ((k : Int) == 0) = false := by simp; omega
            have t2 : (k == 0) = false := by simp; omega
            have t3 : ¬ (k : Int) = 0 := by omega
            have hjl : j < s.size := by omega
            have e2 : ((s[j].toNat : Int) == 48) = !bit s j := by rw [wave_at HW.out j hjl]; cases bit s j <;> rfl
            have wj : IntKind.i64.wrap ((k : Int) - 1) = (j : Int) := by rw [show (k : Int) - 1 = (j : Int) by omega]; exact IntWalk.i64_in _ (by omega)
            obtain ⟨z, hz⟩ : ∃ z, bit s j = z := ⟨_, rfl⟩
            have HU2 : Hid (u = (x && !z)) := by show _ = _; rw [HU.out, hj, ← hz]; simp
            rw [hz] at e2
            clear hk0 hx hj hz
            cases x <;> cases z
            all_goals
              go_wp2
              go_meet
              exact ⟨by rw [HU2.out]; rfl, rfl⟩
        case rest =>
          obtain ⟨rfl, rfl⟩ := hcut
          clear e0
          go_wp2
          go_loopw [19, 20] (fun rc kv wr => ∃ j : Nat, j ≤ k + 1 ∧ j ≤ T ∧ kv = .int .i64 (j : Int) ∧ rc = .bool (recB (upB s) k j) ∧ w4 = wr) (fun _ kv _ => T - (intOf kv).toNat)
          case atStart => exact ⟨0, Nat.zero_le _, Nat.zero_le _, rfl, rfl, rfl⟩
          case round =>
            obtain ⟨j, hj1, hj2, rfl, rfl, rfl⟩ := hrel
            obtain ⟨r, hr⟩ : ∃ r, recB (upB s) k j = r := ⟨_, rfl⟩
            rw [hr]
            by_cases h1 : j < T
            · by_cases h2 : j ≤ k
              · obtain ⟨p, hp⟩ : ∃ p, k = p + j := ⟨k - j, by omega⟩
                have hps : p < s.size := by omega
                have hrs : recB (upB s) k (j + 1) = (r || upB s p) := by rw [recB_succ, hr, hp]; simp
                have wp : IntKind.i64.wrap ((k : Int) - (j : Int)) = (p : Int) := by rw [show (k : Int) - (j : Int) = (p : Int) by omega]; exact IntWalk.i64_in _ (by omega)
                have d1 : (j : Int) < (T : Int) := by omega
                have d2 : (j : Int) ≤ (k : Int) := by omega
                have HRS := Lib.hid hrs
                have eb := bit_at s p hps
                have hUp : upB s p = (bit s p && !(decide (0 < p) && bit s (p - 1))) := rfl
                obtain ⟨x, hx⟩ : ∃ x, bit s p = x := ⟨_, rfl⟩
                rw [hx] at eb hUp
                by_cases hp0 : p = 0
                · have HP0 := Lib.hid hp0
                  have f1 : ((k : Int) == (j : Int)) = true := by simp; omega
                  have f2 : (k == j) = true := by simp; omega
                  have HU2 : Hid (upB s p = x) := by show _ = _; rw [hUp, hp0]; simp
                  clear hp0 hx hp hrs hr hUp
                  cases r <;> cases x
                  all_goals
                    go_wp2
                    go_roundw
                    case rel => exact ⟨j + 1, by omega, by omega, by go_num, by rw [HRS.out, HU2.out]; rfl, by first | trivial | rfl⟩
                    case measure => simp [intOf]; omega
                · obtain ⟨p1, hp1⟩ : ∃ p1, p = p1 + 1 := ⟨p - 1, by omega⟩
                  have hp1s : p1 < s.size := by omega
                  have e2 : ((s[p1].toNat : Int) == 48) = !bit s p1 := by rw [wave_at HW.out p1 hp1s]; cases bit s p1 <;> rfl
                  have f1 : ((k : Int) == (j : Int)) = false := by simp; omega
                  have f2 : (k == j) = false := by simp; omega
                  have wp1 : IntKind.i64.wrap ((p : Int) - 1) = (p1 : Int) := by rw [show (p : Int) - 1 = (p1 : Int) by omega]; exact IntWalk.i64_in _ (by omega)
                  obtain ⟨z, hz⟩ : ∃ z, bit s p1 = z := ⟨_, rfl⟩
                  have HU2 : Hid (upB s p = (x && !z)) := by show _ = _; rw [hUp, hp1, ← hz]; simp
                  rw [hz] at e2
                  clear hp0 hx hp hp1 hrs hr hUp hz
                  cases r <;> cases x <;> cases z
                  all_goals
                    go_wp2
                    go_roundw
                    case rel => exact ⟨j + 1, by omega, by omega, by go_num, by rw [HRS.out, HU2.out]; rfl, by first | trivial | rfl⟩
                    case measure => simp [intOf]; omega
              · have hjm : j = min T (k + 1) := by omega
                have hry : r = y1 := by rw [← hr, hjm]; exact HRE.out
                have HRY := Lib.hid hry
                have d1 : (j : Int) < (T : Int) := by omega
                have d2 : ¬ (j : Int) ≤ (k : Int) := by omega
                have d3 : decide (j ≤ k) = false := decide_eq_false h2
                have d4 : decide ((j : Int) ≤ (k : Int)) = false := decide_eq_false d2
                clear hjm hry hr
                rw [HRY.out]
                have hyy : (y1 != y1) = false := by cases y1 <;> rfl
                have wm : IntKind.i64.wrap ((m : Int) + 1) = (m : Int) + 1 := IntWalk.i64_in _ (by omega)
                have wq : IntKind.i64.wrap ((q : Int) + 1) = (q : Int) + 1 := IntWalk.i64_in _ (by omega)
                cases u
                case true =>
                  have hq1 := HQ1.out
                  simp only [if_true] at hq1
                  have HQ2 : Hid (0 = quietN (upB s) (k + 1)) := hq1.symm
                  have HM2 : Hid (m = (toK s T (k + 1)).length) := by show _ = _; rw [HTOM.out (by omega)]; exact HM.out
                  have z1 : ((0 : Int) == (T : Int)) = false := by simp; omega
                  have z2 : (0 == T) = false := by simp; omega
                  have z3 : ¬ (0 : Int) = (T : Int) := by omega
                  clear hq1
                  by_cases hL : L = 0
                  · have hs : sh k = true := by rw [HUP.out, hL]; rfl
                    have eo := HEO.out; rw [hs] at eo; simp only [if_true] at eo
                    rw [decide_eq_true (show 0 < T by omega)] at eo
                    have HLB2 := HST.out; rw [hs] at HLB2; simp only [if_true] at HLB2
                    have HLB3 := Lib.hid HLB2
                    have c1 : ((L : Int) == 0) = true := by simp; omega
                    have c2 : (L == 0) = true := by simp; omega
                    have c3 : 0 < T := by omega
                    have c4 : (0 : Int) < (T : Int) := by omega
                    have wl : IntKind.i64.wrap ((T : Int) - 1) = ((T - 1 : Nat) : Int) := by rw [show ((T - 1 : Nat) : Int) = (T : Int) - 1 by omega]; exact IntWalk.i64_in _ (by omega)
                    clear hL hs HLB2
                    go_wp2
                    go_roundw
                    case rel => exact ⟨k + 1, T - 1, 0, m, by omega, by go_num, by go_num, by go_num, by go_num, HLB3, HQ2, HM2, by first | trivial | rfl⟩
                    case measure => simp [intOf]; omega
                  · have hs : sh k = false := by rw [HUP.out]; simp; omega
                    have eo := HEO.out; rw [hs] at eo; simp only [Bool.false_eq_true, if_false] at eo
                    rw [decide_eq_true (show 0 < L by omega)] at eo
                    have HLB2 := HST.out; rw [hs] at HLB2; simp only [Bool.false_eq_true, if_false] at HLB2
                    have HLB3 := Lib.hid HLB2
                    have c1 : ((L : Int) == 0) = false := by simp; omega
                    have c2 : (L == 0) = false := by simp; omega
                    have c3 : 0 < L := by omega
                    have c4 : (0 : Int) < (L : Int) := by omega
                    have c5 : ¬ (L : Int) = 0 := by omega
                    have wl : IntKind.i64.wrap ((L : Int) - 1) = ((L - 1 : Nat) : Int) := by rw [show ((L - 1 : Nat) : Int) = (L : Int) - 1 by omega]; exact IntWalk.i64_in _ (by omega)
                    clear hL hs HLB2
                    go_wp2
                    go_roundw
                    case rel => exact ⟨k + 1, L - 1, 0, m, by omega, by go_num, by go_num, by go_num, by go_num, HLB3, HQ2, HM2, by first | trivial | rfl⟩
                    case measure => simp [intOf]; omega
                case false =>
                  have hs : sh k = false := by rw [HUP.out]; rfl
                  have eo := HEO.out; rw [hs] at eo; simp only [Bool.false_eq_true, if_false] at eo
                  have HLB2 := HST.out; rw [hs] at HLB2; simp only [Bool.false_eq_true, if_false] at HLB2
                  have HLB3 := Lib.hid HLB2
                  have hq1 := HQ1.out
                  simp only [Bool.false_eq_true, if_false] at hq1
                  have HQ2 : Hid (q + 1 = quietN (upB s) (k + 1)) := hq1.symm
                  clear hs HLB2
                  by_cases hqT : q + 1 = T
                  · obtain ⟨m1, m2, m3⟩ := HTOK.out (by omega)
                    rw [← HM.out] at m1 m2 m3
                    have HM2 : Hid (m + 1 = (toK s T (k + 1)).length) := m1.symm
                    obtain ⟨g, rfl, -, -, hcell⟩ := HI4.out.at m m2
                    rw [m3] at hcell
                    have n1 : ¬ (toK s T s.size).length ≤ m := by omega
                    have n2 : ¬ (((toK s T s.size).length : Nat) : Int) ≤ (m : Int) := by omega
                    have z1 : (((q : Int) + 1) == (T : Int)) = true := by simp; omega
                    have z2 : (q + 1 == T) = true := by simp; omega
                    have z3 : (q : Int) + 1 = (T : Int) := by omega
                    have Z3 := Lib.hid z3
                    clear m1 m3 hqT hq1 z3
                    by_cases hL : L = 0
                    · rw [decide_eq_false (show ¬ 0 < L by omega)] at eo
                      have HLB4 : Hid (LeftB sh T (k + 1) L) := by have h := HLB3.out; rw [show L - 1 = L by omega] at h; exact h
                      have c1 : ¬ 0 < L := by omega
                      have c2 : ¬ (0 : Int) < (L : Int) := by omega
                      have c3 : decide (0 < L) = false := decide_eq_false c1
                      clear hL
                      go_wp2
                      go_roundw
                      case rel => exact ⟨k + 1, L, q + 1, m + 1, by omega, by go_num, by go_num, by go_num, by go_num, HLB4, HQ2, HM2, by first | trivial | rfl⟩
                      case measure => simp [intOf]; omega
                    · rw [decide_eq_true (show 0 < L by omega)] at eo
                      have c1 : 0 < L := by omega
                      have c2 : (0 : Int) < (L : Int) := by omega
                      have wl : IntKind.i64.wrap ((L : Int) - 1) = ((L - 1 : Nat) : Int) := by rw [show ((L - 1 : Nat) : Int) = (L : Int) - 1 by omega]; exact IntWalk.i64_in _ (by omega)
                      clear hL
                      go_wp2
                      go_roundw
                      case rel => exact ⟨k + 1, L - 1, q + 1, m + 1, by omega, by go_num, by go_num, by go_num, by go_num, HLB3, HQ2, HM2, by first | trivial | rfl⟩
                      case measure => simp [intOf]; omega
                  · have HM2 : Hid (m = (toK s T (k + 1)).length) := by show _ = _; rw [HTOM.out (by omega)]; exact HM.out
                    have z1 : (((q : Int) + 1) == (T : Int)) = false := by simp; omega
                    have z2 : (q + 1 == T) = false := by simp; omega
                    have z3 : ¬ (q : Int) + 1 = (T : Int) := by omega
                    clear hqT hq1
                    by_cases hL : L = 0
                    · rw [decide_eq_false (show ¬ 0 < L by omega)] at eo
                      have HLB4 : Hid (LeftB sh T (k + 1) L) := by have h := HLB3.out; rw [show L - 1 = L by omega] at h; exact h
                      have c1 : ¬ 0 < L := by omega
                      have c2 : ¬ (0 : Int) < (L : Int) := by omega
                      have c3 : decide (0 < L) = false := decide_eq_false c1
                      clear hL
                      go_wp2
                      go_roundw
                      case rel => exact ⟨k + 1, L, q + 1, m, by omega, by go_num, by go_num, by go_num, by go_num, HLB4, HQ2, HM2, by first | trivial | rfl⟩
                      case measure => simp [intOf]; omega
                    · rw [decide_eq_true (show 0 < L by omega)] at eo
                      have c1 : 0 < L := by omega
                      have c2 : (0 : Int) < (L : Int) := by omega
                      have wl : IntKind.i64.wrap ((L : Int) - 1) = ((L - 1 : Nat) : Int) := by rw [show ((L - 1 : Nat) : Int) = (L : Int) - 1 by omega]; exact IntWalk.i64_in _ (by omega)
                      clear hL
                      go_wp2
                      go_roundw
                      case rel => exact ⟨k + 1, L - 1, q + 1, m, by omega, by go_num, by go_num, by go_num, by go_num, HLB3, HQ2, HM2, by first | trivial | rfl⟩
                      case measure => simp [intOf]; omega
            · have hjm : j = min T (k + 1) := by omega
              have hry : r = y1 := by rw [← hr, hjm]; exact HRE.out
              have HRY := Lib.hid hry
              have d1 : ¬ (j : Int) < (T : Int) := by omega
              have d3 : decide (j < T) = false := decide_eq_false h1
              have d4 : decide ((j : Int) < (T : Int)) = false := decide_eq_false d1
              clear hjm hry hr
              rw [HRY.out]
              have hyy : (y1 != y1) = false := by cases y1 <;> rfl
              have wm : IntKind.i64.wrap ((m : Int) + 1) = (m : Int) + 1 := IntWalk.i64_in _ (by omega)
              have wq : IntKind.i64.wrap ((q : Int) + 1) = (q : Int) + 1 := IntWalk.i64_in _ (by omega)
              cases u
              case true =>
                have hq1 := HQ1.out
                simp only [if_true] at hq1
                have HQ2 : Hid (0 = quietN (upB s) (k + 1)) := hq1.symm
                have HM2 : Hid (m = (toK s T (k + 1)).length) := by show _ = _; rw [HTOM.out (by omega)]; exact HM.out
                have z1 : ((0 : Int) == (T : Int)) = false := by simp; omega
                have z2 : (0 == T) = false := by simp; omega
                have z3 : ¬ (0 : Int) = (T : Int) := by omega
                clear hq1
                by_cases hL : L = 0
                · have hs : sh k = true := by rw [HUP.out, hL]; rfl
                  have eo := HEO.out; rw [hs] at eo; simp only [if_true] at eo
                  rw [decide_eq_true (show 0 < T by omega)] at eo
                  have HLB2 := HST.out; rw [hs] at HLB2; simp only [if_true] at HLB2
                  have HLB3 := Lib.hid HLB2
                  have c1 : ((L : Int) == 0) = true := by simp; omega
                  have c2 : (L == 0) = true := by simp; omega
                  have c3 : 0 < T := by omega
                  have c4 : (0 : Int) < (T : Int) := by omega
                  have wl : IntKind.i64.wrap ((T : Int) - 1) = ((T - 1 : Nat) : Int) := by rw [show ((T - 1 : Nat) : Int) = (T : Int) - 1 by omega]; exact IntWalk.i64_in _ (by omega)
                  clear hL hs HLB2
                  go_wp2
                  go_roundw
                  case rel => exact ⟨k + 1, T - 1, 0, m, by omega, by go_num, by go_num, by go_num, by go_num, HLB3, HQ2, HM2, by first | trivial | rfl⟩
                  case measure => simp [intOf]; omega
                · have hs : sh k = false := by rw [HUP.out]; simp; omega
                  have eo := HEO.out; rw [hs] at eo; simp only [Bool.false_eq_true, if_false] at eo
                  rw [decide_eq_true (show 0 < L by omega)] at eo
                  have HLB2 := HST.out; rw [hs] at HLB2; simp only [Bool.false_eq_true, if_false] at HLB2
                  have HLB3 := Lib.hid HLB2
                  have c1 : ((L : Int) == 0) = false := by simp; omega
                  have c2 : (L == 0) = false := by simp; omega
                  have c3 : 0 < L := by omega
                  have c4 : (0 : Int) < (L : Int) := by omega
                  have c5 : ¬ (L : Int) = 0 := by omega
                  have wl : IntKind.i64.wrap ((L : Int) - 1) = ((L - 1 : Nat) : Int) := by rw [show ((L - 1 : Nat) : Int) = (L : Int) - 1 by omega]; exact IntWalk.i64_in _ (by omega)
                  clear hL hs HLB2
                  go_wp2
                  go_roundw
                  case rel => exact ⟨k + 1, L - 1, 0, m, by omega, by go_num, by go_num, by go_num, by go_num, HLB3, HQ2, HM2, by first | trivial | rfl⟩
                  case measure => simp [intOf]; omega
              case false =>
                have hs : sh k = false := by rw [HUP.out]; rfl
                have eo := HEO.out; rw [hs] at eo; simp only [Bool.false_eq_true, if_false] at eo
                have HLB2 := HST.out; rw [hs] at HLB2; simp only [Bool.false_eq_true, if_false] at HLB2
                have HLB3 := Lib.hid HLB2
                have hq1 := HQ1.out
                simp only [Bool.false_eq_true, if_false] at hq1
                have HQ2 : Hid (q + 1 = quietN (upB s) (k + 1)) := hq1.symm
                clear hs HLB2
                by_cases hqT : q + 1 = T
                · obtain ⟨m1, m2, m3⟩ := HTOK.out (by omega)
                  rw [← HM.out] at m1 m2 m3
                  have HM2 : Hid (m + 1 = (toK s T (k + 1)).length) := m1.symm
                  obtain ⟨g, rfl, -, -, hcell⟩ := HI4.out.at m m2
                  rw [m3] at hcell
                  have n1 : ¬ (toK s T s.size).length ≤ m := by omega
                  have n2 : ¬ (((toK s T s.size).length : Nat) : Int) ≤ (m : Int) := by omega
                  have z1 : (((q : Int) + 1) == (T : Int)) = true := by simp; omega
                  have z2 : (q + 1 == T) = true := by simp; omega
                  have z3 : (q : Int) + 1 = (T : Int) := by omega
                  have Z3 := Lib.hid z3
                  clear m1 m3 hqT hq1 z3
                  by_cases hL : L = 0
                  · rw [decide_eq_false (show ¬ 0 < L by omega)] at eo
                    have HLB4 : Hid (LeftB sh T (k + 1) L) := by have h := HLB3.out; rw [show L - 1 = L by omega] at h; exact h
                    have c1 : ¬ 0 < L := by omega
                    have c2 : ¬ (0 : Int) < (L : Int) := by omega
                    have c3 : decide (0 < L) = false := decide_eq_false c1
                    clear hL
                    go_wp2
                    go_roundw
                    case rel => exact ⟨k + 1, L, q + 1, m + 1, by omega, by go_num, by go_num, by go_num, by go_num, HLB4, HQ2, HM2, by first | trivial | rfl⟩
                    case measure => simp [intOf]; omega
                  · rw [decide_eq_true (show 0 < L by omega)] at eo
                    have c1 : 0 < L := by omega
                    have c2 : (0 : Int) < (L : Int) := by omega
                    have wl : IntKind.i64.wrap ((L : Int) - 1) = ((L - 1 : Nat) : Int) := by rw [show ((L - 1 : Nat) : Int) = (L : Int) - 1 by omega]; exact IntWalk.i64_in _ (by omega)
                    clear hL
                    go_wp2
                    go_roundw
                    case rel => exact ⟨k + 1, L - 1, q + 1, m + 1, by omega, by go_num, by go_num, by go_num, by go_num, HLB3, HQ2, HM2, by first | trivial | rfl⟩
                    case measure => simp [intOf]; omega
                · have HM2 : Hid (m = (toK s T (k + 1)).length) := by show _ = _; rw [HTOM.out (by omega)]; exact HM.out
                  have z1 : (((q : Int) + 1) == (T : Int)) = false := by simp; omega
                  have z2 : (q + 1 == T) = false := by simp; omega
                  have z3 : ¬ (q : Int) + 1 = (T : Int) := by omega
                  clear hqT hq1
                  by_cases hL : L = 0
                  · rw [decide_eq_false (show ¬ 0 < L by omega)] at eo
                    have HLB4 : Hid (LeftB sh T (k + 1) L) := by have h := HLB3.out; rw [show L - 1 = L by omega] at h; exact h
                    have c1 : ¬ 0 < L := by omega
                    have c2 : ¬ (0 : Int) < (L : Int) := by omega
                    have c3 : decide (0 < L) = false := decide_eq_false c1
                    clear hL
                    go_wp2
                    go_roundw
                    case rel => exact ⟨k + 1, L, q + 1, m, by omega, by go_num, by go_num, by go_num, by go_num, HLB4, HQ2, HM2, by first | trivial | rfl⟩
                    case measure => simp [intOf]; omega
                  · rw [decide_eq_true (show 0 < L by omega)] at eo
                    have c1 : 0 < L := by omega
                    have c2 : (0 : Int) < (L : Int) := by omega
                    have wl : IntKind.i64.wrap ((L : Int) - 1) = ((L - 1 : Nat) : Int) := by rw [show ((L - 1 : Nat) : Int) = (L : Int) - 1 by omega]; exact IntWalk.i64_in _ (by omega)
                    clear hL
                    go_wp2
                    go_roundw
                    case rel => exact ⟨k + 1, L - 1, q + 1, m, by omega, by go_num, by go_num, by go_num, by go_num, HLB3, HQ2, HM2, by first | trivial | rfl⟩
                    case measure => simp [intOf]; omega
      · obtain rfl : k = s.size := by omega
        have hm1 : (((m : Nat) : Int) == (((toK s T s.size).length : Nat) : Int)) = true := by have h := HM.out; simp; omega
        have hm2 : (m == (toK s T s.size).length) = true := by have h := HM.out; simp; omega
        go_wp2
        go_ret
        exact ⟨rfl, HB4.out⟩
  · have HLO := Lib.hid (fun w => b10Long_any a a2 n cap n2 cap2 w)
    have hb : (decide (1048576 < n) || decide (1048576 < n2)) = true := by simp; omega
    rw [hb] at HLO
    clear hb hr hr2 hn hn2
    go_enter Try.func4, Try.ntmps4
    go_wp2_with fail
    refine (HLO.out _).mono ?_; rintro e w' ⟨rfl, rfl⟩
    go_wp2
    go_ret
    exact ⟨rfl, Below.refl _ _⟩
end Go.Proofs.Ytkipgeecibimoaa
