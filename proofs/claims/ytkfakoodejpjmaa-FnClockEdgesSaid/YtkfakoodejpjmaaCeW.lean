/- The walk of a law: where edges are. -/
import Derived.Test.YtkfakoodejpjmaaCeM
import Derived.Test.YtkfakoodejpjmaaR8c
import Derived.Test.YtkfakoodejpjmaaByteR
import Derived.Test.YtkfakoodejpjmaaWvI
namespace Go.Proofs.Ytkfakoodejpjmaa
open Go.RowKit
set_option linter.unusedVariables false
theorem tmod_zero' (a p : Int) (hp : p ≠ 0) : a.tmod p = 0 ↔ a % p = 0 := by
  rw [← Int.dvd_iff_tmod_eq_zero, ← Int.dvd_iff_emod_eq_zero]
theorem outW_byte {p o : Int} {hi n t : Nat} {b : UInt8} (h : (outW p o hi n)[t]? = some b) : ∃ h2 : t < (⟨⟨outW p o hi n⟩⟩ : ByteArray).size, (⟨⟨outW p o hi n⟩⟩ : ByteArray)[t]'h2 = b := by
  obtain ⟨h1, h2⟩ := List.getElem?_eq_some_iff.1 h
  exact ⟨h1, h2⟩
set_option maxHeartbeats 16000000 in
set_option maxRecDepth 100000 in
theorem walk_FnClockEdges (a : Option Addr) (n cap : Nat) (l : List Int) (a2 : Option Addr) (n2 cap2 : Nat) (l2 : List Int) (w : World) (hn : n = l.length) (hr : ByteRow w a l) (hm : n ≤ maxLen) (hn2 : n2 = l2.length) (hr2 : ByteRow w a2 l2) (hm2 : n2 ≤ maxLen) :
    Calls Try.prog 4 #[.slice a n cap, .slice a2 n2 cap2] w fun e w' => e = .returned (.bool true) ∧ Below w.heap.size w w' := by
  clear hm hm2
  have HLO := Lib.hid (fun w => r8Long_any a a2 n cap n2 cap2 w)
  by_cases hle : 48 < n ∨ 48 < n2
  · have hb : (decide (48 < n) || decide (48 < n2)) = true := by simp; omega
    rw [hb] at HLO
    clear hb hr hr2 hn hn2 hle
    go_enter Try.func4, Try.ntmps4
    go_wp2_with fail
    refine (HLO.out _).mono ?_; rintro e w' ⟨rfl, rfl⟩
    go_wp2
    go_ret
    exact ⟨rfl, Below.refl _ _⟩
  · have hb : (decide (48 < n) || decide (48 < n2)) = false := by simp; omega
    rw [hb] at HLO
    have HC1 := Lib.hid (r8Clock_any a n cap l w hn (by omega) hr)
    have HA0 := Lib.hid (fun W (b : Below w.heap.size w W) => r8At_any a2 n2 cap2 l2 0 100 W hn2 (by omega) (hr2.keep b (Nat.le_refl _)) (by omega) (by omega) (by omega))
    have HA1 := Lib.hid (fun W (b : Below w.heap.size w W) => r8At_any a2 n2 cap2 l2 1 100 W hn2 (by omega) (hr2.keep b (Nat.le_refl _)) (by omega) (by omega) (by omega))
    have HA2 := Lib.hid (fun W (b : Below w.heap.size w W) => r8At_any a2 n2 cap2 l2 2 50 W hn2 (by omega) (hr2.keep b (Nat.le_refl _)) (by omega) (by omega) (by omega))
    have HA3 := Lib.hid (fun p (hp : 1 ≤ p ∧ p ≤ 20) W (b : Below w.heap.size w W) => r8At_any a2 n2 cap2 l2 3 (p + 1) W hn2 (by omega) (hr2.keep b (Nat.le_refl _)) (by omega) (by omega) (by omega))
    have HB3' := Lib.hid (fun p (hp : (1 : Int) ≤ p ∧ p ≤ 20) => r8V_bd l2 3 (p + 1) (by omega))
    obtain ⟨f0, f1⟩ := r8V_bd l2 0 100 (by omega)
    obtain ⟨d0, d1⟩ := r8V_bd l2 1 100 (by omega)
    obtain ⟨k0, k1⟩ := r8V_bd l2 2 50 (by omega)
    obtain ⟨fr, hfr⟩ : ∃ z, r8V l2 0 100 = z := ⟨_, rfl⟩
    obtain ⟨dt, hdt⟩ : ∃ z, r8V l2 1 100 = z := ⟨_, rfl⟩
    obtain ⟨k, hk⟩ : ∃ z, r8V l2 2 50 = z := ⟨_, rfl⟩
    rw [hfr] at HA0 f0 f1
    rw [hdt] at HA1 d0 d1
    rw [hk] at HA2 k0 k1
    clear hb hr hr2 hn hn2 hle hfr hdt hk
    have v1 : IntKind.i64.wrap (fr + dt) = fr + dt := IntWalk.i64_in _ (by omega)
    go_enter Try.func4, Try.ntmps4
    go_wp2_with fail
    refine (HLO.out _).mono ?_; rintro e w' ⟨rfl, rfl⟩
    go_wp2_with fail
    refine HC1.out.mono ?_; rintro e w1 ⟨p, o, rfl, hp, ho, hb1⟩
    have HB1 := Lib.hid (hb1.alloc hb1.size (.cells #[.int .i64 p, .int .i64 o] 26))
    have CA1 := Lib.hid (CkAt.new w1 p o 26)
    clear hb1
    have hcl : clkB p o = true := clkB_t ⟨by omega, by omega⟩
    have HNE := Lib.hid (fun w => implNextEdge_t p o fr w hcl ⟨f0, by omega⟩)
    have HCN := Lib.hid (fun w => implCountEdgesIn_t p o fr (fr + dt) w hcl f0 (by omega) (by omega))
    have m0 : 0 ≤ k * p := Int.mul_nonneg k0 (by omega)
    have m1 : k * p ≤ 49 * 20 := Int.mul_le_mul (by omega) hp.2 (by omega) (by omega)
    have HEA := Lib.hid (fun w => implEdgeAt_t p o k w hcl ⟨k0, by omega⟩ (by omega))
    have HCB := Lib.hid (fun w => implCountEdgesIn_t p o 0 (o + k * p) w hcl (by omega) (by omega) (by omega))
    rw [befZ_at p o k hp.1 ho.1 k0, befZ_le p o 0 ho.1, Int.sub_zero] at HCB
    obtain ⟨h0, h1⟩ := HB3'.out p hp
    have HA3p := Lib.hid (HA3.out p hp)
    obtain ⟨hi, hhi⟩ : ∃ z : Nat, (z : Int) = r8V l2 3 (p + 1) := ⟨(r8V l2 3 (p + 1)).toNat, Int.toNat_of_nonneg h0⟩
    rw [← hhi] at HA3p h0 h1
    have HWV := Lib.hid (fun w => implWave_t p o hi 120 (min hi 120) w hcl (by omega) (by omega) rfl)
    have HVC := Lib.hid (fun w => implVC_any p o w)
    rw [hcl] at HVC
    obtain ⟨n0, n1, n2'⟩ := next_is p o fr hp.1 ho.1 f0
    have HNF := Lib.hid (fun u => next_first p o fr u hp.1 ho.1 f0)
    obtain ⟨q0, q1⟩ := befZ_mul p o fr hp.1 ho.1 f0
    have HST := Lib.hid (fun t => befZ_edge p o t hp.1)
    have HSM := Lib.hid (fun t => befZ_miss p o t hp.1)
    have HBD := Lib.hid (fun t (ht : 0 ≤ t) => befZ_bd p o t hp.1 ht ho.1)
    obtain ⟨NB, hNB⟩ : ∃ z, o + befZ p o fr * p = z := ⟨_, rfl⟩
    obtain ⟨AT, hAT⟩ : ∃ z, o + k * p = z := ⟨_, rfl⟩
    have a0 : 0 ≤ AT ∧ AT ≤ 2000 := by omega
    have a1 : IntKind.i64.wrap (k * p) = k * p := IntWalk.i64_in _ (by omega)
    have a2' : IntKind.i64.wrap (o + k * p) = AT := by rw [hAT]; exact IntWalk.i64_in _ (by omega)
    have a5 : wrap64 (o + k * p) = AT := by rw [hAT]; unfold wrap64; omega
    have a6 : wrap64 (k * p) = k * p := by unfold wrap64; omega
    have a3 : IntKind.i64.wrap AT = AT := IntWalk.i64_in _ (by omega)
    rw [hNB] at HNE HNF n0 n1 n2'
    rw [hAT] at HEA HCB a2'
    have nb : NB ≤ 200 := by omega
    have n3 : IntKind.i64.wrap (NB - o) = NB - o := IntWalk.i64_in _ (by omega)
    have n4 : (NB - o).tmod p = 0 := (tmod_zero' _ _ (by omega)).2 n2'
    have yp : (p == 0) = false := by simp; omega
    have yp0 : ¬ p = 0 := by omega
    have yp1 : IntKind.i64.wrap (p + 1) = p + 1 := IntWalk.i64_in _ (by omega)
    have HP := Lib.hid hp
    have HO := Lib.hid ho
    clear hNB hAT q0 q1 m0 m1 hhi HB3' HA3 hcl n2'
    go_wp2_with fail
    refine (HA0.out _ HB1.out).mono ?_; rintro e w' ⟨rfl, rfl⟩
    go_wp2_with fail
    refine (HA1.out _ HB1.out).mono ?_; rintro e w' ⟨rfl, rfl⟩
    obtain ⟨-, x0, x1⟩ := CA1.out
    go_wp2_with fail
    refine (HNE.out _).mono ?_; rintro e w2 ⟨rfl, hb2⟩
    have HB2 := Lib.hid (bel_call HB1.out hb2)
    have CA2 := Lib.hid (CA1.out.call hb2)
    clear hb2 x0 x1
    obtain ⟨-, x0, x1⟩ := CA2.out
    go_wp2_with fail
    refine (HCN.out _).mono ?_; rintro e w3 ⟨rfl, hb3⟩
    have HB3 := Lib.hid (bel_call HB2.out hb3)
    have CA3 := Lib.hid (CA2.out.call hb3)
    clear hb3 x0 x1
    obtain ⟨-, x0, x1⟩ := CA3.out
    go_wp2
    go_loop [12, 13] (fun cv tv => ∃ (t : Int), fr ≤ t ∧ t ≤ fr + dt ∧ tv = .int .i64 t ∧ cv = .int .i64 (befZ p o t - befZ p o fr)) (fun _ tv => (fr + dt - intOf tv).toNat)
    case atStart => exact ⟨fr, by omega, by omega, rfl, by rw [Int.sub_self]⟩
    case round =>
      obtain ⟨t, ht0, ht1, rfl, rfl⟩ := hrel
      by_cases hlt : t < fr + dt
      · have e6 : IntKind.i64.wrap (t + 1) = t + 1 := IntWalk.i64_in _ (by omega)
        by_cases k3 : o ≤ t
        · have e1 : IntKind.i64.wrap (t - o) = t - o := IntWalk.i64_in _ (by omega)
          have k9 : 0 ≤ t - o := by omega
          by_cases k4 : (t - o) % p = 0
          · have k5 : (t - o).tmod p = 0 := (tmod_zero' _ _ (by omega)).2 k4
            have k6 : ((t - o).tmod p == 0) = true := by simp [k5]
            have k7 : ((t - o) % p == 0) = true := by simp [k4]
            have hst := HST.out t ⟨k3, k4⟩
            have hnf := HNF.out t ⟨k3, k4⟩ ht0
            obtain ⟨b0, b1, -, -⟩ := HBD.out t (by omega)
            obtain ⟨b2, b3, -, -⟩ := HBD.out fr (by omega)
            have e2 : IntKind.i64.wrap (befZ p o t - befZ p o fr + 1) = befZ p o t - befZ p o fr + 1 := IntWalk.i64_in _ (by omega)
            have e3 : decide (t < NB) = false := decide_eq_false (by omega)
            have HS := Lib.hid (show befZ p o t - befZ p o fr + 1 = befZ p o (t + 1) - befZ p o fr by omega)
            clear hst b0 b1 b2 b3
            go_wp2
            go_round
            case rel => exact ⟨t + 1, by omega, by omega, rfl, by rw [HS.out]⟩
            case measure => simp [intOf]; omega
          · have k5 : ¬ (t - o).tmod p = 0 := fun h => k4 ((tmod_zero' _ _ (by omega)).1 h)
            have k6 : ((t - o).tmod p == 0) = false := by simp [k5]
            have k7 : ((t - o) % p == 0) = false := by simp [k4]
            have HS := Lib.hid (HSM.out t (fun h => k4 h.2))
            go_wp2
            go_round
            case rel => exact ⟨t + 1, by omega, by omega, rfl, by rw [HS.out]⟩
            case measure => simp [intOf]; omega
        · have HS := Lib.hid (HSM.out t (fun h => k3 h.1))
          go_wp2
          go_round
          case rel => exact ⟨t + 1, by omega, by omega, rfl, by rw [HS.out]⟩
          case measure => simp [intOf]; omega
      · obtain rfl : t = fr + dt := by omega
        obtain ⟨CN, hCN⟩ : ∃ z, befZ p o (fr + dt) - befZ p o fr = z := ⟨_, rfl⟩
        rw [hCN]
        clear HST HSM HBD HNF HCN
        go_wp2_with fail
        refine (HA2.out _ HB3.out).mono ?_; rintro e w' ⟨rfl, rfl⟩
        go_wp2_with fail
        refine (HEA.out _).mono ?_; rintro e w4 ⟨rfl, hb4⟩
        have HB4 := Lib.hid (bel_call HB3.out hb4)
        have CA4 := Lib.hid (CA3.out.call hb4)
        clear hb4 x0 x1
        obtain ⟨-, x0, x1⟩ := CA4.out
        go_wp2_with fail
        refine (HCB.out _).mono ?_; rintro e w5 ⟨rfl, hb5⟩
        have HB5 := Lib.hid (bel_call HB4.out hb5)
        have CA5 := Lib.hid (CA4.out.call hb5)
        clear hb5 x0 x1
        obtain ⟨-, x0, x1⟩ := CA5.out
        go_wp2_with fail
        refine (HA3p.out _ HB5.out).mono ?_; rintro e w' ⟨rfl, rfl⟩
        go_wp2_with fail
        refine (HWV.out _).mono ?_; rintro e w6 ⟨rfl, hb6⟩
        have HB6 := Lib.hid (bel_call HB5.out hb6)
        have CA6 := Lib.hid (CA5.out.call hb6)
        clear hb6 x0 x1
        obtain ⟨-, x0, x1⟩ := CA6.out
        have HLN := Lib.hid (outW_len' p o hi 120)
        have hln := HLN.out
        go_wp2_with fail
        refine (HVC.out _).mono ?_; rintro e w7 ⟨rfl, hb7⟩
        have HB7 := Lib.hid (bel_call HB6.out hb7)
        have CA7 := Lib.hid (CA6.out.call hb7)
        clear hb7 x0 x1
        obtain ⟨-, x0, x1⟩ := CA7.out
        go_wp2
        go_loop [23] (fun tv => ∃ (t : Nat), t ≤ 120 ∧ tv = .int .i64 (t : Int)) (fun tv => (120 - intOf tv).toNat)
        case atStart => exact ⟨0, by omega, rfl⟩
        case round =>
          obtain ⟨t, ht, rfl⟩ := hrel
          by_cases hlt : t < 120
          · have e6 : IntKind.i64.wrap ((t : Int) + 1) = (t : Int) + 1 := IntWalk.i64_in _ (by omega)
            have hg := outW_get p o hi 120 t hlt
            by_cases k3 : o ≤ (t : Int)
            · have e1 : IntKind.i64.wrap ((t : Int) - o) = (t : Int) - o := IntWalk.i64_in _ (by omega)
              have e2 : ((t : Int) - o).tmod p = ((t : Int) - o) % p := Int.tmod_eq_emod_of_nonneg (by omega)
              have hS : bitW p o hi t = if ((t : Int) - o) % p < (hi : Int) then 49 else 48 := by unfold bitW; simp [k3]
              have r0 := Int.emod_nonneg ((t : Int) - o) (b := p) (by omega)
              have r1 := Int.emod_lt_of_pos ((t : Int) - o) (b := p) (by omega)
              obtain ⟨r, hr⟩ : ∃ r, ((t : Int) - o) % p = r := ⟨_, rfl⟩
              rw [hr] at e2 hS r0 r1
              have e3 : IntKind.i64.wrap r = r := IntWalk.i64_in _ (by omega)
              clear hr
              by_cases hrh : r < (hi : Int)
              · have hd : decide (r < (hi : Int)) = true := decide_eq_true hrh
                rw [hS, if_pos hrh] at hg
                obtain ⟨hsz, hby⟩ := outW_byte hg
                have b1 : ((((⟨⟨outW p o hi 120⟩⟩ : ByteArray)[t]'hsz).toNat : Int) == 49) = true := by rw [hby]; rfl
                clear hS hg hby
                go_wp2
                go_round
                case rel => exact ⟨t + 1, by omega, by go_num⟩
                case measure => simp [intOf]; omega
              · have hd : decide (r < (hi : Int)) = false := decide_eq_false hrh
                rw [hS, if_neg hrh] at hg
                obtain ⟨hsz, hby⟩ := outW_byte hg
                have b1 : ((((⟨⟨outW p o hi 120⟩⟩ : ByteArray)[t]'hsz).toNat : Int) == 49) = false := by rw [hby]; rfl
                clear hS hg hby
                go_wp2
                go_round
                case rel => exact ⟨t + 1, by omega, by go_num⟩
                case measure => simp [intOf]; omega
            · have hS : bitW p o hi t = 48 := by unfold bitW; rw [if_neg (fun h => k3 h.1)]
              rw [hS] at hg
              obtain ⟨hsz, hby⟩ := outW_byte hg
              have b1 : ((((⟨⟨outW p o hi 120⟩⟩ : ByteArray)[t]'hsz).toNat : Int) == 49) = false := by rw [hby]; rfl
              clear hS hg hby
              go_wp2
              go_round
              case rel => exact ⟨t + 1, by omega, by go_num⟩
              case measure => simp [intOf]; omega
          · obtain rfl : t = 120 := by omega
            go_wp2
            go_ret
            exact ⟨rfl, HB7.out⟩
end Go.Proofs.Ytkfakoodejpjmaa
