/- The law: windows have as many ups as told, none is out of the range, and the period of a signal lies between the bounds that counts and spans give. -/
import Derived.Test.YtkipgeecibimoaaCntP
import Derived.Test.YtkipgeecibimoaaWRLaw
import Derived.Test.YtkipgeecibimoaaSmp
import Derived.Test.YtkipgeecibimoaaCBd
import Derived.Test.YtkipgeecibimoaaDrawW
import Derived.Test.YtkipgeecibimoaaFrac
import Derived.Deep.CutRange
namespace Go.Proofs.Ytkipgeecibimoaa
open Go.RowKit
set_option linter.unusedVariables false
set_option linter.unusedSimpArgs false

theorem below_dC {B : Nat} {w w' : World} (n : Nat) (h : Below B w w') : Below B w (w'.drewN n) := ⟨h.os, h.tape, h.output, h.size, h.block⟩
theorem Ints.atC {w : World} {B n cap : Nat} {a : Option Addr} {l : List Int} (h : Ints w B (.slice a n cap) l) (k : Nat) (hk : k < l.length) :
    ∃ g, a = some ⟨g, 0, none⟩ ∧ B ≤ g ∧ g < w.heap.size ∧ w.cell? ⟨g, k, none⟩ = some (.int .i64 (l.getD k 0)) := by
  obtain ⟨a', cap', hv, _, kk⟩ := h.form
  simp only [Value.slice.injEq] at hv
  obtain ⟨rfl, -, -⟩ := hv
  obtain ⟨g, h1, h2, h3, h4, _⟩ := kk k hk
  exact ⟨g, h1, h2, h3, by rw [h4, List.getD_eq_getElem?_getD, List.getElem?_eq_getElem hk]; rfl⟩
set_option maxHeartbeats 1000000 in
set_option maxRecDepth 100000 in
theorem walk_FnCounted (a : Option Addr) (n cap : Nat) (l : List Int) (a2 : Option Addr) (n2 cap2 : Nat) (l2 : List Int) (w : World) (hn : n = l.length) (hr : ByteRow w a l) (hm : n ≤ maxLen) (hn2 : n2 = l2.length) (hr2 : ByteRow w a2 l2) (hm2 : n2 ≤ maxLen) :
    Calls Try.prog 5 #[.slice a n cap, .slice a2 n2 cap2] w fun e w' => e = .returned (.bool true) ∧ Below w.heap.size w w' := by
  by_cases hlong : n ≤ 1048576 ∧ n2 ≤ 1048576
  · obtain ⟨k1, k2⟩ := hlong
    have HLO := Lib.hid (fun w => b10Long_any a a2 n cap n2 cap2 w)
    rw [decide_eq_false (show ¬ 1048576 < n by omega), decide_eq_false (show ¬ 1048576 < n2 by omega)] at HLO
    have HWV := Lib.hid (wave_w a n cap l w hn k1 hr)
    have HR1 := Lib.hid (fun W (hb : Below w.heap.size w W) => hr.keep hb (Nat.le_refl _))
    have HR2 := Lib.hid (fun W (hb : Below w.heap.size w W) => hr2.keep hb (Nat.le_refl _))
    have hv0 := b10V_bd l2 0 12 (by omega)
    have HV0 := Lib.hid (fun W (hb : Below w.heap.size w W) => b10At_any a2 n2 cap2 l2 0 12 W hn2 (HR2.out W hb) (by omega) (by omega) (by omega))
    obtain ⟨V0, e0⟩ := Int.eq_ofNat_of_zero_le hv0.1
    rw [e0] at HV0 hv0
    obtain ⟨T, hT0⟩ : ∃ m, 1 + V0 = m := ⟨_, rfl⟩
    have HS0 : Hid ((1 : Int) + (V0 : Int) = (T : Int)) := by show _ = _; omega
    have hwT : IntKind.i64.wrap (1 + (V0 : Int)) = (T : Int) := by rw [HS0.out]; exact IntWalk.i64_in _ (by omega)
    have hT1 : 1 ≤ T := by omega
    have hT12 : T ≤ 12 := by omega
    -- the period
    have hv1 := b10V_bd l 1 9 (by omega)
    have HV1 := Lib.hid (fun W (hb : Below w.heap.size w W) => b10At_any a n cap l 1 9 W hn (HR1.out W hb) (by omega) (by omega) (by omega))
    obtain ⟨V1, e1⟩ := Int.eq_ofNat_of_zero_le hv1.1
    rw [e1] at HV1 hv1
    obtain ⟨d, hd0⟩ : ∃ m, 1 + V1 = m := ⟨_, rfl⟩
    have HS1 : Hid ((1 : Int) + (V1 : Int) = (d : Int)) := by show _ = _; omega
    have hwd : IntKind.i64.wrap (1 + (V1 : Int)) = (d : Int) := by rw [HS1.out]; exact IntWalk.i64_in _ (by omega)
    have hd1 : 1 ≤ d := by omega
    have hd9 : d ≤ 9 := by omega
    have hv2 := b10V_bd l 2 (5 * (d : Int)) (by omega)
    have HV2 := Lib.hid (fun W (hb : Below w.heap.size w W) => b10At_any a n cap l 2 (5 * (d : Int)) W hn (HR1.out W hb) (by omega) (by omega) (by omega))
    obtain ⟨V2, e2⟩ := Int.eq_ofNat_of_zero_le hv2.1
    rw [e2] at HV2 hv2
    obtain ⟨x, hx0⟩ : ∃ m, d + V2 = m := ⟨_, rfl⟩
    have HS2 : Hid ((d : Int) + (V2 : Int) = (x : Int)) := by show _ = _; omega
    have hwx : IntKind.i64.wrap ((d : Int) + (V2 : Int)) = (x : Int) := by rw [HS2.out]; exact IntWalk.i64_in _ (by omega)
    have hw5 : IntKind.i64.wrap (5 * (d : Int)) = 5 * (d : Int) := IntWalk.i64_in _ (by omega)
    have hx1 : d ≤ x := by omega
    have hx6 : x < 6 * d := by omega
    have hv3 := b10V_bd l2 1 (d : Int) (by omega)
    have HV3 := Lib.hid (fun W (hb : Below w.heap.size w W) => b10At_any a2 n2 cap2 l2 1 (d : Int) W hn2 (HR2.out W hb) (by omega) (by omega) (by omega))
    obtain ⟨y, e3⟩ := Int.eq_ofNat_of_zero_le hv3.1
    rw [e3] at HV3 hv3
    have hyd : y < d := by omega
    clear e0 e1 e2 e3 hv0 hv1 hv2 hv3 hT0 hd0 hx0 hn hr hn2 hr2
    go_enter Try.func5, Try.ntmps5
    go_wp2_with fail
    refine (HLO.out _).mono ?_; rintro e w' ⟨rfl, rfl⟩
    go_wp2_with fail
    refine HWV.out.mono ?_; rintro e w1 ⟨s, rfl, hwv, hs40, b1⟩
    have HB1 := Lib.hid b1
    have HW := Lib.hid hwv
    have hs : s.size ≤ maxLen := by unfold maxLen; omega
    have hc : canB s (T : Int) = true := by unfold canB; rw [hwv]; simp; omega
    have HCW := Lib.hid (fun w => callsIn_wide (n := 5).1 (implCW_in 5 (by omega) s T w hs hc))
    rw [cwK_eq s T hT1 s.size, cwK_all s T s.size hT1] at HCW
    clear b1 hwv
    go_wp2_with fail
    refine (HV0.out _ HB1.out).mono ?_; rintro e w' ⟨rfl, rfl⟩
    obtain ⟨LL, hLL⟩ : ∃ LL, (List.range (s.size / T)).map (fun k : Nat => ((lastC (upB s) T ((k + 1) * T) : Nat) : Int)) = LL := ⟨_, rfl⟩
    have hLlen : LL.length = s.size / T := by rw [← hLL]; simp
    rw [hLL] at HCW
    have HLL := Lib.hid hLL
    have HLN := Lib.hid hLlen
    have hle : s.size / T ≤ s.size := Nat.div_le_self _ _
    clear hLL hLlen
    go_wp2_with fail
    refine (HCW.out _).mono ?_; rintro e w2 ⟨v, rfl, i2, b2⟩
    have HB2 := Lib.hid (HB1.out.trans (b2.mono HB1.out.size))
    obtain ⟨a4, cap4, rfl, -, -⟩ := i2.form
    have HI2 := Lib.hid i2
    clear b2 i2
    -- the range
    have hWR : ∃ (lo hi : Int) (ok : Bool), (∀ w, Calls Try.prog 20 #[.string s, .int .i64 (T : Int)] w fun e w' => e = .returned (.tuple #[.int .i64 lo, .int .i64 hi, .bool ok]) ∧ Below w.heap.size w w') ∧ ok = decide (T ≤ s.size) ∧ (T ≤ s.size → lo = loL T (upsL s T s.size) ∧ hi = hiL (upsL s T s.size)) := by
      by_cases hts : T ≤ s.size
      · exact ⟨_, _, true, fun w => implWR_t s T w hs hc hts, (decide_eq_true hts).symm, fun _ => ⟨rfl, rfl⟩⟩
      · exact ⟨_, _, false, fun w => implWR_f s (T : Int) w hs (fun q => hts (by omega)), (decide_eq_false hts).symm, fun q => absurd q hts⟩
    obtain ⟨lo, hi, ok, hwr, hok, hlohi⟩ := hWR
    have HWR := Lib.hid hwr
    have HLH := Lib.hid hlohi
    have HOK := Lib.hid hok
    clear hwr hlohi hok
    go_wp2_with fail
    refine (HWR.out _).mono ?_; rintro e w3 ⟨rfl, b3⟩
    have HB3 := Lib.hid (HB2.out.trans (b3.mono HB2.out.size))
    have HI3 := Lib.hid (HI2.out.keep b3 (Nat.le_refl _))
    clear b3 HI2
    have k1 : decide ((T : Int) ≤ (s.size : Int)) = ok := by rw [HOK.out, decide_eq_decide]; omega
    have k2' : decide (T ≤ s.size) = ok := HOK.out.symm
    have q1 : (s.size : Int) / (T : Int) = (LL.length : Int) := by rw [HLN.out]; omega
    have q2 : Int.tdiv (s.size : Int) (T : Int) = (LL.length : Int) := by rw [Int.tdiv_eq_ediv_of_nonneg (by omega)]; exact q1
    have q3 : IntKind.i64.wrap (LL.length : Int) = (LL.length : Int) := IntWalk.i64_in _ (by have := HLN.out; omega)
    have m0 : ((T : Int) == 0) = false := by simp; omega
    have m1 : ¬ (T : Int) = 0 := by omega
    have q4 : (ok != ok) = false := by cases ok <;> rfl
    go_wp2
    go_loopw [13] (fun iv wr => ∃ k : Nat, k ≤ LL.length ∧ iv = .int .i64 (k : Int) ∧ Hid (Below w3.heap.size w3 wr)) (fun iv _ => LL.length - (intOf iv).toNat)
    case atStart => exact ⟨0, Nat.zero_le _, rfl, Lib.hid (Below.refl _ _)⟩
    case round =>
      obtain ⟨k, hk, rfl, HBR⟩ := hrel
      clear q1 q2 q3 q4 m0 m1
      by_cases hlt : k < LL.length
      · have hkn : k < s.size / T := by rw [← HLN.out]; exact hlt
        obtain ⟨z1, z2, z3⟩ := win_ok s T k s.size hT1 hkn
        have hTs : T ≤ s.size := by have : (k + 1) * T = k * T + T := Nat.succ_mul k T; omega
        obtain ⟨r1, r2⟩ := HLH.out hTs
        rw [← r1] at z2
        rw [← r2] at z3
        have hwin := win_cnt (upB s) T k
        have hget : LL.getD k 0 = ((lastC (upB s) T ((k + 1) * T) : Nat) : Int) := by
          rw [← HLL.out, List.getD_eq_getElem?_getD]; simp [hkn]
        obtain ⟨c, hc9⟩ : ∃ c, lastC (upB s) T ((k + 1) * T) = c := ⟨_, rfl⟩
        obtain ⟨A0, hA0⟩ : ∃ c, cntN (upB s) 0 (k * T) = c := ⟨_, rfl⟩
        obtain ⟨A1, hA1⟩ : ∃ c, cntN (upB s) 0 ((k + 1) * T) = c := ⟨_, rfl⟩
        obtain ⟨p0, hp0⟩ : ∃ p, k * T = p := ⟨_, rfl⟩
        obtain ⟨p1, hp1⟩ : ∃ p, (k + 1) * T = p := ⟨_, rfl⟩
        have hp1s : p1 ≤ s.size := by rw [← hp1]; exact z1
        have hcT : c ≤ T := by rw [← hc9]; exact lastC_le _ _ _
        have hpp : p1 = p0 + T := by rw [← hp0, ← hp1, Nat.succ_mul]
        have hU0 : ∀ W, Calls Try.prog 21 #[.string s, .int .i64 (p0 : Int)] W fun e w' => e = .returned (.int .i64 (A0 : Int)) ∧ W = w' := fun W => by
          have h := upsB_any s p0 W HW.out (by omega)
          rw [← hp0, hA0] at h
          rw [← hp0]; exact h
        have hU1 : ∀ W, Calls Try.prog 21 #[.string s, .int .i64 (p1 : Int)] W fun e w' => e = .returned (.int .i64 (A1 : Int)) ∧ W = w' := fun W => by
          have h := upsB_any s p1 W HW.out (by omega)
          rw [← hp1, hA1] at h
          rw [← hp1]; exact h
        rw [hc9, hA0, hA1] at hwin
        rw [hc9] at hget z2 z3
        have HU0 := Lib.hid hU0
        have HU1 := Lib.hid hU1
        have v1 : IntKind.i64.wrap ((k : Int) + 1) = (k : Int) + 1 := IntWalk.i64_in _ (by omega)
        have v2 : IntKind.i64.wrap (((k : Int) + 1) * (T : Int)) = (p1 : Int) := by
          rw [show ((k : Int) + 1) * (T : Int) = (p1 : Int) by rw [← hp1]; push_cast; rfl]; exact IntWalk.i64_in _ (by omega)
        have v3 : IntKind.i64.wrap ((k : Int) * (T : Int)) = (p0 : Int) := by
          rw [show (k : Int) * (T : Int) = (p0 : Int) by rw [← hp0]; push_cast; rfl]; exact IntWalk.i64_in _ (by omega)
        have v4 : IntKind.i64.wrap ((A1 : Int) - (A0 : Int)) = (c : Int) := by
          rw [show (A1 : Int) - (A0 : Int) = (c : Int) by omega]; exact IntWalk.i64_in _ (by omega)
        have u1 : decide ((c : Int) < lo) = false := decide_eq_false (by omega)
        have u2 : decide (hi < (c : Int)) = false := decide_eq_false (by omega)
        have u3 : ((c : Int) != (c : Int)) = false := by simp
        obtain ⟨g, rfl, hBg, hgs, hcell⟩ := HI3.out.atC k hlt
        rw [hget] at hcell
        have hc2 : wr.cell? ⟨g, k, none⟩ = some (.int .i64 (c : Int)) := (HBR.out.cell (p := ⟨g, k, none⟩) hgs).trans hcell
        clear hget hc9 hA0 hA1 hp0 hp1 hU0 hU1 hwin hcell z1 z2 z3 r1 r2 hpp
        go_wp2_with fail
        go_quiet ((go_at_call 21; first | (with_reducible exact quiet_eq (HU1.out _)) | (with_reducible exact quiet_eq (HU0.out _))))
        go_wp2
        go_roundw
        case rel => exact ⟨k + 1, by omega, by go_num, Lib.hid (below_dC _ HBR.out)⟩
        case measure => simp [intOf]; omega
      · obtain rfl : k = LL.length := by omega
        obtain ⟨w5, hw5e⟩ : ∃ w5, wr = w5 := ⟨_, rfl⟩
        rw [hw5e] at HBR ⊢
        clear hw5e
        have HB5 := Lib.hid (HB3.out.trans (HBR.out.mono HB3.out.size))
        go_wp2_with fail
        refine (HV1.out _ HB5.out).mono ?_; rintro e w' ⟨rfl, rfl⟩
        go_wp2_with fail
        refine (HV2.out _ HB5.out).mono ?_; rintro e w' ⟨rfl, rfl⟩
        obtain ⟨N, hN⟩ : ∃ N, x / Nat.gcd x d = N := ⟨_, rfl⟩
        obtain ⟨D, hD⟩ : ∃ N, d / Nat.gcd x d = N := ⟨_, rfl⟩
        obtain ⟨P, hP⟩ : ∃ N, y / Nat.gcd y d = N := ⟨_, rfl⟩
        obtain ⟨Q, hQ⟩ : ∃ N, d / Nat.gcd y d = N := ⟨_, rfl⟩
        obtain ⟨m1, m2⟩ := mk_natq x d (by omega)
        obtain ⟨m3, m4⟩ := mk_natq y d (by omega)
        have hf1 := frac_red x d (by omega) (by omega) (by omega)
        have hf2 := frac_red y d (by omega) (by omega) (by omega)
        obtain ⟨f1, f2, f3, f4, -, f5, f6, f7⟩ := red_parts x d N D (by omega) hN hD
        obtain ⟨g1, g2, g3, -, g5, -, -, -⟩ := red_parts y d P Q (by omega) hP hQ
        have f4 := f4 hx1
        have f5 := f5 hx6
        have g5 := g5 hyd
        rw [hN, hD] at hf1
        rw [hP, hQ] at hf2
        rw [hN] at m1
        rw [hD] at m2
        rw [hP] at m3
        rw [hQ] at m4
        have HM1 := Lib.hid (fun w => implMake_t (x : Int) (d : Int) w (by omega) (by omega) (by omega) (by omega) (by omega))
        have HM2 := Lib.hid (fun w => implMake_t (y : Int) (d : Int) w (by omega) (by omega) (by omega) (by omega) (by omega))
        rw [m1, m2] at HM1
        rw [m3, m4] at HM2
        have s1 : smallB (N : Int) (D : Int) = true := by unfold smallB; rw [hf1]; simp; omega
        have s2 : smallB (P : Int) (Q : Int) = true := by unfold smallB; rw [hf2]; simp; omega
        obtain ⟨S, hS⟩ : ∃ S, N * Q = S := ⟨_, rfl⟩
        obtain ⟨F, hF⟩ : ∃ S, P * D = S := ⟨_, rfl⟩
        obtain ⟨O, hO⟩ : ∃ S, D * Q = S := ⟨_, rfl⟩
        have hOS : O ≤ S := by rw [← hO, ← hS]; exact Nat.mul_le_mul_right Q f4
        have hFO : F < O := by rw [← hF, ← hO, Nat.mul_comm D Q]; exact Nat.mul_lt_mul_of_pos_right g5 f1
        have hO1 : 1 ≤ O := by omega
        have hS2 : S ≤ 1000 := by rw [← hS]; exact Nat.le_trans (Nat.mul_le_mul (show N ≤ 54 by omega) (show Q ≤ 9 by omega)) (by decide)
        have HSM := Lib.hid (fun w => implSmp_t N D P Q 60 F S O w s1 s2 (by omega) (by omega) (by omega) (by omega) (by omega) (by omega) hS hF hO (by omega) (by omega) hOS hO1 (by omega) (by omega))
        have hll := accL_len O S 60 (S - 1 - F)
        obtain ⟨L6, hL6⟩ : ∃ L, accL O S (S - 1 - F) 60 = L := ⟨_, rfl⟩
        have hdr : L6.drop 0 = accL O S (S - 1 - F) (60 - 0) := by rw [← hL6]; rfl
        rw [hL6] at HSM hll
        obtain ⟨G, hG⟩ : ∃ G : ByteArray, (⟨L6.toArray⟩ : ByteArray) = G := ⟨_, rfl⟩
        rw [hG] at HSM
        have hGs : G.size = 60 := by rw [← hG, ← size_toList]; simpa using hll
        have HG := Lib.hid hG
        have HDR := Lib.hid hdr
        have HF1 := Lib.hid hf1
        have HS := Lib.hid hS
        have HO := Lib.hid hO
        have HF6 := Lib.hid f6
        have HF7 := Lib.hid f7
        have hGe : ((G.size : Int) != 60) = false := by rw [hGs]; rfl
        have hG60 : 60 ≤ G.size := by omega
        have hGe2 : (G.size != 60) = false := by rw [hGs]; rfl
        have HGS := Lib.hid hGs
        clear hN hD hP hQ m1 m2 m3 m4 hf1 hf2 s1 s2 hS hF hO hll hL6 hdr hG f6 f7 hGs
        go_wp2_with fail
        refine (HM1.out _).mono ?_; rintro e w6 ⟨rfl, b6⟩
        have HB6 := Lib.hid (HB5.out.trans (b6.mono HB5.out.size))
        clear b6
        obtain ⟨B6, hB6⟩ : ∃ B, w6.heap.size = B := ⟨_, rfl⟩
        obtain ⟨W6, hW6⟩ : ∃ W, w6.alloc (.cells #[.int .i64 (N : Int), .int .i64 (D : Int)] 37) = W := ⟨_, rfl⟩
        have HBW6 : Hid (Below w.heap.size w W6) := by rw [← hW6]; exact HB6.out.alloc HB6.out.size _
        have q6 : W6.heap[B6]? = some (.cells #[.int .i64 (N : Int), .int .i64 (D : Int)] 37 (0, 0)) := by rw [← hW6, ← hB6]; exact World.alloc_heap_new w6 _
        have z6 : W6.heap.size = B6 + 1 := by rw [← hW6, ← hB6]; simp
        have HQ6 := Lib.hid q6
        have HZ6 := Lib.hid z6
        clear q6 z6
        go_wp2_with fail
        clear hW6 hB6
        refine (HV3.out _ HBW6.out).mono ?_; rintro e w' ⟨rfl, rfl⟩
        go_wp2_with fail
        refine (HM2.out _).mono ?_; rintro e w7 ⟨rfl, b7⟩
        have HB7 := Lib.hid b7
        clear b7
        obtain ⟨B7, hB7⟩ : ∃ B, w7.heap.size = B := ⟨_, rfl⟩
        obtain ⟨W7, hW7⟩ : ∃ W, w7.alloc (.cells #[.int .i64 (P : Int), .int .i64 (Q : Int)] 37) = W := ⟨_, rfl⟩
        have HK7 : Hid (Below (B6 + 1) W6 W7) := by rw [← hW7, ← HZ6.out]; exact HB7.out.alloc HB7.out.size _
        have q7 : W7.heap[B7]? = some (.cells #[.int .i64 (P : Int), .int .i64 (Q : Int)] 37 (0, 0)) := by rw [← hW7, ← hB7]; exact World.alloc_heap_new w7 _
        have z7 : W7.heap.size = B7 + 1 := by rw [← hW7, ← hB7]; simp
        have c67 : B6 < B7 := by have := HB7.out.size; have := HZ6.out; omega
        have p0 : W7.cell? ⟨B6, 0, none⟩ = some (.int .i64 (N : Int)) := by rw [Lib.cell_of_heap ((HK7.out.block B6 (by omega)).trans HQ6.out)]; rfl
        have p1 : W7.cell? ⟨B6, 1, none⟩ = some (.int .i64 (D : Int)) := by rw [Lib.cell_of_heap ((HK7.out.block B6 (by omega)).trans HQ6.out)]; rfl
        have p2 : W7.cell? ⟨B7, 0, none⟩ = some (.int .i64 (P : Int)) := by rw [Lib.cell_of_heap q7]; rfl
        have p3 : W7.cell? ⟨B7, 1, none⟩ = some (.int .i64 (Q : Int)) := by rw [Lib.cell_of_heap q7]; rfl
        have HZ7 := Lib.hid z7
        have HE7 := Lib.hid hB7
        have HW7 := Lib.hid hW7
        clear q7 z7
        go_wp2_with fail
        clear hB7 hW7 p0 p1 p2 p3
        refine (HSM.out _).mono ?_; rintro e w8 ⟨rfl, b8⟩
        have HK8 : Hid (Below (B6 + 1) W6 w8) := HK7.out.trans (b8.mono (by have := HZ7.out; omega))
        have HB8 : Hid (Below w.heap.size w w8) := HBW6.out.trans (HK8.out.mono (by have := HBW6.out.size; have := HZ6.out; omega))
        clear b8
        go_wp2
        go_loopw [21, 22, 23, 24] (fun cv fv lv iv wr => ∃ (tt cnt ph last : Nat) (ff ll : Int), tt ≤ 60 ∧ iv = .int .i64 (tt : Int) ∧ cv = .int .i64 (cnt : Int) ∧ fv = .int .i64 ff ∧ lv = .int .i64 ll ∧ Hid (SigI O S F tt cnt ph last) ∧ Hid (L6.drop tt = accL O S ph (60 - tt)) ∧ ((tt = 0 ∧ ff = -1 ∧ ll = -1) ∨ (0 < tt ∧ ff = 0 ∧ ll = (last : Int))) ∧ w8 = wr) (fun _ _ _ iv _ => 60 - (intOf iv).toNat)
        case atStart => exact ⟨0, 0, S - 1 - F, 0, -1, -1, Nat.zero_le _, rfl, rfl, rfl, rfl, Lib.hid (SigI.start O S F (by omega)), HDR, .inl ⟨rfl, rfl, rfl⟩, rfl⟩
        case round =>
          obtain ⟨tt, cnt, ph, last, ff, ll, ht, rfl, rfl, rfl, rfl, HSI, HDP, hor, rfl⟩ := hrel
          have hct : cnt ≤ tt := HSI.out.2.2.1
          by_cases hlt : tt < 60
          · obtain ⟨hl1, hpul, hnot⟩ := acc_atq O S ph 60 tt L6 hlt HDP.out
            obtain ⟨hl2, hat⟩ := str_atq L6 G HG.out tt hl1
            have hltI : (tt : Int) < 60 := by omega
            by_cases hh : S ≤ ph + O
            · obtain ⟨hv, hd2⟩ := hpul hh
              rw [hv] at hat
              have e49 : (G[tt].toNat : Int) = 49 := by rw [hat]; decide
              have HD2 := Lib.hid hd2
              have HH := Lib.hid (HSI.out.hit hOS hh)
              clear hpul hnot hat hv hd2 hl1
              rcases hor with ⟨h1, h2, h3⟩ | ⟨h1, h2, h3⟩
              · have hff : ff < 0 := by omega
                have HT0 := Lib.hid h1
                clear h1 h2 h3
                go_wp2
                go_roundw
                case rel => exact ⟨tt + 1, cnt + 1, ph + O - S, tt, (tt : Int), (tt : Int), by omega, by go_num, by go_num, rfl, rfl, HH, HD2, .inr ⟨by omega, by have := HT0.out; omega, rfl⟩, by first | trivial | rfl⟩
                case measure => simp [intOf]; omega
              · have hff : ¬ ff < 0 := by omega
                have HF0 := Lib.hid h2
                clear h2 h3
                go_wp2
                go_roundw
                case rel => exact ⟨tt + 1, cnt + 1, ph + O - S, tt, ff, (tt : Int), by omega, by go_num, by go_num, rfl, rfl, HH, HD2, .inr ⟨by omega, HF0.out, rfl⟩, by first | trivial | rfl⟩
                case measure => simp [intOf]; omega
            · obtain ⟨hv, hd2⟩ := hnot hh
              rw [hv] at hat
              have e48 : (G[tt].toNat : Int) = 48 := by rw [hat]; decide
              have HD2 := Lib.hid hd2
              have HH := Lib.hid (HSI.out.miss hFO hh)
              have hc0 := HH.out.pos (by omega)
              have hor2 : 0 < tt ∧ ff = 0 ∧ ll = (last : Int) := by
                rcases hor with ⟨h1, h2, h3⟩ | h
                · omega
                · exact h
              have HOR := Lib.hid hor2
              clear hpul hnot hat hv hd2 hl1 hor hor2
              go_wp2
              go_roundw
              case rel => exact ⟨tt + 1, cnt, ph + O, last, ff, ll, by omega, by go_num, by go_num, rfl, rfl, HH, HD2, .inr ⟨by omega, HOR.out.2.1, HOR.out.2.2⟩, by first | trivial | rfl⟩
              case measure => simp [intOf]; omega
          · have h60 : tt = 60 := by omega
            have hsi := HSI.out
            rw [h60] at hsi
            obtain ⟨t1, t2, t3, t4, r1, r2, r3, r4⟩ := sig_end N D P Q O S F cnt ph last HO.out.symm HS.out.symm hFO f4 f5 (by omega) f1 hsi
            obtain ⟨-, rfl, rfl⟩ : 0 < tt ∧ ff = 0 ∧ ll = (last : Int) := by
              rcases hor with ⟨h1, h2, h3⟩ | h
              · omega
              · exact h
            have hnI : ¬ (tt : Int) < 60 := by omega
            have LA := red_lt 60 (cnt + 1) N D (by omega) f1 r1
            have LB := red_lt N D 60 (cnt - 1) f1 (by omega) r2
            have LC := red_lt (last - 0 - 1) (cnt - 1) N D (by omega) f1 r3
            have LE := red_lt N D (last - 0 + 1) (cnt - 1) f1 (by omega) r4
            rw [HF6.out, HF7.out] at LA LB LC LE
            have FA := frac_red 60 (cnt + 1) (by omega) (by omega) (by omega)
            have FB := frac_red 60 (cnt - 1) (by omega) (by omega) (by omega)
            have FC := frac_red (last - 0 - 1) (cnt - 1) (by omega) (by omega) (by omega)
            have FE := frac_red (last - 0 + 1) (cnt - 1) (by omega) (by omega) (by omega)
            obtain ⟨a1, a2⟩ := mk_natq 60 (cnt + 1) (by omega)
            obtain ⟨b1, b2⟩ := mk_natq 60 (cnt - 1) (by omega)
            obtain ⟨c1, c2⟩ := mk_natq (last - 0 - 1) (cnt - 1) (by omega)
            obtain ⟨e1, e2⟩ := mk_natq (last - 0 + 1) (cnt - 1) (by omega)
            rw [show ((60 : Nat) : Int) = 60 from rfl, show ((cnt + 1 : Nat) : Int) = (cnt : Int) + 1 by omega] at a1 a2
            rw [show ((60 : Nat) : Int) = 60 from rfl, show ((cnt - 1 : Nat) : Int) = (cnt : Int) - 1 by omega] at b1 b2
            rw [show ((last - 0 - 1 : Nat) : Int) = (last : Int) - 0 - 1 by omega, show ((cnt - 1 : Nat) : Int) = (cnt : Int) - 1 by omega] at c1 c2
            rw [show ((last - 0 + 1 : Nat) : Int) = (last : Int) - 0 + 1 by omega, show ((cnt - 1 : Nat) : Int) = (cnt : Int) - 1 by omega] at e1 e2
            have HCB := Lib.hid (fun w => implCB_t (cnt : Int) 60 w (by omega) (by omega) (by omega) (by omega))
            have HSB := Lib.hid (fun w => implSB_t 0 (last : Int) (cnt : Int) w (by omega) (by omega) (by omega) (by omega) (by omega) (by omega))
            rw [a1, a2, b1, b2] at HCB
            rw [c1, c2, e1, e2] at HSB
            clear a1 a2 b1 b2 c1 c2 e1 e2
            generalize 60 / Nat.gcd 60 (cnt + 1) = A1 at *
            generalize (cnt + 1) / Nat.gcd 60 (cnt + 1) = A2 at *
            generalize 60 / Nat.gcd 60 (cnt - 1) = B1 at *
            generalize (cnt - 1) / Nat.gcd 60 (cnt - 1) = B2 at *
            generalize (last - 0 - 1) / Nat.gcd (last - 0 - 1) (cnt - 1) = C1 at *
            generalize (cnt - 1) / Nat.gcd (last - 0 - 1) (cnt - 1) = C2 at *
            generalize (last - 0 + 1) / Nat.gcd (last - 0 + 1) (cnt - 1) = E1 at *
            generalize (cnt - 1) / Nat.gcd (last - 0 + 1) (cnt - 1) = E2 at *
            have HLA := Lib.hid (fun w => less_t A1 A2 N D FA HF1.out LA w)
            have HLB := Lib.hid (fun w => less_t N D B1 B2 HF1.out FB LB w)
            have HLC := Lib.hid (fun w => less_t C1 C2 N D FC HF1.out LC w)
            have HLE := Lib.hid (fun w => less_t N D E1 E2 HF1.out FE LE w)
            clear LA LB LC LE FA FB FC FE r1 r2 r3 r4 hsi h60 hor
            go_wp2_with fail
            refine (HCB.out _).mono ?_; rintro e w9 ⟨rfl, b9⟩
            have HK9 : Hid (Below (B6 + 1) W6 w9) := HK8.out.trans (b9.mono (by have := HK8.out.size; have := HZ6.out; omega))
            have HB9 : Hid (Below w.heap.size w w9) := HB8.out.trans (b9.mono HB8.out.size)
            clear b9
            go_wp2_with fail
            obtain ⟨R9, hR9⟩ : ∃ B, w9.heap.size = B := ⟨_, rfl⟩
            obtain ⟨W9, hW9⟩ : ∃ W, (w9.alloc (.cells #[.int .i64 (A1 : Int), .int .i64 (A2 : Int)] 37)).alloc (.cells #[.int .i64 (B1 : Int), .int .i64 (B2 : Int)] 37) = W := ⟨_, rfl⟩
            have z9 : W9.heap.size = R9 + 2 := by rw [← hW9, ← hR9]; simp
            have qa : W9.heap[R9]? = some (.cells #[.int .i64 (A1 : Int), .int .i64 (A2 : Int)] 37 (0, 0)) := by
              rw [← hW9, ← hR9]; exact (Below.heap_alloc _ _ _ (by simp)).trans (World.alloc_heap_new w9 _)
            have qb : W9.heap[R9 + 1]? = some (.cells #[.int .i64 (B1 : Int), .int .i64 (B2 : Int)] 37 (0, 0)) := by
              have h := World.alloc_heap_new (w9.alloc (.cells #[.int .i64 (A1 : Int), .int .i64 (A2 : Int)] 37)) (.cells #[.int .i64 (B1 : Int), .int .i64 (B2 : Int)] 37)
              rw [World.size_alloc, hW9, hR9] at h
              exact h
            have l9 : B6 + 1 ≤ R9 := by have := HK9.out.size; have := HZ6.out; omega
            have b9 : Below (B6 + 1) W6 W9 := by rw [← hW9]; exact (HK9.out.alloc (by omega) _).alloc (by simp; omega) _
            have bw9 : Below w.heap.size w W9 := by rw [← hW9]; exact (HB9.out.alloc HB9.out.size _).alloc (by have := HB9.out.size; simp; omega) _
            have qp : W9.heap[B6]? = some (.cells #[.int .i64 (N : Int), .int .i64 (D : Int)] 37 (0, 0)) := (b9.block B6 (by omega)).trans HQ6.out
            rw [hW9]
            clear hW9
            refine (HSB.out _).mono ?_; rintro e w10 ⟨rfl, b10⟩
            rw [z9] at b10
            have qa2 := (b10.block R9 (by omega)).trans qa
            have qb2 := (b10.block (R9 + 1) (by omega)).trans qb
            have qp2 := (b10.block B6 (by omega)).trans qp
            have bw10 : Below w.heap.size w w10 := bw9.trans (b10.mono (by have := bw9.size; omega))
            have l10 : R9 + 2 ≤ w10.heap.size := by have := b10.size; omega
            clear qa qb qp b10 bw9 b9
            obtain ⟨R10, hR10⟩ : ∃ B, w10.heap.size = B := ⟨_, rfl⟩
            rw [hR10] at l10
            obtain ⟨W10, hW10⟩ : ∃ W, (w10.alloc (.cells #[.int .i64 (C1 : Int), .int .i64 (C2 : Int)] 37)).alloc (.cells #[.int .i64 (E1 : Int), .int .i64 (E2 : Int)] 37) = W := ⟨_, rfl⟩
            have z10 : W10.heap.size = R10 + 2 := by rw [← hW10, ← hR10]; simp
            have qc : W10.heap[R10]? = some (.cells #[.int .i64 (C1 : Int), .int .i64 (C2 : Int)] 37 (0, 0)) := by
              rw [← hW10, ← hR10]; exact (Below.heap_alloc _ _ _ (by simp)).trans (World.alloc_heap_new w10 _)
            have qe : W10.heap[R10 + 1]? = some (.cells #[.int .i64 (E1 : Int), .int .i64 (E2 : Int)] 37 (0, 0)) := by
              have h := World.alloc_heap_new (w10.alloc (.cells #[.int .i64 (C1 : Int), .int .i64 (C2 : Int)] 37)) (.cells #[.int .i64 (E1 : Int), .int .i64 (E2 : Int)] 37)
              rw [World.size_alloc, hW10, hR10] at h
              exact h
            have old : ∀ k o, k < R10 → w10.heap[k]? = some o → W10.heap[k]? = some o := fun k o hk h => by
              rw [← hW10]; exact (Below.heap_alloc _ _ _ (by simp; omega)).trans ((Below.heap_alloc _ _ _ (by omega)).trans h)
            have qa3 := old _ _ (by omega) qa2
            have qb3 := old _ _ (by omega) qb2
            have qp3 := old _ _ (by omega) qp2
            have bw10' : Below w.heap.size w W10 := by rw [← hW10]; exact (bw10.alloc bw10.size _).alloc (by have := bw10.size; simp; omega) _
            have HC : Hid (∀ W, Below (R10 + 2) W10 W → (W.cell? ⟨B6, 0, none⟩ = some (.int .i64 (N : Int)) ∧ W.cell? ⟨B6, 1, none⟩ = some (.int .i64 (D : Int))) ∧ (W.cell? ⟨R9, 0, none⟩ = some (.int .i64 (A1 : Int)) ∧ W.cell? ⟨R9, 1, none⟩ = some (.int .i64 (A2 : Int))) ∧ (W.cell? ⟨R9 + 1, 0, none⟩ = some (.int .i64 (B1 : Int)) ∧ W.cell? ⟨R9 + 1, 1, none⟩ = some (.int .i64 (B2 : Int))) ∧ (W.cell? ⟨R10, 0, none⟩ = some (.int .i64 (C1 : Int)) ∧ W.cell? ⟨R10, 1, none⟩ = some (.int .i64 (C2 : Int))) ∧ (W.cell? ⟨R10 + 1, 0, none⟩ = some (.int .i64 (E1 : Int)) ∧ W.cell? ⟨R10 + 1, 1, none⟩ = some (.int .i64 (E2 : Int)))) := fun W hW => by
              have two : ∀ k x y, k < R10 + 2 → W10.heap[k]? = some (.cells #[.int .i64 x, .int .i64 y] 37 (0, 0)) → W.cell? ⟨k, 0, none⟩ = some (.int .i64 x) ∧ W.cell? ⟨k, 1, none⟩ = some (.int .i64 y) := fun k x y hk h => by
                have h2 := (hW.block k hk).trans h
                exact ⟨by rw [Lib.cell_of_heap h2]; rfl, by rw [Lib.cell_of_heap h2]; rfl⟩
              exact ⟨two _ _ _ (by omega) qp3, two _ _ _ (by omega) qa3, two _ _ _ (by omega) qb3, two _ _ _ (by omega) qc, two _ _ _ (by omega) qe⟩
            have HBW := Lib.hid bw10'
            have HZ10 := Lib.hid z10
            obtain ⟨⟨n0, n1⟩, ⟨n2, n3⟩, -⟩ := HC.out W10 (Below.refl _ _)
            clear old qa2 qb2 qp2 qa3 qb3 qp3 qc qe bw10 bw10' z9 z10
            rw [hR9]
            go_wp2_with fail
            refine (HLA.out _).mono ?_; rintro e x1 ⟨rfl, b1'⟩
            have HX1 : Hid (Below (R10 + 2) W10 x1) := by have h := b1'; rw [HZ10.out] at h; exact h
            clear hW10 hR10 hR9 n0 n1 n2 n3 b1'
            obtain ⟨⟨n0, n1⟩, -, ⟨n2, n3⟩, -⟩ := HC.out x1 HX1.out
            go_wp2_with fail
            refine (HLB.out _).mono ?_; rintro e x2 ⟨rfl, b2'⟩
            have HX2 : Hid (Below (R10 + 2) W10 x2) := HX1.out.trans (b2'.mono (by have := HX1.out.size; have := HZ10.out; omega))
            clear n0 n1 n2 n3 b2'
            obtain ⟨⟨n0, n1⟩, -, -, ⟨n2, n3⟩, -⟩ := HC.out x2 HX2.out
            go_wp2_with fail
            refine (HLC.out _).mono ?_; rintro e x3 ⟨rfl, b3'⟩
            have HX3 : Hid (Below (R10 + 2) W10 x3) := HX2.out.trans (b3'.mono (by have := HX2.out.size; have := HZ10.out; omega))
            clear n0 n1 n2 n3 b3'
            obtain ⟨⟨n0, n1⟩, -, -, -, ⟨n2, n3⟩⟩ := HC.out x3 HX3.out
            go_wp2_with fail
            refine (HLE.out _).mono ?_; rintro e x4 ⟨rfl, b4'⟩
            have HX4 : Hid (Below (R10 + 2) W10 x4) := HX3.out.trans (b4'.mono (by have := HX3.out.size; have := HZ10.out; omega))
            have HFIN : Hid (Below w.heap.size w x4) := HBW.out.trans (HX4.out.mono (by have := HBW.out.size; have := HZ10.out; omega))
            clear n0 n1 n2 n3 b4'
            go_wp2
            go_ret
            exact ⟨rfl, HFIN.out⟩
  · have HLO := Lib.hid (fun w => b10Long_any a a2 n cap n2 cap2 w)
    have hb : (decide (1048576 < n) || decide (1048576 < n2)) = true := by simp; omega
    rw [hb] at HLO
    clear hb hr hr2 hn hn2
    go_enter Try.func5, Try.ntmps5
    go_wp2_with fail
    refine (HLO.out _).mono ?_; rintro e w' ⟨rfl, rfl⟩
    go_wp2
    go_ret
    exact ⟨rfl, Below.refl _ _⟩
end Go.Proofs.Ytkipgeecibimoaa
