/- Dividing two words by one: math/bits.Div64, half a word at a time. -/
import Derived.Test.YtomdoamfdidghaaWide
import Derived.Test.YtomdoamfdidghaaShelf
import Derived.Test.YtomdoamfdidghaaDivMath
import Derived.LoopTactic
import Derived.BigQuiet
import Derived.Deep.QuietTactic
import Derived.Laws.ShiftsVarLaws
namespace Go.Proofs.Ytomdoamfdidghaa
open Go.RowKit

theorem div64_zero (lo y : Nat) (w : World) (hy : 0 < y) (hlo : lo < 18446744073709551616) :
    Calls Try.prog 60 #[.int .u64 0, .int .u64 lo, .int .u64 y] w fun e w' => e = .returned (.tuple #[.int .u64 ((lo / y : Nat) : Int), .int .u64 ((lo % y : Nat) : Int)]) ∧ ∃ q, w' = w.drewN q := by
  have h1 : ((y : Int) == 0) = false := by simp; omega
  have h2 : decide ((y : Int) ≤ 0) = false := by simp; omega
  have h3 : (0 : Int) < y := by omega
  have h4 : IntKind.u64.wrap ((lo : Int) / (y : Int)) = ((lo / y : Nat) : Int) := by
    rw [← Int.natCast_ediv]; exact wrap_nat _ (Nat.lt_of_le_of_lt (Nat.div_le_self _ _) hlo)
  go_enter Try.func60, Try.ntmps60
  go_wp2
  go_quiet (fail)
  go_wp2
  go_ret2
  exact ⟨by simp, _, rfl⟩

set_option maxHeartbeats 4000000 in
set_option maxRecDepth 100000 in
theorem div64_raw (hi lo y s Y y1 y0 H L1 U V v1 v0 q r0 m0 m1 m2 m3 R1 p p0 r1 Q1 Q0 n1 n2 n3 R0 a1 QQ : Nat) (w : World) (hh : 0 < hi) (hy : hi < y)
    (LZ : Hid (∀ w, Calls Try.prog 61 #[.int .u64 (y : Int)] w fun e w' => e = .returned (.int .i64 (s : Int)) ∧ w = w')) (hs2 : s ≤ 63)
    (hy1 : 2147483648 ≤ y1) (hy1' : y1 < 4294967296) (hy0 : y0 < 4294967296) (hv_v1 : v1 < 4294967296) (hv_v0 : v0 < 4294967296)
    (e1 : IntKind.u64.wrap ((y : Int) * 2 ^ s) = (Y : Int)) (e2 : (Y : Int) / 4294967296 = (y1 : Int)) (e3 : bits .and .u64 (Y : Int) 4294967295 = (y0 : Int))
    (e4 : IntKind.u64.wrap ((hi : Int) * 2 ^ s) = (H : Int)) (e5 : (lo : Int) / 2 ^ (64 - s) = (L1 : Int)) (e6 : bits .or .u64 (H : Int) (L1 : Int) = (U : Int))
    (e7 : IntKind.u64.wrap ((lo : Int) * 2 ^ s) = (V : Int)) (e8 : (V : Int) / 4294967296 = (v1 : Int)) (e9 : bits .and .u64 (V : Int) 4294967295 = (v0 : Int))
    (f1 : IntKind.u64.wrap ((U : Int) / (y1 : Int)) = (q : Int)) (f2 : IntKind.u64.wrap ((q : Int) * (y1 : Int)) = (m0 : Int)) (f3 : IntKind.u64.wrap ((U : Int) - (m0 : Int)) = (r0 : Int))
    (g1 : IntKind.u64.wrap ((U : Int) * 4294967296) = (m1 : Int)) (g2 : IntKind.u64.wrap ((m1 : Int) + (v1 : Int)) = (m2 : Int)) (g3 : IntKind.u64.wrap ((Q1 : Int) * (Y : Int)) = (m3 : Int)) (g4 : IntKind.u64.wrap ((m2 : Int) - (m3 : Int)) = (R1 : Int))
    (h1 : IntKind.u64.wrap ((R1 : Int) / (y1 : Int)) = (p : Int)) (h2 : IntKind.u64.wrap ((p : Int) * (y1 : Int)) = (p0 : Int)) (h3 : IntKind.u64.wrap ((R1 : Int) - (p0 : Int)) = (r1 : Int))
    (k1 : IntKind.u64.wrap ((R1 : Int) * 4294967296) = (n1 : Int)) (k2 : IntKind.u64.wrap ((n1 : Int) + (v0 : Int)) = (n2 : Int)) (k3 : IntKind.u64.wrap ((Q0 : Int) * (Y : Int)) = (n3 : Int)) (k4 : IntKind.u64.wrap ((n2 : Int) - (n3 : Int)) / 2 ^ s = (R0 : Int))
    (k5 : IntKind.u64.wrap ((Q1 : Int) * 4294967296) = (a1 : Int)) (k6 : IntKind.u64.wrap ((a1 : Int) + (Q0 : Int)) = (QQ : Int))
    (HUv1 : Hid (U < y1 * 4294967296 + y0)) (HUv0 : Hid (R1 < y1 * 4294967296 + y0)) (HRv1 : Hid (r0 < 4294967296)) (HRv0 : Hid (r1 < 4294967296))
    (HIv1 : Hid (HalfInv y1 y0 U v1 q r0)) (HIv0 : Hid (HalfInv y1 y0 R1 v0 p r1))
    (HQv1 : Hid ((U * 4294967296 + v1) / (y1 * 4294967296 + y0) = Q1)) (HQv0 : Hid ((R1 * 4294967296 + v0) / (y1 * 4294967296 + y0) = Q0)) :
    Calls Try.prog 60 #[.int .u64 hi, .int .u64 lo, .int .u64 y] w fun e w' => e = .returned (.tuple #[.int .u64 (QQ : Int), .int .u64 (R0 : Int)]) ∧ w = w' := by
  have z1 : ((y : Int) == 0) = false := by simp; omega
  have z2 : decide ((y : Int) ≤ hi) = false := by simp; omega
  have z3 : ((hi : Int) == 0) = false := by simp; omega
  have z4 : ((y1 : Int) == 0) = false := by simp; omega
  have z5 : (0 : Int) < (y1 : Int) := by omega
  go_enter Try.func60, Try.ntmps60
  go_wp2_with fail
  refine (LZ.out _).mono ?_
  rintro e w' ⟨rfl, rfl⟩
  go_wp2
  go_loop [15, 16] (fun a b => ∃ q r : Nat, a = .int .u64 (q : Int) ∧ b = .int .u64 (r : Int) ∧ r < 4294967296 ∧ HalfInv y1 y0 U v1 q r) (fun a _ => (intOf a).toNat)
  case atStart => exact ⟨_, _, rfl, rfl, HRv1.out, HIv1.out⟩
  case round =>
    obtain ⟨q, r, rfl, rfl, hr, hinv⟩ := hrel
    have hq3 := half_small y1 y0 U v1 q r hy1 hy0 HUv1.out hinv
    have HINV := Lib.hid hinv
    clear hinv
    have hr' : (r : Int) < 4294967296 := by omega
    have hq' : (q : Int) < 4294967299 := by omega
    by_cases hq : 4294967296 ≤ q
    · have t1 : decide ((4294967296 : Int) ≤ (q : Int)) = true := by simp; omega
      obtain ⟨h1, hd⟩ := half_down y1 y0 U v1 q r HUv1.out hv_v1 HINV.out (.inl hq)
      have HD := Lib.hid hd
      clear hd
      have w4 : IntKind.u64.wrap ((q : Int) - 1) = ((q - 1 : Nat) : Int) := by rw [IntWalk.u64_in _ (by omega)]; omega
      have w5 : IntKind.u64.wrap ((r : Int) + (y1 : Int)) = ((r + y1 : Nat) : Int) := wa _ _ (by omega)
      by_cases hb : 4294967296 ≤ r + y1
      · have t4 : decide ((4294967296 : Int) ≤ ((r + y1 : Nat) : Int)) = true := by simp; omega
        have t5 : decide ((4294967296 : Int) ≤ (r : Int) + (y1 : Int)) = true := by simp; omega
        obtain ⟨hend, hle⟩ := half_end y1 y0 U v1 (q - 1) (r + y1) hy0 HUv1.out HD.out (.inl hb)
        rw [hend.trans HQv1.out] at w4
        clear hle hend
        go_wp2
        clear w4 w5 t4 t5 hb HD h1 t1 hq hq3 hq' hr hr'
        try clear w1 w2 w3 t2 t3 hc HB HC HA
        go_loop [18, 16] (fun a b => ∃ q r : Nat, a = .int .u64 (q : Int) ∧ b = .int .u64 (r : Int) ∧ r < 4294967296 ∧ HalfInv y1 y0 R1 v0 q r) (fun a _ => (intOf a).toNat)
        case atStart => exact ⟨_, _, rfl, rfl, HRv0.out, HIv0.out⟩
        case round =>
          obtain ⟨q, r, rfl, rfl, hr, hinv⟩ := hrel
          have hq3 := half_small y1 y0 R1 v0 q r hy1 hy0 HUv0.out hinv
          have HINV := Lib.hid hinv
          clear hinv
          have hr' : (r : Int) < 4294967296 := by omega
          have hq' : (q : Int) < 4294967299 := by omega
          by_cases hq : 4294967296 ≤ q
          · have t1 : decide ((4294967296 : Int) ≤ (q : Int)) = true := by simp; omega
            obtain ⟨h1, hd⟩ := half_down y1 y0 R1 v0 q r HUv0.out hv_v0 HINV.out (.inl hq)
            have HD := Lib.hid hd
            clear hd
            have w4 : IntKind.u64.wrap ((q : Int) - 1) = ((q - 1 : Nat) : Int) := by rw [IntWalk.u64_in _ (by omega)]; omega
            have w5 : IntKind.u64.wrap ((r : Int) + (y1 : Int)) = ((r + y1 : Nat) : Int) := wa _ _ (by omega)
            by_cases hb : 4294967296 ≤ r + y1
            · have t4 : decide ((4294967296 : Int) ≤ ((r + y1 : Nat) : Int)) = true := by simp; omega
              have t5 : decide ((4294967296 : Int) ≤ (r : Int) + (y1 : Int)) = true := by simp; omega
              obtain ⟨hend, hle⟩ := half_end y1 y0 R1 v0 (q - 1) (r + y1) hy0 HUv0.out HD.out (.inl hb)
              rw [hend.trans HQv0.out] at w4
              clear hle hend
              go_wp2
              clear w4 w5 t4 t5 hb HD h1 t1 hq hq3 hq' hr hr'
              try clear w1 w2 w3 t2 t3 hc HB HC HA
              go_wp2
              go_ret2
              exact ⟨rfl, rfl⟩
            · have t4 : decide ((4294967296 : Int) ≤ ((r + y1 : Nat) : Int)) = false := by simp; omega
              have t5 : decide ((4294967296 : Int) ≤ (r : Int) + (y1 : Int)) = false := by simp; omega
              go_wp2
              go_round
              case rel => exact ⟨q - 1, r + y1, by go_num, by go_num, by omega, HD.out⟩
              case measure => simp [intOf]; omega
          · have t1 : decide ((4294967296 : Int) ≤ (q : Int)) = false := by simp; omega
            have w1 : IntKind.u64.wrap ((q : Int) * (y0 : Int)) = ((q * y0 : Nat) : Int) := wm q y0 (Nat.lt_of_lt_of_le (Nat.mul_lt_mul_of_lt_of_le (show q < 4294967296 by omega) (show y0 ≤ 4294967296 by omega) (by omega)) (by omega))
            have w2 : IntKind.u64.wrap (4294967296 * (r : Int)) = ((4294967296 * r : Nat) : Int) := wm 4294967296 r (by omega)
            have w3 : IntKind.u64.wrap (((4294967296 * r : Nat) : Int) + (v0 : Int)) = ((4294967296 * r + v0 : Nat) : Int) := wa _ _ (by omega)
            generalize hA : q * y0 = A at w1
            generalize hB : 4294967296 * r = B at w2 w3
            have HA := Lib.hid hA
            have HB := Lib.hid hB
            clear hA hB
            generalize hC : B + v0 = C at w3
            have HC := Lib.hid hC
            clear hC
            by_cases hc : C < A
            · have t2 : decide ((C : Int) < (A : Int)) = true := by simp; omega
              have t3 : decide (C < A) = true := by simp; omega
              obtain ⟨h1, hd⟩ := half_down y1 y0 R1 v0 q r HUv0.out hv_v0 HINV.out (.inr (by rw [HA.out, HB.out, HC.out]; exact hc))
              have HD := Lib.hid hd
              clear hd
              have w4 : IntKind.u64.wrap ((q : Int) - 1) = ((q - 1 : Nat) : Int) := by rw [IntWalk.u64_in _ (by omega)]; omega
              have w5 : IntKind.u64.wrap ((r : Int) + (y1 : Int)) = ((r + y1 : Nat) : Int) := wa _ _ (by omega)
              by_cases hb : 4294967296 ≤ r + y1
              · have t4 : decide ((4294967296 : Int) ≤ ((r + y1 : Nat) : Int)) = true := by simp; omega
                have t5 : decide ((4294967296 : Int) ≤ (r : Int) + (y1 : Int)) = true := by simp; omega
                obtain ⟨hend, hle⟩ := half_end y1 y0 R1 v0 (q - 1) (r + y1) hy0 HUv0.out HD.out (.inl hb)
                rw [hend.trans HQv0.out] at w4
                clear hle hend
                go_wp2
                clear w4 w5 t4 t5 hb HD h1 t1 hq hq3 hq' hr hr'
                try clear w1 w2 w3 t2 t3 hc HB HC HA
                go_wp2
                go_ret2
                exact ⟨rfl, rfl⟩
              · have t4 : decide ((4294967296 : Int) ≤ ((r + y1 : Nat) : Int)) = false := by simp; omega
                have t5 : decide ((4294967296 : Int) ≤ (r : Int) + (y1 : Int)) = false := by simp; omega
                go_wp2
                go_round
                case rel => exact ⟨q - 1, r + y1, by go_num, by go_num, by omega, HD.out⟩
                case measure => simp [intOf]; omega
            · have t2 : decide ((C : Int) < (A : Int)) = false := by simp; omega
              have t3 : decide (C < A) = false := by simp; omega
              obtain ⟨hend, hle⟩ := half_end y1 y0 R1 v0 q r hy0 HUv0.out HINV.out (.inr (by rw [HA.out, HB.out, HC.out]; omega))
              have hq1 : q = Q0 := hend.trans HQv0.out
              clear hle hend HINV HA
              rw [hq1] at t1 w1 ⊢
              clear hq1 hq hq3 hq'
              go_wp2
              clear w1 w2 w3 t1 t2 t3 hc HB HC hr hr'
              go_wp2
              go_ret2
              exact ⟨rfl, rfl⟩
      · have t4 : decide ((4294967296 : Int) ≤ ((r + y1 : Nat) : Int)) = false := by simp; omega
        have t5 : decide ((4294967296 : Int) ≤ (r : Int) + (y1 : Int)) = false := by simp; omega
        go_wp2
        go_round
        case rel => exact ⟨q - 1, r + y1, by go_num, by go_num, by omega, HD.out⟩
        case measure => simp [intOf]; omega
    · have t1 : decide ((4294967296 : Int) ≤ (q : Int)) = false := by simp; omega
      have w1 : IntKind.u64.wrap ((q : Int) * (y0 : Int)) = ((q * y0 : Nat) : Int) := wm q y0 (Nat.lt_of_lt_of_le (Nat.mul_lt_mul_of_lt_of_le (show q < 4294967296 by omega) (show y0 ≤ 4294967296 by omega) (by omega)) (by omega))
      have w2 : IntKind.u64.wrap (4294967296 * (r : Int)) = ((4294967296 * r : Nat) : Int) := wm 4294967296 r (by omega)
      have w3 : IntKind.u64.wrap (((4294967296 * r : Nat) : Int) + (v1 : Int)) = ((4294967296 * r + v1 : Nat) : Int) := wa _ _ (by omega)
      generalize hA : q * y0 = A at w1
      generalize hB : 4294967296 * r = B at w2 w3
      have HA := Lib.hid hA
      have HB := Lib.hid hB
      clear hA hB
      generalize hC : B + v1 = C at w3
      have HC := Lib.hid hC
      clear hC
      by_cases hc : C < A
      · have t2 : decide ((C : Int) < (A : Int)) = true := by simp; omega
        have t3 : decide (C < A) = true := by simp; omega
        obtain ⟨h1, hd⟩ := half_down y1 y0 U v1 q r HUv1.out hv_v1 HINV.out (.inr (by rw [HA.out, HB.out, HC.out]; exact hc))
        have HD := Lib.hid hd
        clear hd
        have w4 : IntKind.u64.wrap ((q : Int) - 1) = ((q - 1 : Nat) : Int) := by rw [IntWalk.u64_in _ (by omega)]; omega
        have w5 : IntKind.u64.wrap ((r : Int) + (y1 : Int)) = ((r + y1 : Nat) : Int) := wa _ _ (by omega)
        by_cases hb : 4294967296 ≤ r + y1
        · have t4 : decide ((4294967296 : Int) ≤ ((r + y1 : Nat) : Int)) = true := by simp; omega
          have t5 : decide ((4294967296 : Int) ≤ (r : Int) + (y1 : Int)) = true := by simp; omega
          obtain ⟨hend, hle⟩ := half_end y1 y0 U v1 (q - 1) (r + y1) hy0 HUv1.out HD.out (.inl hb)
          rw [hend.trans HQv1.out] at w4
          clear hle hend
          go_wp2
          clear w4 w5 t4 t5 hb HD h1 t1 hq hq3 hq' hr hr'
          try clear w1 w2 w3 t2 t3 hc HB HC HA
          go_loop [18, 16] (fun a b => ∃ q r : Nat, a = .int .u64 (q : Int) ∧ b = .int .u64 (r : Int) ∧ r < 4294967296 ∧ HalfInv y1 y0 R1 v0 q r) (fun a _ => (intOf a).toNat)
          case atStart => exact ⟨_, _, rfl, rfl, HRv0.out, HIv0.out⟩
          case round =>
            obtain ⟨q, r, rfl, rfl, hr, hinv⟩ := hrel
            have hq3 := half_small y1 y0 R1 v0 q r hy1 hy0 HUv0.out hinv
            have HINV := Lib.hid hinv
            clear hinv
            have hr' : (r : Int) < 4294967296 := by omega
            have hq' : (q : Int) < 4294967299 := by omega
            by_cases hq : 4294967296 ≤ q
            · have t1 : decide ((4294967296 : Int) ≤ (q : Int)) = true := by simp; omega
              obtain ⟨h1, hd⟩ := half_down y1 y0 R1 v0 q r HUv0.out hv_v0 HINV.out (.inl hq)
              have HD := Lib.hid hd
              clear hd
              have w4 : IntKind.u64.wrap ((q : Int) - 1) = ((q - 1 : Nat) : Int) := by rw [IntWalk.u64_in _ (by omega)]; omega
              have w5 : IntKind.u64.wrap ((r : Int) + (y1 : Int)) = ((r + y1 : Nat) : Int) := wa _ _ (by omega)
              by_cases hb : 4294967296 ≤ r + y1
              · have t4 : decide ((4294967296 : Int) ≤ ((r + y1 : Nat) : Int)) = true := by simp; omega
                have t5 : decide ((4294967296 : Int) ≤ (r : Int) + (y1 : Int)) = true := by simp; omega
                obtain ⟨hend, hle⟩ := half_end y1 y0 R1 v0 (q - 1) (r + y1) hy0 HUv0.out HD.out (.inl hb)
                rw [hend.trans HQv0.out] at w4
                clear hle hend
                go_wp2
                clear w4 w5 t4 t5 hb HD h1 t1 hq hq3 hq' hr hr'
                try clear w1 w2 w3 t2 t3 hc HB HC HA
                go_wp2
                go_ret2
                exact ⟨rfl, rfl⟩
              · have t4 : decide ((4294967296 : Int) ≤ ((r + y1 : Nat) : Int)) = false := by simp; omega
                have t5 : decide ((4294967296 : Int) ≤ (r : Int) + (y1 : Int)) = false := by simp; omega
                go_wp2
                go_round
                case rel => exact ⟨q - 1, r + y1, by go_num, by go_num, by omega, HD.out⟩
                case measure => simp [intOf]; omega
            · have t1 : decide ((4294967296 : Int) ≤ (q : Int)) = false := by simp; omega
              have w1 : IntKind.u64.wrap ((q : Int) * (y0 : Int)) = ((q * y0 : Nat) : Int) := wm q y0 (Nat.lt_of_lt_of_le (Nat.mul_lt_mul_of_lt_of_le (show q < 4294967296 by omega) (show y0 ≤ 4294967296 by omega) (by omega)) (by omega))
              have w2 : IntKind.u64.wrap (4294967296 * (r : Int)) = ((4294967296 * r : Nat) : Int) := wm 4294967296 r (by omega)
              have w3 : IntKind.u64.wrap (((4294967296 * r : Nat) : Int) + (v0 : Int)) = ((4294967296 * r + v0 : Nat) : Int) := wa _ _ (by omega)
              generalize hA : q * y0 = A at w1
              generalize hB : 4294967296 * r = B at w2 w3
              have HA := Lib.hid hA
              have HB := Lib.hid hB
              clear hA hB
              generalize hC : B + v0 = C at w3
              have HC := Lib.hid hC
              clear hC
              by_cases hc : C < A
              · have t2 : decide ((C : Int) < (A : Int)) = true := by simp; omega
                have t3 : decide (C < A) = true := by simp; omega
                obtain ⟨h1, hd⟩ := half_down y1 y0 R1 v0 q r HUv0.out hv_v0 HINV.out (.inr (by rw [HA.out, HB.out, HC.out]; exact hc))
                have HD := Lib.hid hd
                clear hd
                have w4 : IntKind.u64.wrap ((q : Int) - 1) = ((q - 1 : Nat) : Int) := by rw [IntWalk.u64_in _ (by omega)]; omega
                have w5 : IntKind.u64.wrap ((r : Int) + (y1 : Int)) = ((r + y1 : Nat) : Int) := wa _ _ (by omega)
                by_cases hb : 4294967296 ≤ r + y1
                · have t4 : decide ((4294967296 : Int) ≤ ((r + y1 : Nat) : Int)) = true := by simp; omega
                  have t5 : decide ((4294967296 : Int) ≤ (r : Int) + (y1 : Int)) = true := by simp; omega
                  obtain ⟨hend, hle⟩ := half_end y1 y0 R1 v0 (q - 1) (r + y1) hy0 HUv0.out HD.out (.inl hb)
                  rw [hend.trans HQv0.out] at w4
                  clear hle hend
                  go_wp2
                  clear w4 w5 t4 t5 hb HD h1 t1 hq hq3 hq' hr hr'
                  try clear w1 w2 w3 t2 t3 hc HB HC HA
                  go_wp2
                  go_ret2
                  exact ⟨rfl, rfl⟩
                · have t4 : decide ((4294967296 : Int) ≤ ((r + y1 : Nat) : Int)) = false := by simp; omega
                  have t5 : decide ((4294967296 : Int) ≤ (r : Int) + (y1 : Int)) = false := by simp; omega
                  go_wp2
                  go_round
                  case rel => exact ⟨q - 1, r + y1, by go_num, by go_num, by omega, HD.out⟩
                  case measure => simp [intOf]; omega
              · have t2 : decide ((C : Int) < (A : Int)) = false := by simp; omega
                have t3 : decide (C < A) = false := by simp; omega
                obtain ⟨hend, hle⟩ := half_end y1 y0 R1 v0 q r hy0 HUv0.out HINV.out (.inr (by rw [HA.out, HB.out, HC.out]; omega))
                have hq1 : q = Q0 := hend.trans HQv0.out
                clear hle hend HINV HA
                rw [hq1] at t1 w1 ⊢
                clear hq1 hq hq3 hq'
                go_wp2
                clear w1 w2 w3 t1 t2 t3 hc HB HC hr hr'
                go_wp2
                go_ret2
                exact ⟨rfl, rfl⟩
        · have t4 : decide ((4294967296 : Int) ≤ ((r + y1 : Nat) : Int)) = false := by simp; omega
          have t5 : decide ((4294967296 : Int) ≤ (r : Int) + (y1 : Int)) = false := by simp; omega
          go_wp2
          go_round
          case rel => exact ⟨q - 1, r + y1, by go_num, by go_num, by omega, HD.out⟩
          case measure => simp [intOf]; omega
      · have t2 : decide ((C : Int) < (A : Int)) = false := by simp; omega
        have t3 : decide (C < A) = false := by simp; omega
        obtain ⟨hend, hle⟩ := half_end y1 y0 U v1 q r hy0 HUv1.out HINV.out (.inr (by rw [HA.out, HB.out, HC.out]; omega))
        have hq1 : q = Q1 := hend.trans HQv1.out
        clear hle hend HINV HA
        rw [hq1] at t1 w1 ⊢
        clear hq1 hq hq3 hq'
        go_wp2
        clear w1 w2 w3 t1 t2 t3 hc HB HC hr hr'
        go_loop [18, 16] (fun a b => ∃ q r : Nat, a = .int .u64 (q : Int) ∧ b = .int .u64 (r : Int) ∧ r < 4294967296 ∧ HalfInv y1 y0 R1 v0 q r) (fun a _ => (intOf a).toNat)
        case atStart => exact ⟨_, _, rfl, rfl, HRv0.out, HIv0.out⟩
        case round =>
          obtain ⟨q, r, rfl, rfl, hr, hinv⟩ := hrel
          have hq3 := half_small y1 y0 R1 v0 q r hy1 hy0 HUv0.out hinv
          have HINV := Lib.hid hinv
          clear hinv
          have hr' : (r : Int) < 4294967296 := by omega
          have hq' : (q : Int) < 4294967299 := by omega
          by_cases hq : 4294967296 ≤ q
          · have t1 : decide ((4294967296 : Int) ≤ (q : Int)) = true := by simp; omega
            obtain ⟨h1, hd⟩ := half_down y1 y0 R1 v0 q r HUv0.out hv_v0 HINV.out (.inl hq)
            have HD := Lib.hid hd
            clear hd
            have w4 : IntKind.u64.wrap ((q : Int) - 1) = ((q - 1 : Nat) : Int) := by rw [IntWalk.u64_in _ (by omega)]; omega
            have w5 : IntKind.u64.wrap ((r : Int) + (y1 : Int)) = ((r + y1 : Nat) : Int) := wa _ _ (by omega)
            by_cases hb : 4294967296 ≤ r + y1
            · have t4 : decide ((4294967296 : Int) ≤ ((r + y1 : Nat) : Int)) = true := by simp; omega
              have t5 : decide ((4294967296 : Int) ≤ (r : Int) + (y1 : Int)) = true := by simp; omega
              obtain ⟨hend, hle⟩ := half_end y1 y0 R1 v0 (q - 1) (r + y1) hy0 HUv0.out HD.out (.inl hb)
              rw [hend.trans HQv0.out] at w4
              clear hle hend
              go_wp2
              clear w4 w5 t4 t5 hb HD h1 t1 hq hq3 hq' hr hr'
              try clear w1 w2 w3 t2 t3 hc HB HC HA
              go_wp2
              go_ret2
              exact ⟨rfl, rfl⟩
            · have t4 : decide ((4294967296 : Int) ≤ ((r + y1 : Nat) : Int)) = false := by simp; omega
              have t5 : decide ((4294967296 : Int) ≤ (r : Int) + (y1 : Int)) = false := by simp; omega
              go_wp2
              go_round
              case rel => exact ⟨q - 1, r + y1, by go_num, by go_num, by omega, HD.out⟩
              case measure => simp [intOf]; omega
          · have t1 : decide ((4294967296 : Int) ≤ (q : Int)) = false := by simp; omega
            have w1 : IntKind.u64.wrap ((q : Int) * (y0 : Int)) = ((q * y0 : Nat) : Int) := wm q y0 (Nat.lt_of_lt_of_le (Nat.mul_lt_mul_of_lt_of_le (show q < 4294967296 by omega) (show y0 ≤ 4294967296 by omega) (by omega)) (by omega))
            have w2 : IntKind.u64.wrap (4294967296 * (r : Int)) = ((4294967296 * r : Nat) : Int) := wm 4294967296 r (by omega)
            have w3 : IntKind.u64.wrap (((4294967296 * r : Nat) : Int) + (v0 : Int)) = ((4294967296 * r + v0 : Nat) : Int) := wa _ _ (by omega)
            generalize hA : q * y0 = A at w1
            generalize hB : 4294967296 * r = B at w2 w3
            have HA := Lib.hid hA
            have HB := Lib.hid hB
            clear hA hB
            generalize hC : B + v0 = C at w3
            have HC := Lib.hid hC
            clear hC
            by_cases hc : C < A
            · have t2 : decide ((C : Int) < (A : Int)) = true := by simp; omega
              have t3 : decide (C < A) = true := by simp; omega
              obtain ⟨h1, hd⟩ := half_down y1 y0 R1 v0 q r HUv0.out hv_v0 HINV.out (.inr (by rw [HA.out, HB.out, HC.out]; exact hc))
              have HD := Lib.hid hd
              clear hd
              have w4 : IntKind.u64.wrap ((q : Int) - 1) = ((q - 1 : Nat) : Int) := by rw [IntWalk.u64_in _ (by omega)]; omega
              have w5 : IntKind.u64.wrap ((r : Int) + (y1 : Int)) = ((r + y1 : Nat) : Int) := wa _ _ (by omega)
              by_cases hb : 4294967296 ≤ r + y1
              · have t4 : decide ((4294967296 : Int) ≤ ((r + y1 : Nat) : Int)) = true := by simp; omega
                have t5 : decide ((4294967296 : Int) ≤ (r : Int) + (y1 : Int)) = true := by simp; omega
                obtain ⟨hend, hle⟩ := half_end y1 y0 R1 v0 (q - 1) (r + y1) hy0 HUv0.out HD.out (.inl hb)
                rw [hend.trans HQv0.out] at w4
                clear hle hend
                go_wp2
                clear w4 w5 t4 t5 hb HD h1 t1 hq hq3 hq' hr hr'
                try clear w1 w2 w3 t2 t3 hc HB HC HA
                go_wp2
                go_ret2
                exact ⟨rfl, rfl⟩
              · have t4 : decide ((4294967296 : Int) ≤ ((r + y1 : Nat) : Int)) = false := by simp; omega
                have t5 : decide ((4294967296 : Int) ≤ (r : Int) + (y1 : Int)) = false := by simp; omega
                go_wp2
                go_round
                case rel => exact ⟨q - 1, r + y1, by go_num, by go_num, by omega, HD.out⟩
                case measure => simp [intOf]; omega
            · have t2 : decide ((C : Int) < (A : Int)) = false := by simp; omega
              have t3 : decide (C < A) = false := by simp; omega
              obtain ⟨hend, hle⟩ := half_end y1 y0 R1 v0 q r hy0 HUv0.out HINV.out (.inr (by rw [HA.out, HB.out, HC.out]; omega))
              have hq1 : q = Q0 := hend.trans HQv0.out
              clear hle hend HINV HA
              rw [hq1] at t1 w1 ⊢
              clear hq1 hq hq3 hq'
              go_wp2
              clear w1 w2 w3 t1 t2 t3 hc HB HC hr hr'
              go_wp2
              go_ret2
              exact ⟨rfl, rfl⟩
end Go.Proofs.Ytomdoamfdidghaa
