/- The first meeting of clocks, on the program's side. -/
import Derived.Test.YtafecdmcbpnniaaFm2
namespace Go.Proofs.Ytafecdmcbpnniaa
open Go.RowKit
set_option linter.unusedVariables false
theorem mi_go {F : List Int} {k : Nat} {P O p o fa y P1 O1 : Int} (h : MI F k P O) (hp : F.getD (k * 2) 0 = p) (ho : F.getD (k * 2 + 1) 0 = o) (hp1 : 1 ≤ p) (ho0 : 0 ≤ o)
    (hf : fa * P + y * p = (Int.gcd P p : Int)) (hd : (o - O) % (Int.gcd P p : Int) = 0) (hP1 : P1 = min (P * (p / (Int.gcd P p : Int))) 1000000000001)
    (hO1 : O1 = O + ((o - O) / (Int.gcd P p : Int) * fa) % (p / (Int.gcd P p : Int)) * P) :
    (∀ t, 0 ≤ t → t ≤ lastM → (comE F (k + 1) t ↔ edgeP P1 (O1 + befZ P1 O1 o * P1) t)) ∧ 1 ≤ P1 ∧ P1 ≤ 1000000000001 ∧ 0 ≤ O1 + befZ P1 O1 o * P1 := by
  have hn := mi_next h hp ho hp1 ho0 hf hd
  have e : lastM + 1 = 1000000000001 := rfl
  rw [e, ← hP1, ← hO1] at hn
  obtain ⟨a1, a2, a3, a4, a5⟩ := h
  obtain ⟨u1, u2, -⟩ := rounds_pos P p a1 hp1
  have hL : 1 * 1 ≤ P * (p / (Int.gcd P p : Int)) := Int.mul_le_mul a1 u1 (by omega) (by omega)
  have i0 : 0 ≤ ((o - O) / (Int.gcd P p : Int) * fa) % (p / (Int.gcd P p : Int)) := Int.emod_nonneg _ (by omega)
  have i1 : 0 ≤ ((o - O) / (Int.gcd P p : Int) * fa) % (p / (Int.gcd P p : Int)) * P := Int.mul_nonneg i0 (by omega)
  have hb := befZ_mul P1 O1 o (by omega) (by omega) ho0
  exact ⟨hn, by omega, by omega, by omega⟩
theorem bel_set {N : Nat} {w W : World} (h : Below N w W) (b k : Nat) (v : Value) (hle : N ≤ b) : Below N w (W.setCell ⟨b, k, none⟩ v) := h.setCell hle v
theorem mi_far {F : List Int} {k n : Nat} {P1 O2 : Int} (hk : k + 1 ≤ n) (h : ∀ t, 0 ≤ t → t ≤ lastM → (comE F (k + 1) t ↔ edgeP P1 O2 t)) (hO : lastM < O2) : MeetR F n 0 false :=
  none_end hk (fun t h0 h1 hc => by have := ((h t h0 h1).1 hc).1; omega)
set_option maxHeartbeats 4000000 in
set_option maxRecDepth 100000 in
theorem implFirst (B : Nat) (a : Option Addr) (n cap : Nat) (F : List Int) (R : Int) (c : Bool) (w : World) (hr : Recs w B (.slice a n cap) n F) (hM : (allC F n = true ∧ MeetR F n R c) ∨ (allC F n = false ∧ R = 0 ∧ c = false)) (hl : n ≤ 1048576) :
    Calls Try.prog 40 #[.slice a n cap] w fun e w' => e = .returned (.tuple #[.int .i64 R, .bool c]) ∧ Below w.heap.size w w' := by
  have HA := Lib.hid (areClocks_any B a n cap F w hr hl)
  rcases hM with ⟨hal, hM⟩ | ⟨hal, rfl, rfl⟩
  · rw [hal] at HA
    obtain ⟨hn6, hal2⟩ := allC_iff hal
    have HAL := Lib.hid hal2
    have HM := Lib.hid hM
    have HR0 := Lib.hid hr
    clear hr hM hal hal2
    go_enter Try.func40, Try.ntmps40
    go_wp2_with fail
    refine HA.out.mono ?_; rintro e w1 ⟨rfl, hb1⟩
    have HR := Lib.hid (HR0.out.keep hb1 (Nat.le_refl _))
    have HB0 := Lib.hid hb1
    have P0 := Lib.hid (At2.new w1 (.int .i64 1) (.int .i64 0) 25)
    have B0 := Lib.hid (bel_alloc w1 (.cells #[.int .i64 1, .int .i64 0] 25))
    clear hb1 HA
    go_wp2
    go_loopw [14] (fun iv wr => ∃ (k : Nat) (P O : Int), k ≤ n ∧ iv = .int .i64 (k : Int) ∧ Hid (MI F k P O) ∧ Hid (At2 wr w1.heap.size (.int .i64 P) (.int .i64 O)) ∧ Hid (Below w1.heap.size w1 wr)) (fun iv _ => n - (intOf iv).toNat)
    case atStart => exact ⟨0, 1, 0, Nat.zero_le _, rfl, mi_start F, P0, B0⟩
    case round =>
      obtain ⟨k, P, O, hk, rfl, HMI, HP, HB⟩ := hrel
      obtain ⟨m1, m2, m3, m4, -⟩ := HMI.out
      have hm2 : P ≤ 1000000000001 := m2
      have hm4 : O ≤ 1000000000000 := m4
      clear m2 m4
      obtain ⟨c0, c1, c2, c3⟩ := HP.out
      have hplt := HP.out.lt
      by_cases hlt : k < n
      · obtain ⟨g, p, o, rfl, -, hgl, ⟨e0, e1⟩, x0, x1⟩ := (HR.out.keep HB.out (Nat.le_refl _)).at k hlt
        have hkk := allK_at HAL.out hlt
        unfold ckK at hkk
        rw [e0, e1] at hkk
        obtain ⟨⟨p1, p2⟩, o1, o2⟩ := clkB_iff.1 hkk
        have HE0 := Lib.hid e0
        have HE1 := Lib.hid e1
        have HB1 := Lib.hid (HB.out.trans ((bel_alloc wr (.cells #[.int .i64 p, .int .i64 o] 25)).mono HB.out.size))
        have PW := Lib.hid (HP.out.alloc (.cells #[.int .i64 p, .int .i64 o] 25))
        obtain ⟨d0, d1, -, -⟩ := PW.out
        clear e0 e1 hkk
        by_cases hd : (o - O) % (Int.gcd P p : Int) = 0
        · have HMT := Lib.hid (fun w => meetings_t P O p o w m1 hm2 m3 hm4 p1 p2 o1 o2 hd)
          have HD := Lib.hid hd
          clear hd
          go_wp2_with fail
          refine (HMT.out _).mono ?_; rintro e w2 ⟨fa, y, P1, O1, hf, hP1, hO1, rfl, hb2⟩
          obtain ⟨hn1, hn2, hn3, hn4⟩ := mi_go HMI.out HE0.out HE1.out p1 o1 hf HD.out hP1 hO1
          obtain ⟨O2, hO2⟩ : ∃ O2, O1 + befZ P1 O1 o * P1 = O2 := ⟨_, rfl⟩
          rw [hO2] at hn1 hn4 ⊢
          have HN1 := Lib.hid hn1
          have HB2 := Lib.hid (bel_call HB1.out hb2)
          have P2 := Lib.hid (PW.out.below hb2 PW.out.lt)
          have P3 := Lib.hid (P2.out.set0 (Value.int .i64 P1))
          have P4 := Lib.hid (P3.out.set1 (Value.int .i64 O2))
          have HB4 := Lib.hid (bel_set (bel_set HB2.out w1.heap.size 0 (Value.int .i64 P1) (Nat.le_refl _)) w1.heap.size 1 (Value.int .i64 O2) (Nat.le_refl _))
          obtain ⟨y0, y1, y2, y3⟩ := P2.out
          obtain ⟨z0, z1, z2, z3⟩ := P3.out
          obtain ⟨t0, t1, t2, t3⟩ := P4.out
          clear hn1 hf hP1 hO1 hO2 hb2 c0 c1 c2 c3 d0 d1
          by_cases hgt : O2 ≤ 1000000000000
          · have hgd : decide (1000000000000 < O2) = false := by simp; omega
            have hgn : ¬ 1000000000000 < O2 := by omega
            have HMI2 : Hid (MI F (k + 1) P1 O2) := ⟨hn2, hn3, hn4, hgt, HN1.out⟩
            go_wp2
            go_roundw
            case rel => exact ⟨k + 1, P1, O2, by omega, by go_num, HMI2, P4, HB4⟩
            case measure => simp [intOf]; omega
          · have hgd : decide (1000000000000 < O2) = true := by simp; omega
            have hgn : 1000000000000 < O2 := by omega
            obtain ⟨rfl, rfl⟩ := meetR_one HM.out (mi_far (by omega) HN1.out hgn)
            go_wp2
            go_ret2
            exact ⟨rfl, bel_call HB0.out HB4.out⟩
        · have HMT := Lib.hid (fun w => meetings_f P O p o w m1 hm2 m3 hm4 p1 p2 o1 o2 hd)
          obtain ⟨rfl, rfl⟩ := meetR_one HM.out (none_end (show k + 1 ≤ n by omega) (mi_none HMI.out HE0.out HE1.out p1 hd))
          clear hd
          go_wp2_with fail
          refine (HMT.out _).mono ?_; rintro e w2 ⟨rfl, hb2⟩
          have HB2 := Lib.hid (bel_call HB1.out hb2)
          have P2 := Lib.hid (PW.out.below hb2 PW.out.lt)
          have P3 := Lib.hid (P2.out.set0 (Value.int .i64 0))
          have HB4 := Lib.hid (bel_set (bel_set HB2.out w1.heap.size 0 (Value.int .i64 0) (Nat.le_refl _)) w1.heap.size 1 (Value.int .i64 0) (Nat.le_refl _))
          obtain ⟨y0, y1, y2, y3⟩ := P2.out
          obtain ⟨z0, z1, z2, z3⟩ := P3.out
          clear hb2 c0 c1 c2 c3 d0 d1
          go_wp2
          go_ret2
          exact ⟨rfl, bel_call HB0.out HB4.out⟩
      · obtain rfl : n = k := by omega
        obtain ⟨rfl, rfl⟩ := meetR_one HM.out (mi_end HMI.out)
        go_wp2
        go_ret2
        exact ⟨rfl, bel_call HB0.out HB.out⟩
  · rw [hal] at HA
    clear hal hr
    go_enter Try.func40, Try.ntmps40
    go_wp2_with fail
    refine HA.out.mono ?_; rintro e w1 ⟨rfl, hb1⟩
    go_wp2
    go_ret2
    exact ⟨rfl, hb1⟩
end Go.Proofs.Ytafecdmcbpnniaa
