/- The walk of a law: a wave by its edges. -/
import Derived.Test.YtlppnjgnofglkaaWfImpl
namespace Go.Proofs.Ytlppnjgnofglkaa
open Go.RowKit
set_option linter.unusedVariables false

def wfAll (U D : List Int) (t : Int) : ByteArray × Bool := if 0 ≤ t ∧ t ≤ 400 ∧ risesB U (t - 1) = true ∧ risesB D (t - 1) = true then wfRes U D t.toNat else (⟨#[]⟩, false)
theorem wfAll_n {U D : List Int} {t : Int} (h : ¬ (0 ≤ t ∧ t ≤ 400)) : wfAll U D t = (⟨#[]⟩, false) := if_neg (fun k => h ⟨k.1, k.2.1⟩)
theorem wfAll_u {U D : List Int} {t : Int} (h : risesB U (t - 1) = false) : wfAll U D t = (⟨#[]⟩, false) := if_neg (fun k => by rw [h] at k; cases k.2.2.1)
theorem wfAll_d {U D : List Int} {t : Int} (h : risesB D (t - 1) = false) : wfAll U D t = (⟨#[]⟩, false) := if_neg (fun k => by rw [h] at k; cases k.2.2.2)
theorem wfAll_t {U D : List Int} {n : Nat} (hn : n ≤ 400) (h : risesB U ((n : Int) - 1) = true) (h2 : risesB D ((n : Int) - 1) = true) : wfAll U D n = wfRes U D n := by
  unfold wfAll; rw [if_pos ⟨by omega, by omega, h, h2⟩]; rfl

set_option maxHeartbeats 4000000 in
set_option maxRecDepth 100000 in
theorem specWave (B C : Nat) (a b : Option Addr) (ca cb : Nat) (U D : List Int) (t : Int) (w : World) (hU : Ints w B (.slice a U.length ca) U) (hD : Ints w C (.slice b D.length cb) D) (hlU : U.length ≤ 1048576) (hlD : D.length ≤ 1048576) :
    Calls Try.prog 4 #[.slice a U.length ca, .slice b D.length cb, .int .i64 t] w fun e w' => e = .returned (.tuple #[.string (wfAll U D t).1, .bool (wfAll U D t).2]) ∧ Below w.heap.size w w' := by
  by_cases hn : 0 ≤ t ∧ t ≤ 400
  · obtain ⟨n, rfl⟩ : ∃ n : Nat, t = (n : Int) := ⟨t.toNat, by omega⟩
    have hn4 : n ≤ 400 := by omega
    cases hrU : risesB U ((n : Int) - 1) with
    | false =>
      have HE := Lib.hid (wfAll_u (U := U) (D := D) hrU)
      have HU := Lib.hid hU
      have HD := Lib.hid hD
      have wn : IntKind.i64.wrap ((n : Int) - 1) = (n : Int) - 1 := IntWalk.i64_in _ (by omega)
      have SU := Lib.hid (fun w h => (l00Rises_any B a ca U ((n : Int) - 1) w h hlU).mono (R' := fun e w' => e = .returned (.bool false) ∧ ∃ q, w' = w.drewN q) (fun e w' h => by rw [hrU] at h; exact h))
      clear hU hD hrU
      go_enter Try.func4, Try.ntmps4
      go_wp2_with fail
      refine (l00In_t _ _ _ _ (by omega) (by omega)).mono ?_; rintro e w' ⟨rfl, rfl⟩
      go_wp2_with fail
      refine (SU.out _ HU.out).mono ?_; rintro e w' ⟨rfl, q1, rfl⟩
      go_wp2
      go_ret2
      exact ⟨by rw [HE.out]; rfl, belowW (Below.refl _ _) _⟩
    | true =>
      cases hrD : risesB D ((n : Int) - 1) with
      | false =>
        have HE := Lib.hid (wfAll_d (U := U) (D := D) hrD)
        have HU := Lib.hid hU
        have HD := Lib.hid hD
        have wn : IntKind.i64.wrap ((n : Int) - 1) = (n : Int) - 1 := IntWalk.i64_in _ (by omega)
        have SU := Lib.hid (fun w h => (l00Rises_any B a ca U ((n : Int) - 1) w h hlU).mono (R' := fun e w' => e = .returned (.bool true) ∧ ∃ q, w' = w.drewN q) (fun e w' h => by rw [hrU] at h; exact h))
        have SD := Lib.hid (fun w h => (l00Rises_any C b cb D ((n : Int) - 1) w h hlD).mono (R' := fun e w' => e = .returned (.bool false) ∧ ∃ q, w' = w.drewN q) (fun e w' h => by rw [hrD] at h; exact h))
        clear hU hD hrU hrD
        go_enter Try.func4, Try.ntmps4
        go_wp2_with fail
        refine (l00In_t _ _ _ _ (by omega) (by omega)).mono ?_; rintro e w' ⟨rfl, rfl⟩
        go_wp2_with fail
        refine (SU.out _ HU.out).mono ?_; rintro e w' ⟨rfl, q1, rfl⟩
        go_wp2_with fail
        refine (SD.out _ (HD.out.drewW q1)).mono ?_; rintro e w' ⟨rfl, q2, rfl⟩
        go_wp2
        go_ret2
        exact ⟨by rw [HE.out]; rfl, belowW (Below.refl _ _) _⟩
      | true =>
        have HE := Lib.hid (wfAll_t (U := U) (D := D) hn4 hrU hrD)
        have HU := Lib.hid hU
        have HD := Lib.hid hD
        have wn : IntKind.i64.wrap ((n : Int) - 1) = (n : Int) - 1 := IntWalk.i64_in _ (by omega)
        have SU := Lib.hid (fun w h => (l00Rises_any B a ca U ((n : Int) - 1) w h hlU).mono (R' := fun e w' => e = .returned (.bool true) ∧ ∃ q, w' = w.drewN q) (fun e w' h => by rw [hrU] at h; exact h))
        have SD := Lib.hid (fun w h => (l00Rises_any C b cb D ((n : Int) - 1) w h hlD).mono (R' := fun e w' => e = .returned (.bool true) ∧ ∃ q, w' = w.drewN q) (fun e w' h => by rw [hrD] at h; exact h))
        clear hU hD hrU hrD
        go_enter Try.func4, Try.ntmps4
        go_wp2_with fail
        refine (l00In_t _ _ _ _ (by omega) (by omega)).mono ?_; rintro e w' ⟨rfl, rfl⟩
        go_wp2_with fail
        refine (SU.out _ HU.out).mono ?_; rintro e w' ⟨rfl, q1, rfl⟩
        go_wp2_with fail
        refine (SD.out _ (HD.out.drewW q1)).mono ?_; rintro e w' ⟨rfl, q2, rfl⟩
        go_wp2_with fail
        refine (specFrom B C a b ca cb U D n _ ((HU.out.drewW (q1 + q2))) ((HD.out.drewW (q1 + q2))) hn4 hlU hlD).mono ?_
        rintro e w' ⟨rfl, hb⟩
        have HB := Lib.hid ((belowW (Below.refl w.heap.size w) (q1 + q2)).trans hb)
        clear hb
        obtain ⟨S, hS⟩ : ∃ S, (wfRes U D n).1 = S := ⟨_, rfl⟩
        obtain ⟨b, hb⟩ : ∃ b, (wfRes U D n).2 = b := ⟨_, rfl⟩
        rw [hS, hb]
        have HS := Lib.hid hS
        have Hb := Lib.hid hb
        clear hS hb
        go_wp2
        go_ret2
        exact ⟨by rw [HE.out, HS.out, Hb.out]; rfl, HB.out⟩
  · have HE := Lib.hid (wfAll_n (U := U) (D := D) hn)
    have hn2 : t < 0 ∨ 400 < t := by omega
    clear hU hD
    go_enter Try.func4, Try.ntmps4
    go_wp2_with fail
    refine (l00In_f _ _ _ _ hn2).mono ?_; rintro e w' ⟨rfl, rfl⟩
    go_wp2
    go_ret2
    exact ⟨by rw [HE.out]; rfl, Below.refl _ _⟩

set_option maxHeartbeats 4000000 in
set_option maxRecDepth 100000 in
theorem implWave (B C : Nat) (ga gb : Nat) (ca cb : Nat) (U D : List Int) (t : Int) (w : World) (hU : Ints w B (.slice (some ⟨ga, 0, none⟩) U.length ca) U) (hD : Ints w C (.slice (some ⟨gb, 0, none⟩) D.length cb) D) (hlU : U.length ≤ 1048576) (hlD : D.length ≤ 1048576) :
    Calls Try.prog 6 #[.slice (some ⟨ga, 0, none⟩) U.length ca, .slice (some ⟨gb, 0, none⟩) D.length cb, .int .i64 t] w fun e w' => e = .returned (.tuple #[.string (wfAll U D t).1, .bool (wfAll U D t).2]) ∧ Below w.heap.size w w' := by
  by_cases hn : 0 ≤ t ∧ t ≤ 400
  · obtain ⟨n, rfl⟩ : ∃ n : Nat, t = (n : Int) := ⟨t.toNat, by omega⟩
    have hn4 : n ≤ 400 := by omega
    cases hrU : risesB U ((n : Int) - 1) with
    | false =>
      have HE := Lib.hid (wfAll_u (U := U) (D := D) hrU)
      have HU := Lib.hid hU
      have HD := Lib.hid hD
      have wn : IntKind.i64.wrap ((n : Int) - 1) = (n : Int) - 1 := IntWalk.i64_in _ (by omega)
      have SU := Lib.hid (fun w h => (implSet B (some ⟨ga, 0, none⟩) ca U ((n : Int) - 1) w h hlU).mono (R' := fun e w' => e = .returned (.bool false) ∧ ∃ q, w' = w.drewN q) (fun e w' h => by rw [hrU] at h; exact h))
      clear hU hD hrU
      go_enter Try.func6, Try.ntmps6
      go_wp2_with fail
      refine (within_i64_t _ _ _ _ (by omega) (by omega)).mono ?_; rintro e w' ⟨rfl, rfl⟩
      go_wp2_with fail
      refine (SU.out _ HU.out).mono ?_; rintro e w' ⟨rfl, q1, rfl⟩
      go_wp2
      go_ret2
      exact ⟨by rw [HE.out]; rfl, belowW (Below.refl _ _) _⟩
    | true =>
      cases hrD : risesB D ((n : Int) - 1) with
      | false =>
        have HE := Lib.hid (wfAll_d (U := U) (D := D) hrD)
        have HU := Lib.hid hU
        have HD := Lib.hid hD
        have wn : IntKind.i64.wrap ((n : Int) - 1) = (n : Int) - 1 := IntWalk.i64_in _ (by omega)
        have SU := Lib.hid (fun w h => (implSet B (some ⟨ga, 0, none⟩) ca U ((n : Int) - 1) w h hlU).mono (R' := fun e w' => e = .returned (.bool true) ∧ ∃ q, w' = w.drewN q) (fun e w' h => by rw [hrU] at h; exact h))
        have SD := Lib.hid (fun w h => (implSet C (some ⟨gb, 0, none⟩) cb D ((n : Int) - 1) w h hlD).mono (R' := fun e w' => e = .returned (.bool false) ∧ ∃ q, w' = w.drewN q) (fun e w' h => by rw [hrD] at h; exact h))
        clear hU hD hrU hrD
        go_enter Try.func6, Try.ntmps6
        go_wp2_with fail
        refine (within_i64_t _ _ _ _ (by omega) (by omega)).mono ?_; rintro e w' ⟨rfl, rfl⟩
        go_wp2_with fail
        refine (SU.out _ HU.out).mono ?_; rintro e w' ⟨rfl, q1, rfl⟩
        go_wp2_with fail
        refine (SD.out _ (HD.out.drewW q1)).mono ?_; rintro e w' ⟨rfl, q2, rfl⟩
        go_wp2
        go_ret2
        exact ⟨by rw [HE.out]; rfl, belowW (Below.refl _ _) _⟩
      | true =>
        have HE := Lib.hid (wfAll_t (U := U) (D := D) hn4 hrU hrD)
        rw [HE.out]
        exact implFrom B C ga gb ca cb U D n w hU hD hn4 hlU hlD hrU hrD
  · have HE := Lib.hid (wfAll_n (U := U) (D := D) hn)
    have hn2 : t < 0 ∨ 400 < t := by omega
    clear hU hD
    go_enter Try.func6, Try.ntmps6
    go_wp2_with fail
    refine (within_i64_f _ _ _ _ hn2).mono ?_; rintro e w' ⟨rfl, rfl⟩
    go_wp2
    go_ret2
    exact ⟨by rw [HE.out]; rfl, Below.refl _ _⟩

theorem stepW {w W W' : World} (h : Below w.heap.size w W) (h2 : Below W.heap.size W W') : Below w.heap.size w W' := h.trans (h2.mono h.size)
set_option maxHeartbeats 4000000 in
set_option maxRecDepth 100000 in
theorem walk_FnExactWaveFrom (a : Option Addr) (n ca : Nat) (U : List Int) (b : Option Addr) (m cb : Nat) (D : List Int) (t : Int) (w : World) (hn : n = U.length) (hr : ArgRow w a U) (hm : n ≤ maxLen) (hn2 : m = D.length) (hr2 : ArgRow w b D) (hm2 : m ≤ maxLen) (_wt : (Lit.int .i64 t).wf = true) :
    Calls Try.prog 3 #[.slice a n ca, .slice b m cb, .int .i64 t] w fun e w' => e = .returned (.bool true) ∧ Below w.heap.size w w' := by
  unfold maxLen at hm hm2
  subst hn hn2
  by_cases hlU : U.length ≤ 1048576
  · by_cases hlD : D.length ≤ 1048576
    · have HRU := Lib.hid hr
      have HRD := Lib.hid hr2
      clear hr hr2
      go_enter Try.func3, Try.ntmps3
      go_wp2_with fail
      refine (toInt64S_any a U.length ca U w rfl HRU.out hlU).mono ?_
      rintro e w1 ⟨rfl, i1, b1⟩
      have HB1 := Lib.hid b1
      have HI1 := Lib.hid i1
      clear i1 b1
      go_wp2_with fail
      refine (toInt64S_any b D.length cb D w1 rfl (HRD.out.keep HB1.out (Nat.le_refl _)) hlD).mono ?_
      rintro e w2 ⟨rfl, i2, b2⟩
      have HB2 := Lib.hid (stepW HB1.out b2)
      have HI2 := Lib.hid (HI1.out.keep b2 (Nat.le_refl _))
      have HJ2 := Lib.hid i2
      clear i2 b2
      obtain ⟨S, hS⟩ : ∃ S, (wfAll U D t).1 = S := ⟨_, rfl⟩
      obtain ⟨ok, hok⟩ : ∃ ok, (wfAll U D t).2 = ok := ⟨_, rfl⟩
      have HS := Lib.hid hS
      have HO := Lib.hid hok
      clear hS hok
      go_wp2_with fail
      refine (specWave _ _ _ _ _ _ U D t w2 HI2.out HJ2.out hlU hlD).mono ?_
      rw [HS.out, HO.out]
      rintro e w3 ⟨rfl, b3⟩
      have HB3 := Lib.hid (stepW HB2.out b3)
      clear b3
      go_wp2_with fail
      refine (toInt64S_any a U.length ca U w3 rfl (HRU.out.keep HB3.out (Nat.le_refl _)) hlU).mono ?_
      rintro e w4 ⟨rfl, i4, b4⟩
      have HB4 := Lib.hid (stepW HB3.out b4)
      have HI4 := Lib.hid i4
      clear i4 b4
      go_wp2_with fail
      refine (toInt64S_any b D.length cb D w4 rfl (HRD.out.keep HB4.out (Nat.le_refl _)) hlD).mono ?_
      rintro e w5 ⟨rfl, i5, b5⟩
      have HB5 := Lib.hid (stepW HB4.out b5)
      have HI5 := Lib.hid (HI4.out.keep b5 (Nat.le_refl _))
      have HJ5 := Lib.hid i5
      clear i5 b5
      go_wp2_with fail
      refine (implWave _ _ _ _ _ _ U D t w5 HI5.out HJ5.out hlU hlD).mono ?_
      rw [HS.out, HO.out]
      rintro e w6 ⟨rfl, b6⟩
      have HB6 := Lib.hid (stepW HB5.out b6)
      have HI6 := Lib.hid (HI5.out.keep b6 (Nat.le_refl _))
      have HJ6 := Lib.hid (HJ5.out.keep b6 (Nat.le_refl _))
      clear b6
      cases ok
      all_goals
        go_wp2_with fail
        refine (toInt64S_any a U.length ca U _ rfl (HRU.out.keep HB6.out (Nat.le_refl _)) hlU).mono ?_
        rintro e w7 ⟨rfl, i7, b7⟩
        have HB7 := Lib.hid (stepW HB6.out b7)
        have HI7 := Lib.hid (HI6.out.keep b7 (Nat.le_refl _))
        have HJ7 := Lib.hid (HJ6.out.keep b7 (Nat.le_refl _))
        have HK7 := Lib.hid i7
        clear i7 b7
        go_wp2_with fail
        refine (eqInts_same _ _ _ _ U _ HI7.out HK7.out).mono ?_
        rintro e w' ⟨rfl, q, rfl⟩
        go_wp2_with fail
        refine (toInt64S_any b D.length cb D _ rfl (HRD.out.keep (belowW HB7.out q) (Nat.le_refl _)) hlD).mono ?_
        rintro e w8 ⟨rfl, i8, b8⟩
        have HB8 := Lib.hid (stepW (belowW HB7.out q) b8)
        have HJ8 := Lib.hid ((HJ7.out.drewW q).keep b8 (Nat.le_refl _))
        have HK8 := Lib.hid i8
        clear i8 b8
        go_wp2_with fail
        refine (eqInts_same _ _ _ _ D _ HJ8.out HK8.out).mono ?_
        rintro e w' ⟨rfl, q2, rfl⟩
        go_wp2
        go_ret
        exact ⟨rfl, belowW HB8.out q2⟩
    · clear hr hr2
      go_enter Try.func3, Try.ntmps3
      go_wp2
      go_ret
      exact ⟨rfl, Below.refl _ _⟩
  · clear hr hr2
    go_enter Try.func3, Try.ntmps3
    go_wp2
    go_ret
    exact ⟨rfl, Below.refl _ _⟩
end Go.Proofs.Ytlppnjgnofglkaa
