/- The walk of a law: FirstMeeting is the same on both sides. -/
import Derived.Test.YtafecdmcbpnniaaFm4
namespace Go.Proofs.Ytafecdmcbpnniaa
open Go.RowKit
set_option linter.unusedVariables false

theorem szClockS_any (a : Option Addr) (n cap : Nat) (c : Int) (w : World) (hc : 0 ≤ c) (hc2 : c ≤ 1048576) (hn : n ≤ 9223372036854775807) :
    Calls Try.prog 35 #[.slice a n cap, .int .i64 c] w fun e w' => e = .returned (.int .i64 (if (n : Int) ≤ c then c - n else -1)) ∧ w = w' := by
  have wr : IntKind.i64.wrap (c - (n : Int)) = c - (n : Int) := IntWalk.i64_in _ (by omega)
  by_cases h : (n : Int) ≤ c
  · rw [if_pos h]
    go_enter Try.func35, Try.ntmps35
    go_wp2
    go_ret
    exact ⟨by simp, rfl⟩
  · rw [if_neg h]
    go_enter Try.func35, Try.ntmps35
    go_wp2
    go_ret
    exact ⟨by simp, rfl⟩


set_option maxHeartbeats 1000000 in
set_option maxRecDepth 100000 in
theorem walk_FnExactFirstMeeting (a : Option Addr) (n cap : Nat) (F : List Int) (w : World) (hn : F.length = n * 2) (hr : ArgRow w a F) (hm : n ≤ maxLen) :
    Calls Try.prog 12 #[.slice a n cap] w fun e w' => e = .returned (.bool true) ∧ Below w.heap.size w w' := by
  unfold maxLen at hm
  by_cases hl : n ≤ 1048576
  · obtain ⟨R, c, hS, hI⟩ : ∃ (R : Int) (c : Bool), (∀ (B : Nat) (a : Option Addr) (cap : Nat) (w : World), Recs w B (.slice a n cap) n F → Calls Try.prog 39 #[.slice a n cap] w fun e w' => e = .returned (.tuple #[.int .i64 R, .bool c]) ∧ Below w.heap.size w w') ∧ (∀ (B : Nat) (a : Option Addr) (cap : Nat) (w : World), Recs w B (.slice a n cap) n F → Calls Try.prog 40 #[.slice a n cap] w fun e w' => e = .returned (.tuple #[.int .i64 R, .bool c]) ∧ Below w.heap.size w w') := by
      obtain ⟨R, c, hM⟩ := firstA_ex F n
      exact ⟨R, c, fun B a cap w h => specFirst B a n cap F R c w h hM hl, fun B a cap w h => implFirst B a n cap F R c w h hM hl⟩
    have HS := Lib.hid hS
    have HI := Lib.hid hI
    have hif : (if (n : Int) ≤ 1048576 then (1048576 : Int) - n else -1) = 1048576 - (n : Int) := if_pos (by omega)
    have HIF := Lib.hid hif
    have HN := Lib.hid hn
    have HR := Lib.hid hr
    have HZ := Lib.hid (szClockS_any a n cap 1048576 w (by omega) (by omega) (by omega))
    clear hS hI hif hn hr
    go_enter Try.func12, Try.ntmps12
    go_wp2_with fail
    refine HZ.out.mono ?_
    rw [HIF.out]
    rintro e w1 ⟨rfl, rfl⟩
    go_wp2_with fail
    refine (toClockS_any a n cap F w HN.out HR.out hl).mono ?_
    rintro e w2 ⟨v2, rfl, i2, b2⟩
    obtain ⟨a2, k2, rfl, -, -⟩ := i2.form
    have HI2 := Lib.hid i2
    have HB2 := Lib.hid b2
    have HR2 := Lib.hid (HR.out.keep b2 (Nat.le_refl _))
    clear i2 b2
    go_wp2_with fail
    refine (HS.out _ a2 k2 w2 HI2.out).mono ?_
    rintro e w3 ⟨rfl, b3⟩
    have HB3 := Lib.hid (HB2.out.trans (b3.mono HB2.out.size))
    have HR3 := Lib.hid (HR2.out.keep b3 (Nat.le_refl _))
    clear b3
    go_wp2_with fail
    refine (toClockS_any a n cap F _ HN.out HR3.out hl).mono ?_
    rintro e w4 ⟨v4, rfl, i4, b4⟩
    obtain ⟨a4, k4, rfl, -, -⟩ := i4.form
    have HI4 := Lib.hid i4
    have HB4 := Lib.hid (HB3.out.trans (b4.mono HB3.out.size))
    have HR4 := Lib.hid (HR3.out.keep b4 (Nat.le_refl _))
    clear i4 b4
    go_wp2_with fail
    refine (HI.out _ a4 k4 w4 HI4.out).mono ?_
    rintro e w5 ⟨rfl, b5⟩
    have HI5 := Lib.hid (HI4.out.keep b5 (Nat.le_refl _))
    have HB5 := Lib.hid (HB4.out.trans (b5.mono HB4.out.size))
    have HR5 := Lib.hid (HR4.out.keep b5 (Nat.le_refl _))
    clear b5
    go_wp2_with fail
    refine (toClockS_any a n cap F w5 HN.out HR5.out hl).mono ?_
    rintro e w7 ⟨v7, rfl, i7, b7⟩
    have HJ7 := Lib.hid i7
    have HI7 := Lib.hid (HI5.out.keep b7 (Nat.le_refl _))
    have HB7 := Lib.hid (HB5.out.trans (b7.mono HB5.out.size))
    obtain ⟨a7, k7, rfl, -, -⟩ := i7.form
    clear i7 b7
    go_wp2_with fail
    refine (eqClockS_same _ _ n _ _ F _ HI7.out HJ7.out).mono ?_
    rintro e w8 ⟨rfl, b8⟩
    have HB8 := Lib.hid (HB7.out.trans (b8.mono HB7.out.size))
    clear b8
    go_wp2
    go_ret
    exact ⟨rfl, HB8.out⟩
  · have hif : (if (n : Int) ≤ 1048576 then (1048576 : Int) - n else -1) = -1 := if_neg (by omega)
    have HIF := Lib.hid hif
    have HZ := Lib.hid (szClockS_any a n cap 1048576 w (by omega) (by omega) (by omega))
    clear hif hn hr
    go_enter Try.func12, Try.ntmps12
    go_wp2_with fail
    refine HZ.out.mono ?_
    rw [HIF.out]
    rintro e w1 ⟨rfl, rfl⟩
    go_wp2
    go_ret
    exact ⟨rfl, Below.refl _ _⟩
end Go.Proofs.Ytafecdmcbpnniaa
