/- The walk of a law: dividers one after another make the same on both sides. -/
import Derived.Test.YtcelgmecfmegpaaChain
namespace Go.Proofs.Ytcelgmecfmegpaa
open Go.RowKit
set_option linter.unusedVariables false

theorem szDividerS_any (a : Option Addr) (n cap : Nat) (c : Int) (w : World) (hc : 0 ≤ c) (hc2 : c ≤ 1048576) (hn : n ≤ 9223372036854775807) :
    Calls Try.prog 14 #[.slice a n cap, .int .i64 c] w fun e w' => e = .returned (.int .i64 (if (n : Int) ≤ c then c - n else -1)) ∧ w = w' := by
  have wr : IntKind.i64.wrap (c - (n : Int)) = c - (n : Int) := IntWalk.i64_in _ (by omega)
  by_cases h : (n : Int) ≤ c
  · rw [if_pos h]
    go_enter Try.func14, Try.ntmps14
    go_wp2
    go_ret
    exact ⟨by simp, rfl⟩
  · rw [if_neg h]
    go_enter Try.func14, Try.ntmps14
    go_wp2
    go_ret
    exact ⟨by simp, rfl⟩

set_option maxHeartbeats 1000000 in
set_option maxRecDepth 100000 in
theorem walk_FnExactDivideChain (a : Option Addr) (n cap : Nat) (F : List Int) (s : ByteArray) (w : World) (hn : F.length = n * 2) (hr : ArgRow w a F) (hm : n ≤ maxLen) (hs : s.size ≤ maxLen) :
    Calls Try.prog 5 #[.slice a n cap, .string s] w fun e w' => e = .returned (.bool true) ∧ Below w.heap.size w w' := by
  unfold maxLen at hm
  by_cases hl2 : (s.size : Int) ≤ 1048576
  · by_cases hl : n ≤ 1048576
    · obtain ⟨r, c, hS, hI⟩ : ∃ (r : ByteArray) (c : Bool), (∀ (B : Nat) (a : Option Addr) (cap : Nat) (w : World), Recs w B (.slice a n cap) n F → Calls Try.prog 15 #[.slice a n cap, .string s] w fun e w' => e = .returned (.tuple #[.string r, .bool c]) ∧ Below w.heap.size w w') ∧ (∀ (B : Nat) (a : Option Addr) (cap : Nat) (w : World), Recs w B (.slice a n cap) n F → Calls Try.prog 17 #[.slice a n cap, .string s] w fun e w' => e = .returned (.tuple #[.string r, .bool c]) ∧ Below w.heap.size w w') := by
        by_cases h8 : n ≤ 8
        · cases hwv : waveB s.data.toList with
          | false => exact ⟨_, _, fun B a cap w h => specChain_f2 a n cap s w h8 hs hwv, fun B a cap w h => implChain_f2 a n cap s w h8 hs hwv⟩
          | true => exact ⟨_, _, fun B a cap w h => specChain B a n cap F s w h h8 hs hwv, fun B a cap w h => implChain B a n cap F s w h h8 hs hwv⟩
        · exact ⟨_, _, fun B a cap w h => specChain_f1 a n cap s w (by omega) hl, fun B a cap w h => implChain_f1 a n cap s w (by omega) hl⟩
      have HS := Lib.hid hS
      have HI := Lib.hid hI
      have hif : (if (n : Int) ≤ 1048576 then (1048576 : Int) - n else -1) = 1048576 - (n : Int) := if_pos (by omega)
      have HIF := Lib.hid hif
      have HN := Lib.hid hn
      have HR := Lib.hid hr
      have HZ := Lib.hid (szDividerS_any a n cap 1048576 w (by omega) (by omega) (by omega))
      clear hS hI hif hn hr
      go_enter Try.func5, Try.ntmps5
      go_wp2_with fail
      refine HZ.out.mono ?_
      rw [HIF.out]
      rintro e w1 ⟨rfl, rfl⟩
      go_wp2_with fail
      refine (toDividerS_any a n cap F w HN.out HR.out hl).mono ?_
      rintro e w2 ⟨v2, rfl, i2, b2⟩
      obtain ⟨a2, k2, rfl, -, -⟩ := i2.form
      have s2 := b2.size
      have HI2 := Lib.hid i2
      have HB2 := Lib.hid b2
      have HR2 := Lib.hid (HR.out.keep b2 (Nat.le_refl _))
      clear i2 b2
      go_wp2_with fail
      refine (HS.out _ a2 k2 w2 HI2.out).mono ?_
      rintro e w3 ⟨rfl, b3⟩
      have s3 := b3.size
      have HB3 := Lib.hid (HB2.out.trans (b3.mono (by omega)))
      have HR3 := Lib.hid (HR2.out.keep b3 (Nat.le_refl _))
      clear b3
      go_wp2_with fail
      refine (toDividerS_any a n cap F w3 HN.out HR3.out hl).mono ?_
      rintro e w4 ⟨v4, rfl, i4, b4⟩
      obtain ⟨a4, k4, rfl, -, -⟩ := i4.form
      have s4 := b4.size
      have HI4 := Lib.hid i4
      have HB4 := Lib.hid (HB3.out.trans (b4.mono (by omega)))
      have HR4 := Lib.hid (HR3.out.keep b4 (Nat.le_refl _))
      clear i4 b4
      go_wp2_with fail
      refine (HI.out _ a4 k4 w4 HI4.out).mono ?_
      rintro e w5 ⟨rfl, b5⟩
      have s5 := b5.size
      have HI5 := Lib.hid (HI4.out.keep b5 (Nat.le_refl _))
      have HB5 := Lib.hid (HB4.out.trans (b5.mono (by omega)))
      have HR5 := Lib.hid (HR4.out.keep b5 (Nat.le_refl _))
      clear b5
      go_wp2_with fail
      refine (toDividerS_any a n cap F w5 HN.out HR5.out hl).mono ?_
      rintro e w6 ⟨v6, rfl, i6, b6⟩
      have s6 := b6.size
      have HJ6 := Lib.hid i6
      have HI6 := Lib.hid (HI5.out.keep b6 (Nat.le_refl _))
      have HB6 := Lib.hid (HB5.out.trans (b6.mono (by omega)))
      obtain ⟨a6, k6, rfl, -, -⟩ := i6.form
      clear i6 b6
      go_wp2_with fail
      refine (eqDividerS_same _ _ n _ _ F _ HI6.out HJ6.out).mono ?_
      rintro e w7 ⟨rfl, b7⟩
      have HB7 := Lib.hid (HB6.out.trans (b7.mono (by omega)))
      clear b7
      go_wp2
      go_ret
      exact ⟨rfl, HB7.out⟩
    · have hif : (if (n : Int) ≤ 1048576 then (1048576 : Int) - n else -1) = -1 := if_neg (by omega)
      have HIF := Lib.hid hif
      have HZ := Lib.hid (szDividerS_any a n cap 1048576 w (by omega) (by omega) (by omega))
      clear hif hn hr
      go_enter Try.func5, Try.ntmps5
      go_wp2_with fail
      refine HZ.out.mono ?_
      rw [HIF.out]
      rintro e w1 ⟨rfl, rfl⟩
      go_wp2
      go_ret
      exact ⟨rfl, Below.refl _ _⟩
  · go_enter Try.func5, Try.ntmps5
    go_wp2
    go_ret
    exact ⟨rfl, Below.refl _ _⟩
end Go.Proofs.Ytcelgmecfmegpaa
