/- The walk of a law: a diagram is valid on both sides or on none. -/
import Derived.Test.YtcgnccbaplkehaaDoorDT
namespace Go.Proofs.YtcgnccbaplkehaaDoor
open Go.RowKit
set_option linter.unusedVariables false

set_option maxHeartbeats 1000000 in
set_option maxRecDepth 100000 in
theorem walk_FnExactDiagramText (m : Int) (a : Option Addr) (n cap : Nat) (F : List Int) (w : World) (hn : F.length = n * 3) (hr : ArgRow w a F) (hm : n ≤ maxLen) (hd : DoorW w) :
    Calls Tryd.prog 4 #[.agg #[.int .i64 m, .slice a n cap]] w fun e w' => e = .returned (.bool true) ∧ Below w.heap.size w w' := by
  unfold maxLen at hm
  have HD := Lib.hid hd
  clear hd
  have HSP := Lib.hid (fun B a cap' w (hr : Recs w B (.slice a n cap') n F) (hl : n ≤ 1048576) (hd : DoorW w) => specDT B m a n cap' F w hr hl hd)
  have HIM := Lib.hid (fun B a cap' w (hr : Recs w B (.slice a n cap') n F) (hl : n ≤ 1048576) (hd : DoorW w) => implDT B m a n cap' F w hr hl hd)
  obtain ⟨rs, hrs⟩ : ∃ rs, ansD m n F = rs := ⟨_, rfl⟩
  obtain ⟨rc, hrc⟩ : ∃ rc, diaB m n F = rc := ⟨_, rfl⟩
  rw [hrs, hrc] at HSP HIM
  clear hrs hrc
  by_cases hl : n ≤ 1048576
  · have HS := Lib.hid (szDiagram_any m a n cap 1048576 (w.alloc (.cells #[.int .i64 m, .slice a n cap] 30)) (by omega) (by omega) (by omega))
    have hif : (if (n : Int) ≤ 1048576 then (1048576 : Int) - n else -1) = 1048576 - (n : Int) := if_pos (by omega)
    have HIF := Lib.hid hif
    have HN := Lib.hid hn
    have P0 := At2.new w (.int .i64 m) (.slice a n cap) 30
    have B0 : Below w.heap.size w (w.alloc (.cells #[.int .i64 m, .slice a n cap] 30)) := (Below.refl _ _).alloc (Nat.le_refl _) _
    have HP0 := Lib.hid P0
    have HB0 := Lib.hid B0
    have HR0 := Lib.hid (hr.keep B0 (Nat.le_refl _))
    clear hif hn hr P0 B0
    go_enter Tryd.func4, Tryd.ntmps4
    go_wp2_with fail
    refine HS.out.mono ?_
    rw [HIF.out]
    rintro e w1 ⟨rfl, b1⟩
    have s1 := b1.size
    simp at s1
    have HP1 := Lib.hid (HP0.out.below b1 (by simp))
    have HB1 := Lib.hid (HB0.out.trans (b1.mono (by simp)))
    have HR1 := Lib.hid (HR0.out.keep b1 (Nat.le_refl _))
    clear b1
    obtain ⟨c0, c1, _, _⟩ := HP1.out
    go_wp2_with fail
    refine (toDiagram_any m a n cap F w1 HN.out HR1.out hl).mono ?_
    rintro e w2 ⟨v2, rfl, i2, b2⟩
    obtain ⟨a2, k2, rfl, -, -⟩ := i2.form
    have s2 := b2.size
    have HP2 := Lib.hid (HP1.out.below b2 (by omega))
    have HB2 := Lib.hid (HB1.out.trans (b2.mono (by omega)))
    have HR2 := Lib.hid (HR1.out.keep b2 (Nat.le_refl _))
    have HI2 := Lib.hid i2
    clear b2 i2
    go_wp2_with fail
    refine (HSP.out _ a2 k2 w2 HI2.out hl (HD.out.on HB2.out)).mono ?_
    rintro e w3 ⟨rfl, b3⟩
    have s3 := b3.size
    have HP3 := Lib.hid (HP2.out.below b3 (by omega))
    have HB3 := Lib.hid (HB2.out.trans (b3.mono (by omega)))
    have HR3 := Lib.hid (HR2.out.keep b3 (Nat.le_refl _))
    clear b3 c0 c1
    obtain ⟨c0, c1, _, _⟩ := HP3.out
    go_wp2_with fail
    refine (toDiagram_any m a n cap F w3 HN.out HR3.out hl).mono ?_
    rintro e w4 ⟨v4, rfl, i4, b4⟩
    obtain ⟨a4, k4, rfl, -, -⟩ := i4.form
    have s4 := b4.size
    have b4' : Below w4.heap.size w4 (w4.alloc (.cells #[.int .i64 m, .slice a4 n k4] 35)) := (Below.refl _ _).alloc (Nat.le_refl _) _
    have HP4 := Lib.hid ((HP3.out.below b4 (by omega)).alloc (.cells #[.int .i64 m, .slice a4 n k4] 35))
    have HX4 := Lib.hid (At2.new w4 (.int .i64 m) (.slice a4 n k4) 35)
    have HB4 := Lib.hid ((HB3.out.trans (b4.mono (by omega))).alloc (by omega) (.cells #[.int .i64 m, .slice a4 n k4] 35))
    have HR4 := Lib.hid ((HR3.out.keep b4 (Nat.le_refl _)).keep b4' (Nat.le_refl _))
    have HI4 := Lib.hid (i4.keep b4' (Nat.le_refl _))
    clear b4 b4' i4 c0 c1
    go_wp2_with fail
    refine (HIM.out _ a4 k4 _ HI4.out hl (HD.out.on HB4.out)).mono ?_
    rintro e w5 ⟨rfl, b5⟩
    have s5 := b5.size
    simp at s5
    have HP5 := Lib.hid (HP4.out.below b5 (by simp; omega))
    have HX5 := Lib.hid (HX4.out.below b5 (by simp))
    have HB5 := Lib.hid (HB4.out.trans (b5.mono (by simp; omega)))
    have HR5 := Lib.hid (HR4.out.keep b5 (Nat.le_refl _))
    have HI5 := Lib.hid (HI4.out.keep b5 (Nat.le_refl _))
    clear b5
    obtain ⟨c0, c1, _, _⟩ := HP5.out
    obtain ⟨x0, x1, _, _⟩ := HX5.out
    have bd : Below w5.heap.size w5 w5.drew := (Below.refl _ _).drew
    have HR6 := Lib.hid (HR5.out.keep bd (Nat.le_refl _))
    have HI6 := Lib.hid (HI5.out.keep bd (Nat.le_refl _))
    have HX6 := Lib.hid HX5.out.drew
    have lx := HX5.out.lt
    clear bd
    go_wp2
    go_region_with (first | (go_at_call 11; refine (toDiagram_any m a n cap F _ HN.out HR6.out hl).mono ?_; rintro e w6 ⟨v6, rfl, i6, b6⟩; obtain ⟨a6, k6, rfl, -, -⟩ := i6.form; have HI7 := Lib.hid i6; have HB7 := Lib.hid b6; obtain ⟨y0, y1, _, _⟩ := HX6.out.below b6 lx; clear i6 b6) | (go_at_call 13; refine (eqDiagram_same _ _ m _ _ n F _ (HI6.out.keep HB7.out (Nat.le_refl _)) HI7.out).mono ?_; rintro e w7 ⟨rfl, b7⟩; have HB8 := Lib.hid b7; clear b7))
    all_goals
      go_wp2
      go_ret
      exact ⟨rfl, (HB5.out.drew.trans (HB7.out.mono (by simp; omega))).trans (HB8.out.mono (Nat.le_trans (by simp; omega) HB7.out.size))⟩
  · have hif : (if (n : Int) ≤ 1048576 then (1048576 : Int) - n else -1) = -1 := if_neg (by omega)
    have HS := Lib.hid (szDiagram_any m a n cap 1048576 (w.alloc (.cells #[.int .i64 m, .slice a n cap] 30)) (by omega) (by omega) (by omega))
    have HIF := Lib.hid hif
    clear hif hn hr
    go_enter Tryd.func4, Tryd.ntmps4
    go_wp2_with fail
    refine HS.out.mono ?_
    rw [HIF.out]
    rintro e w1 ⟨rfl, b1⟩
    go_wp2
    go_ret
    exact ⟨rfl, ((Below.refl _ _).alloc (Nat.le_refl _) _).trans (b1.mono (by simp))⟩
end Go.Proofs.YtcgnccbaplkehaaDoor
