/- The walk of a law: a list of times keeps a diagram on both sides or on none. -/
import Derived.Test.YtcelgmecfmegpabTiming
import Derived.Test.YtcelgmecfmegpabTab
namespace Go.Proofs.Ytcelgmecfmegpab
open Go.RowKit
set_option linter.unusedVariables false

set_option maxHeartbeats 1000000 in
theorem toInt64S_any (a : Option Addr) (n cap : Nat) (l : List Int) (w : World) (hn : n = l.length) (h : ArgRow w a l) (hl : n ≤ 1048576) :
    Calls Try.prog 17 #[.slice a n cap] w fun e w' => ∃ v, e = .returned v ∧ Ints w' w.heap.size v l ∧ Below w.heap.size w w' := by
  obtain ⟨i0, hi, hz0, hz1, hz2⟩ := info_parts info_i64
  have HN := Lib.hid hn
  have HA := Lib.hid h
  clear hn h
  go_enter Try.func17, Try.ntmps17
  go_wp2_with (at_make; refine wpList_make_full _ rfl _ _ 38 rfl w.heap.size 2 i0 (.int .i64 0) 1 Try.underlying38 hi hz0 hz1 .i64 .i64 (n : Int) (n : Int) n rfl rfl rfl rfl (by rw [hz2]; omega) (by unfold maxLen; omega) (Nat.le_refl _) ?_; intro w1 hown1 hgrow1)
  have hi1 : Ints w1 w.heap.size (.slice (some ⟨w.heap.size, 0, none⟩) n n) (cpyL l 0) := by
    unfold Ints
    have e : cpyL l 0 = List.replicate n 0 := by simp [cpyL, HN.out]
    rw [e, ← zeros_list, List.length_replicate]
    have h : w1.ownsRow w.heap.size 2 1 (.slice (some ⟨w.heap.size, 0, none⟩) n n) n (madeCells (Value.int IntKind.i64 0).cells n).toList := by simpa using hown1
    exact h
  have hb1w : Below w.heap.size w w1 := (Below.refl _ _).grown hgrow1 (Nat.le_refl _) (fun k e => by cases e)
  have HI1 := Lib.hid hi1
  have HB1 := Lib.hid hb1w
  clear hi1 hb1w hown1 hgrow1
  go_wp2
  go_loopw [4] (fun i wr => ∃ k : Nat, k ≤ n ∧ i = .int .i64 (k : Int) ∧ Ints wr w.heap.size (.slice (some ⟨w.heap.size, 0, none⟩) n n) (cpyL l k) ∧ Below w.heap.size w wr) (fun i _ => n - (intOf i).toNat)
  case atStart => exact ⟨0, Nat.zero_le _, rfl, HI1.out, HB1.out⟩
  case round =>
    obtain ⟨k, hk, rfl, hbuf, hB⟩ := hrel
    by_cases hlt : k < n
    · have hkl : k < l.length := by have := HN.out; omega
      rcases HA.out with h0 | ⟨b, off, rfl, hbl, hcells⟩
      · rw [h0] at hkl; simp at hkl
      have hca := (hB.cell (p := ⟨b, off + k, none⟩) hbl).trans (hcells k hkl)
      obtain ⟨y, hy⟩ : ∃ y, l[k] = y := ⟨_, rfl⟩
      have hstep := cpyL_step l k hkl
      rw [hy] at hca hstep
      obtain ⟨a', cap', hv, _, kk⟩ := hbuf.form
      simp only [Value.slice.injEq] at hv
      obtain ⟨g', hg', _, hgs, hcell, hfr⟩ := kk k (by rw [cpyL_len l k (by omega)]; exact hkl)
      obtain ⟨rfl, -, rfl⟩ := hv
      simp only [Option.some.injEq, Addr.mk.injEq, and_true] at hg'
      subst hg'
      obtain ⟨xx, hcx⟩ : ∃ xx, wr.cell? ⟨w.heap.size, k, none⟩ = some xx := ⟨_, hcell⟩
      have hput := hbuf.put k y
      rw [hstep] at hput
      have HI := Lib.hid hput
      clear hbuf kk hcell hput hstep hcells hy hkl
      go_wp2
      go_roundw
      case rel => exact ⟨k + 1, by omega, by go_num, HI.out, hB.setCell (Nat.le_refl _) _⟩
      case measure => simp [intOf]; omega
    · obtain rfl : k = n := by omega
      have HI := Lib.hid hbuf
      clear hbuf
      go_wp2
      go_ret
      exact ⟨_, rfl, by have := HI.out; rw [HN.out, cpyL_end] at this; rw [HN.out]; exact this, hB⟩


set_option maxHeartbeats 2000000 in
set_option maxRecDepth 100000 in
theorem walk_FnExactIsTiming (m : Int) (a : Option Addr) (n cap : Nat) (F : List Int) (b : Option Addr) (n2 c2 : Nat) (T : List Int) (w : World) (hn : F.length = n * 3) (hr : ArgRow w a F) (hm : n ≤ maxLen) (hn2 : n2 = T.length) (hr2 : ArgRow w b T) (hm2 : n2 ≤ maxLen) :
    Calls Try.prog 5 #[.agg #[.int .i64 m, .slice a n cap], .slice b n2 c2] w fun e w' => e = .returned (.bool true) ∧ Below w.heap.size w w' := by
  unfold maxLen at hm hm2
  subst hn2
  have B0 : Below w.heap.size w (w.alloc (.cells #[.int .i64 m, .slice a n cap] 24)) := (Below.refl _ _).alloc (Nat.le_refl _) _
  by_cases hl2 : T.length ≤ 1048576
  · by_cases hl : n ≤ 1048576
    · have HS := Lib.hid (szDiagram_any m a n cap 1048576 (w.alloc (.cells #[.int .i64 m, .slice a n cap] 24)) (by omega) (by omega) (by omega))
      have hif : (if (n : Int) ≤ 1048576 then (1048576 : Int) - n else -1) = 1048576 - (n : Int) := if_pos (by omega)
      have HIF := Lib.hid hif
      have HN := Lib.hid hn
      have P0 := At2.new w (.int .i64 m) (.slice a n cap) 24
      have HP0 := Lib.hid P0
      have HB0 := Lib.hid B0
      have HR0 := Lib.hid (hr.keep B0 (Nat.le_refl _))
      have HT0 := Lib.hid (hr2.keep B0 (Nat.le_refl _))
      clear hif hn hr P0 B0 hr2
      go_enter Try.func5, Try.ntmps5
      go_wp2_with fail
      refine HS.out.mono ?_
      rw [HIF.out]
      rintro e w1 ⟨rfl, b1⟩
      have s1 := b1.size
      simp at s1
      have HP1 := Lib.hid (HP0.out.below b1 (by simp))
      have HB1 := Lib.hid (HB0.out.trans (b1.mono (by simp)))
      have HR1 := Lib.hid (HR0.out.keep b1 (Nat.le_refl _))
      have HT1 := Lib.hid (HT0.out.keep b1 (Nat.le_refl _))
      clear b1
      obtain ⟨c0, c1, _, _⟩ := HP1.out
      go_wp2_with fail
      refine (toDiagram_any m a n cap F w1 HN.out HR1.out hl).mono ?_
      rintro e w2 ⟨v2, rfl, i2, b2⟩
      obtain ⟨a2, k2, rfl, -, -⟩ := i2.form
      have s2 := b2.size
      have HP2 := Lib.hid (HP1.out.below b2 (by omega))
      have HB2 := Lib.hid (HB1.out.trans (b2.mono (by omega)))
      have HR2 := Lib.hid (HR1.out.keep b2 (Nat.le_refl _))
      have HT2 := Lib.hid (HT1.out.keep b2 (Nat.le_refl _))
      have HI2 := Lib.hid i2
      clear b2 i2 c0 c1
      go_wp2_with fail
      refine (toInt64S_any b T.length c2 T w2 rfl HT2.out hl2).mono ?_
      rintro e w3 ⟨v3, rfl, i3, b3⟩
      obtain ⟨a3, k3, rfl, -, -⟩ := i3.form
      have s3 := b3.size
      have HP3 := Lib.hid (HP2.out.below b3 (by omega))
      have HB3 := Lib.hid (HB2.out.trans (b3.mono (by omega)))
      have HR3 := Lib.hid (HR2.out.keep b3 (Nat.le_refl _))
      have HT3 := Lib.hid (HT2.out.keep b3 (Nat.le_refl _))
      have HI3 := Lib.hid (HI2.out.keep b3 (Nat.le_refl _))
      have HJ3 := Lib.hid i3
      clear b3 i3
      go_wp2_with fail
      refine (specTiming _ _ m a2 a3 n k2 k3 F T w3 HI3.out HJ3.out hl hl2).mono ?_
      rintro e w4 ⟨rfl, b4⟩
      have s4 := b4.size
      have HP4 := Lib.hid (HP3.out.below b4 (by omega))
      have HB4 := Lib.hid (HB3.out.trans (b4.mono (by omega)))
      have HR4 := Lib.hid (HR3.out.keep b4 (Nat.le_refl _))
      have HT4 := Lib.hid (HT3.out.keep b4 (Nat.le_refl _))
      clear b4
      obtain ⟨c0, c1, _, _⟩ := HP4.out
      go_wp2_with fail
      refine (toDiagram_any m a n cap F w4 HN.out HR4.out hl).mono ?_
      rintro e w5 ⟨v5, rfl, i5, b5⟩
      obtain ⟨a5, k5, rfl, -, -⟩ := i5.form
      have s5 := b5.size
      have b5' : Below w5.heap.size w5 (w5.alloc (.cells #[.int .i64 m, .slice a5 n k5] 29)) := (Below.refl _ _).alloc (Nat.le_refl _) _
      have HP5 := Lib.hid ((HP4.out.below b5 (by omega)).alloc (.cells #[.int .i64 m, .slice a5 n k5] 29))
      have HX5 := Lib.hid (At2.new w5 (.int .i64 m) (.slice a5 n k5) 29)
      have HB5 := Lib.hid ((HB4.out.trans (b5.mono (by omega))).alloc (by omega) (.cells #[.int .i64 m, .slice a5 n k5] 29))
      have HR5 := Lib.hid ((HR4.out.keep b5 (Nat.le_refl _)).keep b5' (Nat.le_refl _))
      have HT5 := Lib.hid ((HT4.out.keep b5 (Nat.le_refl _)).keep b5' (Nat.le_refl _))
      have HI5 := Lib.hid (i5.keep b5' (Nat.le_refl _))
      clear b5 b5' i5 c0 c1
      go_wp2_with fail
      refine (toInt64S_any b T.length c2 T _ rfl HT5.out hl2).mono ?_
      rintro e w6 ⟨v6, rfl, i6, b6⟩
      obtain ⟨a6, k6, rfl, -, -⟩ := i6.form
      have s6 := b6.size
      simp at s6
      have HP6 := Lib.hid (HP5.out.below b6 (by simp; omega))
      have HX6 := Lib.hid (HX5.out.below b6 (by simp))
      have HB6 := Lib.hid (HB5.out.trans (b6.mono (by simp; omega)))
      have HR6 := Lib.hid (HR5.out.keep b6 (Nat.le_refl _))
      have HT6 := Lib.hid (HT5.out.keep b6 (Nat.le_refl _))
      have HI6 := Lib.hid (HI5.out.keep b6 (Nat.le_refl _))
      have HJ6 := Lib.hid i6
      clear b6 i6
      obtain ⟨x0, x1, _, _⟩ := HX6.out
      go_wp2_with fail
      refine (implTiming _ _ m a5 a6 n k5 k6 F T w6 HI6.out HJ6.out hl hl2).mono ?_
      rintro e w7 ⟨rfl, b7⟩
      have s7 := b7.size
      have HP7 := Lib.hid (HP6.out.below b7 (by omega))
      have HX7 := Lib.hid (HX6.out.below b7 (by omega))
      have HB7 := Lib.hid (HB6.out.trans (b7.mono (by omega)))
      have HR7 := Lib.hid (HR6.out.keep b7 (Nat.le_refl _))
      have HT7 := Lib.hid (HT6.out.keep b7 (Nat.le_refl _))
      have HI7 := Lib.hid (HI6.out.keep b7 (Nat.le_refl _))
      have HJ7 := Lib.hid (HJ6.out.keep b7 (Nat.le_refl _))
      clear b7 x0 x1
      obtain ⟨c0, c1, _, _⟩ := HP7.out
      obtain ⟨x0, x1, _, _⟩ := HX7.out
      have bd : Below w7.heap.size w7 w7.drew := (Below.refl _ _).drew
      have HR8 := Lib.hid (HR7.out.keep bd (Nat.le_refl _))
      have HT8 := Lib.hid (HT7.out.keep bd (Nat.le_refl _))
      have HI8 := Lib.hid (HI7.out.keep bd (Nat.le_refl _))
      have HJ8 := Lib.hid (HJ7.out.keep bd (Nat.le_refl _))
      have HX8 := Lib.hid HX7.out.drew
      have lx := HX7.out.lt
      clear bd
      go_wp2
      go_region_with (first | (go_at_call 8; refine (toDiagram_any m a n cap F _ HN.out HR8.out hl).mono ?_; rintro e w9 ⟨v9, rfl, i9, b9⟩; obtain ⟨a9, k9, rfl, -, -⟩ := i9.form; have HI9 := Lib.hid i9; have HB9 := Lib.hid b9; obtain ⟨y0, y1, _, _⟩ := HX8.out.below b9 lx; clear i9 b9) | (go_at_call 10; refine (eqDiagram_same _ _ m _ _ n F _ (HI8.out.keep HB9.out (Nat.le_refl _)) HI9.out).mono ?_; rintro e w10 ⟨rfl, b10⟩; have HB10 := Lib.hid b10; clear b10))
      all_goals
        have HT10 := Lib.hid ((HT8.out.keep HB9.out (Nat.le_refl _)).keep HB10.out (Nat.le_refl _))
        have HJ10 := Lib.hid ((HJ8.out.keep HB9.out (Nat.le_refl _)).keep HB10.out (Nat.le_refl _))
        have s9 := HB9.out.size
        have s9b : w7.heap.size ≤ w9.heap.size := s9
        have s10 := HB10.out.size
        have HBE := Lib.hid ((HB7.out.drew.trans (HB9.out.mono (by simp; omega))).trans (HB10.out.mono (by omega)))
        clear s9
        go_wp2_with fail
        refine (toInt64S_any b T.length c2 T _ rfl HT10.out hl2).mono ?_
        rintro e w11 ⟨v11, rfl, i11, b11⟩
        have s11 := b11.size
        have HJ11 := Lib.hid (HJ10.out.keep b11 (Nat.le_refl _))
        have HK11 := Lib.hid i11
        have HBF := Lib.hid (HBE.out.trans (b11.mono (by omega)))
        obtain ⟨a11, k11, rfl, -, -⟩ := i11.form
        clear b11 i11
        go_wp2_with fail
        refine (eqInts_same _ _ _ _ T _ HJ11.out HK11.out).mono ?_
        rintro e w12 ⟨rfl, q, rfl⟩
        go_wp2
        go_ret
        exact ⟨rfl, bwD HBF.out q⟩
    · have hif : (if (n : Int) ≤ 1048576 then (1048576 : Int) - n else -1) = -1 := if_neg (by omega)
      have HS := Lib.hid (szDiagram_any m a n cap 1048576 (w.alloc (.cells #[.int .i64 m, .slice a n cap] 24)) (by omega) (by omega) (by omega))
      have HIF := Lib.hid hif
      clear hif hn hr hr2
      go_enter Try.func5, Try.ntmps5
      go_wp2_with fail
      refine HS.out.mono ?_
      rw [HIF.out]
      rintro e w1 ⟨rfl, b1⟩
      go_wp2
      go_ret
      exact ⟨rfl, B0.trans (b1.mono (by simp))⟩
  · clear hn hr hr2
    go_enter Try.func5, Try.ntmps5
    go_wp2
    go_ret
    exact ⟨rfl, B0⟩
end Go.Proofs.Ytcelgmecfmegpab
