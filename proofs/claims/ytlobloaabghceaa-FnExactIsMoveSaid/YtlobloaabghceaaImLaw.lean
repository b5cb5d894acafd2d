/- The walk of a law: IsMove is the same on both sides. -/
import Derived.Test.YtlobloaabghceaaMvI
import Derived.Test.YtlobloaabghceaaFlow2
import Derived.Deep.RegionWith
namespace Go.Proofs.Ytlobloaabghceaa
open Go.RowKit
set_option linter.unusedVariables false
set_option linter.unusedSimpArgs false

set_option maxHeartbeats 1000000 in
set_option maxRecDepth 100000 in
theorem implIsMove (B : Nat) (da : Option Addr) (dn dc : Nat) (ds : List Int) (wa : Option Addr) (wn wc : Nat) (F : List Int) (ma : Option Addr) (mn mc : Nat) (M : List Int) (w : World) (hf : Fl w B da dn dc ds wa wn wc F)
    (hm : Ints w B (.slice ma mn mc) M) (hdl : dn ≤ 1048576) (hwl : wn ≤ 1048576) (hml : mn ≤ 1048576) :
    Calls Try.prog 13 #[.agg #[.slice da dn dc, .slice wa wn wc], .slice ma mn mc] w fun r w' => CmR ds wn F M w r w' := by
  obtain ⟨w0, hw0⟩ : ∃ w0, w.alloc (.cells #[.slice da dn dc, .slice wa wn wc] 31) = w0 := ⟨_, rfl⟩
  have hb0 : Below w.heap.size w w0 := by rw [← hw0]; exact (Below.refl _ _).alloc (Nat.le_refl _) _
  have hp : At2 w0 w.heap.size (.slice da dn dc) (.slice wa wn wc) := by rw [← hw0]; exact At2.new w _ _ _
  have HB0 := Lib.hid hb0
  have HI := Lib.hid (implMove B da dn dc ds wa wn wc F ma mn mc M w0 (hf.keep hb0 (Nat.le_refl _)) (hm.keep hb0 (Nat.le_refl _)) hdl hwl hml)
  obtain ⟨c0, c1, -, -⟩ := hp
  clear hf hm hb0
  go_enter Try.func13, Try.ntmps13
  go_wp2_with fail
  refine HI.out.mono ?_; rintro r w1 ⟨b1, va, vw, ok, rfl, hok, hy, hn⟩
  have HB1 := Lib.hid (HB0.out.trans (b1.mono HB0.out.size))
  have HOK := Lib.hid hok
  clear b1 hok hw0 c0 c1
  cases ok with
  | false =>
    obtain ⟨rfl, rfl⟩ := hn rfl
    clear hy hn
    go_wp2
    go_ret
    exact ⟨HB1.out.alloc HB1.out.size _, false, rfl, by simpa using HOK.out⟩
  | true =>
    obtain ⟨h1, h2⟩ := hy rfl
    obtain ⟨a2, c2, rfl, -, -⟩ := h1.form
    obtain ⟨a3, c3, rfl, -, -⟩ := h2.form
    clear hy hn h1 h2
    go_wp2
    go_ret
    exact ⟨HB1.out.alloc HB1.out.size _, true, rfl, by simpa using HOK.out⟩
def LwImLaw (w0 W : World) : Prop := Below w0.heap.size w0 W
theorem LwImLaw.dr {w W : World} (h : LwImLaw w W) : LwImLaw w W.drew := ⟨h.os, h.tape, h.output, h.size, h.block⟩
theorem LwImLaw.call {w W W' : World} (h : LwImLaw w W) (hb : Below W.heap.size W W') : LwImLaw w W' := h.trans (hb.mono h.size)
set_option maxHeartbeats 8000000 in
set_option maxRecDepth 100000 in
theorem walk_FnExactIsMove (da : Option Addr) (dn dc : Nat) (ds : List Int) (wa : Option Addr) (wn wc : Nat) (F : List Int) (ma : Option Addr) (mn mc : Nat) (M : List Int) (w : World) (hd : dn = ds.length) (hda : ArgRow w da ds) (hdm : dn ≤ maxLen) (hn : F.length = wn * 3) (hr : ArgRow w wa F) (hm : wn ≤ maxLen) (hmd : mn = M.length) (hma : ArgRow w ma M) (hmm : mn ≤ maxLen) :
    Calls Try.prog 4 #[.agg #[.slice da dn dc, .slice wa wn wc], .slice ma mn mc] w fun e w' => e = .returned (.bool true) ∧ Below w.heap.size w w' := by
  unfold maxLen at hm hdm hmm
  by_cases hml : mn ≤ 1048576
  case neg =>
    have hlz : (1048576 : Int) < (mn : Int) := by omega
    clear hma hmd hr hda
    go_enter Try.func4, Try.ntmps4
    go_wp2
    go_ret
    exact ⟨rfl, (Below.refl _ _).alloc (Nat.le_refl _) _⟩
  have hmlz : ¬ (1048576 : Int) < (mn : Int) := by omega
  obtain ⟨w0, hw0⟩ : ∃ w0, w.alloc (.cells #[.slice da dn dc, .slice wa wn wc] 26) = w0 := ⟨_, rfl⟩
  have hb0 : Below w.heap.size w w0 := by rw [← hw0]; exact (Below.refl _ _).alloc (Nat.le_refl _) _
  have hs0 : w.heap.size < w0.heap.size := by rw [← hw0]; simp
  have c0 : w0.cell? ⟨w.heap.size, 0, none⟩ = some (.slice da dn dc) := by rw [← hw0]; simp [go_sem]
  have c1 : w0.cell? ⟨w.heap.size, 1, none⟩ = some (.slice wa wn wc) := by rw [← hw0]; simp [go_sem]
  have HC : Hid (∀ W, LwImLaw w0 W → W.cell? ⟨w.heap.size, 0, none⟩ = some (.slice da dn dc) ∧ W.cell? ⟨w.heap.size, 1, none⟩ = some (.slice wa wn wc)) := fun W h => ⟨(h.cell (p := ⟨w.heap.size, 0, none⟩) hs0).trans c0, (h.cell (p := ⟨w.heap.size, 1, none⟩) hs0).trans c1⟩
  have HB0 := Lib.hid hb0
  have HR0 := Lib.hid (hr.keep hb0 (Nat.le_refl _))
  have HDA0 := Lib.hid (hda.keep hb0 (Nat.le_refl _))
  have HN := Lib.hid hn
  have HMA0 := Lib.hid (hma.keep hb0 (Nat.le_refl _))
  have HMD := Lib.hid hmd
  have HD := Lib.hid hd
  have HS := Lib.hid (szFlow_any da dn dc wa wn wc w0 (by omega) (by omega))
  clear hr hda hb0 hn hd hma hmd
  by_cases hl : dn + wn ≤ 1048576
  · have hif : szF dn wn = 1048576 - ((dn + wn : Nat) : Int) := by unfold szF; exact if_pos (by omega)
    have hdl : dn ≤ 1048576 := by omega
    have hwl : wn ≤ 1048576 := by omega
    obtain ⟨left, hleft⟩ : ∃ left, 1048576 - ((dn + wn : Nat) : Int) = left := ⟨_, rfl⟩
    have hl0 : ¬ left < 0 := by omega
    rw [hif, hleft] at HS
    clear hif hleft hl
    have HTD : Hid (∀ W, LwImLaw w0 W → Calls Try.prog 11 #[.agg #[.slice da dn dc, .slice wa wn wc]] W fun e w' => ∃ a2 c2 b2 k2, e = .returned (.agg #[.slice a2 dn c2, .slice b2 wn k2]) ∧ Fl w' W.heap.size a2 dn c2 ds b2 wn k2 F ∧ Below W.heap.size W w') := fun W hW =>
      toFlow_any da dn dc ds wa wn wc F W HD.out (HDA0.out.keep hW (Nat.le_refl _)) hdl HN.out (HR0.out.keep hW (Nat.le_refl _)) hwl
    have HMT : Hid (∀ W, LwImLaw w0 W → Calls Try.prog 12 #[.slice ma mn mc] W fun e w' => e = .returned (.slice (some ⟨W.heap.size, 0, none⟩) mn mn) ∧ Ints w' W.heap.size (.slice (some ⟨W.heap.size, 0, none⟩) mn mn) M ∧ Below W.heap.size W w') := fun W hW =>
      toInt64S_any ma mn mc M W HMD.out (HMA0.out.keep hW (Nat.le_refl _)) hml
    go_enter Try.func4, Try.ntmps4
    go_wp2_with fail
    refine HS.out.mono ?_
    rintro e w1 ⟨rfl, b1⟩
    have L1 : Hid (LwImLaw w0 w1) := b1
    clear b1 hw0 c0 c1
    obtain ⟨c0, c1⟩ := HC.out w1 L1.out
    go_wp2_with fail
    refine (HTD.out w1 L1.out).mono ?_
    rintro e w2 ⟨a2, c2, b2, k2, rfl, r2, bb2⟩
    have L2 := Lib.hid (L1.out.call bb2)
    have HF2 := Lib.hid r2
    have HB22 := Lib.hid bb2
    clear bb2 r2 c0 c1
    go_wp2_with fail
    refine (HMT.out w2 L2.out).mono ?_
    rintro e w2' ⟨rfl, im2, bm2⟩
    have hz12 := L1.out.size
    have hz22 : w1.heap.size ≤ w2.heap.size := HB22.out.size
    have HSPC := Lib.hid (specIsMove w1.heap.size a2 dn c2 ds b2 wn k2 F _ mn mn M w2' (HF2.out.keep bm2 (Nat.le_refl _)) (ints_low im2 hz22) hdl hwl hml)
    have L2' := Lib.hid (L2.out.call bm2)
    clear im2 bm2
    go_wp2_with fail
    refine HSPC.out.mono ?_
    rintro e w3 ⟨b3, ok, rfl, hok⟩
    have L3 := Lib.hid (L2'.out.call b3)
    have HOK := Lib.hid hok
    clear hok b3
    obtain ⟨c0, c1⟩ := HC.out w3 L3.out
    go_wp2_with fail
    refine (HTD.out w3 L3.out).mono ?_
    rintro e w4 ⟨a4, c4, b4, k4, rfl, r4, bb4⟩
    have L4 := Lib.hid (L3.out.call bb4)
    have HB44 := Lib.hid bb4
    obtain ⟨w5, hw5⟩ : ∃ w5, w4.alloc (.cells #[.slice a4 dn c4, .slice b4 wn k4] 31) = w5 := ⟨_, rfl⟩
    have hb5 : Below w4.heap.size w4 w5 := by rw [← hw5]; exact (Below.refl _ _).alloc (Nat.le_refl _) _
    have hs5 : w4.heap.size < w5.heap.size := by rw [← hw5]; simp
    have p0 : w5.cell? ⟨w4.heap.size, 0, none⟩ = some (.slice a4 dn c4) := by rw [← hw5]; simp [go_sem]
    have p1 : w5.cell? ⟨w4.heap.size, 1, none⟩ = some (.slice b4 wn k4) := by rw [← hw5]; simp [go_sem]
    have HX : Hid (∀ W, LwImLaw w5 W → W.cell? ⟨w4.heap.size, 0, none⟩ = some (.slice a4 dn c4) ∧ W.cell? ⟨w4.heap.size, 1, none⟩ = some (.slice b4 wn k4)) := fun W h => ⟨(h.cell (p := ⟨w4.heap.size, 0, none⟩) hs5).trans p0, (h.cell (p := ⟨w4.heap.size, 1, none⟩) hs5).trans p1⟩
    have HF5 := Lib.hid (r4.keep hb5 (Nat.le_refl _))
    have L5 := Lib.hid (L4.out.call hb5)
    clear bb4 r4 hb5 c0 c1
    have hz34 : w3.heap.size ≤ w4.heap.size := HB44.out.size
    go_wp2_with fail
    clear hw5
    refine (HMT.out w5 L5.out).mono ?_
    rintro e w5' ⟨rfl, im5, bm5⟩
    have HI5 := Lib.hid (ints_low im5 (show w3.heap.size ≤ w5.heap.size by omega))
    have HF5' := Lib.hid (HF5.out.keep bm5 (Nat.le_refl _))
    have HIMP := Lib.hid (implIsMove w3.heap.size a4 dn c4 ds b4 wn k4 F _ mn mn M w5' HF5'.out HI5.out hdl hwl hml)
    have L5' := Lib.hid (L5.out.call bm5)
    have X5' : Hid (LwImLaw w5 w5') := bm5
    obtain ⟨z0, z1⟩ := HX.out w5' X5'.out
    clear im5 bm5 p0 p1
    go_wp2_with fail
    refine HIMP.out.mono ?_
    rintro e w6 ⟨b6, ok2, rfl, hok2⟩
    have L6 := Lib.hid (L5'.out.call b6)
    have X6 := Lib.hid (X5'.out.call b6)
    have HF6 := Lib.hid (HF5'.out.keep b6 (Nat.le_refl _))
    have HI6 := Lib.hid (HI5.out.keep b6 (Nat.le_refl _))
    obtain rfl : ok = ok2 := by
      have h1 := HOK.out.trans hok2.symm
      cases ok <;> cases ok2 <;> simp_all
    clear hok2 b6 z0 z1
    obtain ⟨c0, c1⟩ := HC.out w6 L6.out
    obtain ⟨x0, x1⟩ := HX.out w6 X6.out
    have HTD6 := Lib.hid (HTD.out w6.drew L6.out.dr)
    cases ok
    all_goals
      go_wp2
      go_region_with (first | (go_at_call 11; refine HTD6.out.mono ?_; rintro e w7 ⟨a6, c6, b6, k6, rfl, i7, b7⟩; have HI7 := Lib.hid i7; have HB7 := Lib.hid b7; obtain ⟨y0, y1⟩ := HX.out w7 (X6.out.call ((Below.refl w6.heap.size w6).drew.trans b7)); clear i7 b7) | (go_at_call 14; refine (eqFlow_same _ _ _ _ _ _ _ _ ds _ _ wn _ _ F _ ((HF6.out.keep (show Below w6.heap.size w6 _ from (Below.refl _ _).drew) (Nat.le_refl _)).keep HB7.out (Nat.le_refl _)) HI7.out).mono ?_; rintro e w8 ⟨rfl, b8⟩; have HB8 := Lib.hid b8; clear b8))
      all_goals
        have L8 := Lib.hid (((L6.out.dr).call HB7.out).call HB8.out)
        have HI8 := Lib.hid (((HI6.out.keep (show Below w6.heap.size w6 _ from (Below.refl _ _).drew) (Nat.le_refl _)).keep HB7.out (Nat.le_refl _)).keep HB8.out (Nat.le_refl _))
        clear HB7 HB8 HI7 HF6 HI6 HTD6
        go_wp2_with fail
        refine (HMT.out _ L8.out).mono ?_
        rintro e w9 ⟨rfl, im9, bm9⟩
        have HI9 := Lib.hid im9
        have L9 := Lib.hid (L8.out.call bm9)
        have HI89 := Lib.hid (HI8.out.keep bm9 (Nat.le_refl _))
        clear im9 bm9
        go_wp2_with fail
        refine (eqInts_same _ _ _ _ M w9 HI89.out HI9.out).mono ?_
        rintro e w' ⟨rfl, q9, rfl⟩
        go_wp2
        go_ret
        have h9 := HB0.out.trans (L9.out.mono HB0.out.size)
        exact ⟨rfl, h9.os, h9.tape, h9.output, h9.size, h9.block⟩
  · have hif : szF dn wn = -1 := by unfold szF; exact if_neg (by omega)
    rw [hif] at HS
    clear hif
    go_enter Try.func4, Try.ntmps4
    go_wp2_with fail
    refine HS.out.mono ?_
    rintro e w1 ⟨rfl, b1⟩
    have HB1 := Lib.hid (HB0.out.trans (b1.mono HB0.out.size))
    clear b1 hw0
    go_wp2
    go_ret
    exact ⟨rfl, HB1.out⟩
end Go.Proofs.Ytlobloaabghceaa
