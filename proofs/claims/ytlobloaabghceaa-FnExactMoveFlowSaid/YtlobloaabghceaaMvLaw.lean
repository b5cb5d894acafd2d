/- The walk of a law: MoveFlow is the same on both sides. -/
import Derived.Test.YtlobloaabghceaaMvS
import Derived.Test.YtlobloaabghceaaFlowMk
import Derived.Deep.RegionWith
namespace Go.Proofs.Ytlobloaabghceaa
open Go.RowKit
set_option linter.unusedVariables false
set_option linter.unusedSimpArgs false

def MvC (ok : Bool) (D : List Int) (m : Nat) (G : List Int) (w : World) (r : Ending) (w' : World) : Prop := Below w.heap.size w w' ∧ ∃ a2 c2 a3 c3, r = .returned (.tuple #[.agg #[.slice a2 D.length c2, .slice a3 m c3], .bool ok]) ∧ Fl w' w.heap.size a2 D.length c2 D a3 m c3 G
theorem move_ex (ds : List Int) (wn : Nat) (F M : List Int) (h1 : ds.length ≤ 1048576) (h2 : wn ≤ 1048576) : ∃ (ok : Bool) (D : List Int) (m : Nat) (G : List Int), D.length ≤ 1048576 ∧ m ≤ 1048576 ∧ ∀ w r w', MfR ds wn F M w r w' → MvC ok D m G w r w' := by
  by_cases hc : CanMv ds wn F M
  · refine ⟨true, ds, wn, mvF M F wn, h1, h2, ?_⟩
    rintro w r w' ⟨b, va, vw, ok, rfl, hok, hy, -⟩
    obtain rfl : ok = true := hok.2 hc
    obtain ⟨hd, hr⟩ := hy rfl
    obtain ⟨a2, c2, rfl, -, -⟩ := hd.form
    obtain ⟨a3, c3, rfl, -, -⟩ := hr.form
    exact ⟨b, a2, c2, a3, c3, rfl, hd, rfl, hr⟩
  · refine ⟨false, [], 0, [], by simp, by simp, ?_⟩
    rintro w r w' ⟨b, va, vw, ok, rfl, hok, -, hn⟩
    obtain rfl : ok = false := by
      cases ok with
      | false => rfl
      | true => exact absurd (hok.1 rfl) hc
    obtain ⟨rfl, rfl⟩ := hn rfl
    exact ⟨b, none, 0, none, 0, rfl, Ints.nil _ _, rfl, ⟨rfl, World.ownsRow_nil _ _ _ _⟩⟩
def LwMvLaw (w0 W : World) : Prop := Below w0.heap.size w0 W
theorem LwMvLaw.dr {w W : World} (h : LwMvLaw w W) : LwMvLaw w W.drew := ⟨h.os, h.tape, h.output, h.size, h.block⟩
theorem LwMvLaw.call {w W W' : World} (h : LwMvLaw w W) (hb : Below W.heap.size W W') : LwMvLaw w W' := h.trans (hb.mono h.size)
set_option maxHeartbeats 3000000 in
set_option maxRecDepth 100000 in
theorem walk_FnExactMoveFlow (da : Option Addr) (dn dc : Nat) (ds : List Int) (wa : Option Addr) (wn wc : Nat) (F : List Int) (ma : Option Addr) (mn mc : Nat) (M : List Int) (w : World) (hd : dn = ds.length) (hda : ArgRow w da ds) (hdm : dn ≤ maxLen) (hn : F.length = wn * 3) (hr : ArgRow w wa F) (hm : wn ≤ maxLen) (hmd : mn = M.length) (hma : ArgRow w ma M) (hmm : mn ≤ maxLen) :
    Calls Try.prog 5 #[.agg #[.slice da dn dc, .slice wa wn wc], .slice ma mn mc] w fun e w' => e = .returned (.bool true) ∧ Below w.heap.size w w' := by
  unfold maxLen at hm hdm hmm
  by_cases hml : mn ≤ 1048576
  case neg =>
    have hlz : (1048576 : Int) < (mn : Int) := by omega
    clear hma hmd hr hda
    go_enter Try.func5, Try.ntmps5
    go_wp2
    go_ret
    exact ⟨rfl, (Below.refl _ _).alloc (Nat.le_refl _) _⟩
  have hmlz : ¬ (1048576 : Int) < (mn : Int) := by omega
  obtain ⟨w0, hw0⟩ : ∃ w0, w.alloc (.cells #[.slice da dn dc, .slice wa wn wc] 26) = w0 := ⟨_, rfl⟩
  have hb0 : Below w.heap.size w w0 := by rw [← hw0]; exact (Below.refl _ _).alloc (Nat.le_refl _) _
  have hs0 : w.heap.size < w0.heap.size := by rw [← hw0]; simp
  have c0 : w0.cell? ⟨w.heap.size, 0, none⟩ = some (.slice da dn dc) := by rw [← hw0]; simp [go_sem]
  have c1 : w0.cell? ⟨w.heap.size, 1, none⟩ = some (.slice wa wn wc) := by rw [← hw0]; simp [go_sem]
  have HC : Hid (∀ W, LwMvLaw w0 W → W.cell? ⟨w.heap.size, 0, none⟩ = some (.slice da dn dc) ∧ W.cell? ⟨w.heap.size, 1, none⟩ = some (.slice wa wn wc)) := fun W h => ⟨(h.cell (p := ⟨w.heap.size, 0, none⟩) hs0).trans c0, (h.cell (p := ⟨w.heap.size, 1, none⟩) hs0).trans c1⟩
  have HB0 := Lib.hid hb0
  have HR0 := Lib.hid (hr.keep hb0 (Nat.le_refl _))
  have HDA0 := Lib.hid (hda.keep hb0 (Nat.le_refl _))
  have HN := Lib.hid hn
  have HMA0 := Lib.hid (hma.keep hb0 (Nat.le_refl _))
  have HMD := Lib.hid hmd
  have HD := Lib.hid hd
  have HS := Lib.hid (szFlow_any da dn dc wa wn wc w0 (by omega) (by omega))
  clear hr hda hb0 hn hd hma hmd
  by_cases hl : dn + wn ≤ 1048576
  · have hif : szF dn wn = 1048576 - ((dn + wn : Nat) : Int) := by unfold szF; exact if_pos (by omega)
    have hdl : dn ≤ 1048576 := by omega
    have hwl : wn ≤ 1048576 := by omega
    obtain ⟨left, hleft⟩ : ∃ left, 1048576 - ((dn + wn : Nat) : Int) = left := ⟨_, rfl⟩
    have hl0 : ¬ left < 0 := by omega
    rw [hif, hleft] at HS
    clear hif hleft hl
    have HTD : Hid (∀ W, LwMvLaw w0 W → Calls Try.prog 11 #[.agg #[.slice da dn dc, .slice wa wn wc]] W fun e w' => ∃ a2 c2 b2 k2, e = .returned (.agg #[.slice a2 dn c2, .slice b2 wn k2]) ∧ Fl w' W.heap.size a2 dn c2 ds b2 wn k2 F ∧ Below W.heap.size W w') := fun W hW =>
      toFlow_any da dn dc ds wa wn wc F W HD.out (HDA0.out.keep hW (Nat.le_refl _)) hdl HN.out (HR0.out.keep hW (Nat.le_refl _)) hwl
    have HMT : Hid (∀ W, LwMvLaw w0 W → Calls Try.prog 12 #[.slice ma mn mc] W fun e w' => e = .returned (.slice (some ⟨W.heap.size, 0, none⟩) mn mn) ∧ Ints w' W.heap.size (.slice (some ⟨W.heap.size, 0, none⟩) mn mn) M ∧ Below W.heap.size W w') := fun W hW =>
      toInt64S_any ma mn mc M W HMD.out (HMA0.out.keep hW (Nat.le_refl _)) hml
    obtain ⟨ok, D, m, G, hD, hm9, HMX⟩ := move_ex ds wn F M (by have := HD.out; omega) hwl
    have HMX := Lib.hid HMX
    obtain ⟨Dn, hDn⟩ : ∃ n, D.length = n := ⟨_, rfl⟩
    have HDn := Lib.hid hDn.symm
    have HSP : Hid (∀ B a2 c2 b2 k2 xa w, Fl w B a2 dn c2 ds b2 wn k2 F → Ints w B (.slice xa mn mn) M → Calls Try.prog 16 #[.agg #[.slice a2 dn c2, .slice b2 wn k2], .slice xa mn mn] w fun r w' => Below w.heap.size w w' ∧ ∃ a c b k, r = .returned (.tuple #[.agg #[.slice a Dn c, .slice b m k], .bool ok]) ∧ Fl w' w.heap.size a Dn c D b m k G) := fun B a2 c2 b2 k2 xa w h1 h2 => by
      refine (specMove B a2 dn c2 ds b2 wn k2 F xa mn mn M w h1 h2 hdl hwl hml).mono fun r w' h => ?_
      have h3 := HMX.out w r w' h
      unfold MvC at h3
      rw [hDn] at h3
      exact h3
    have HIP : Hid (∀ B a2 c2 b2 k2 xa w, Fl w B a2 dn c2 ds b2 wn k2 F → Ints w B (.slice xa mn mn) M → Calls Try.prog 17 #[.agg #[.slice a2 dn c2, .slice b2 wn k2], .slice xa mn mn] w fun r w' => Below w.heap.size w w' ∧ ∃ a c b k, r = .returned (.tuple #[.agg #[.slice a Dn c, .slice b m k], .bool ok]) ∧ Fl w' w.heap.size a Dn c D b m k G) := fun B a2 c2 b2 k2 xa w h1 h2 => by
      refine (implMove B a2 dn c2 ds b2 wn k2 F xa mn mn M w h1 h2 hdl hwl hml).mono fun r w' h => ?_
      have h3 := HMX.out w r w' h
      unfold MvC at h3
      rw [hDn] at h3
      exact h3
    rw [hDn] at hD
    clear HMX hDn
    go_enter Try.func5, Try.ntmps5
    go_wp2_with fail
    refine HS.out.mono ?_
    rintro e w1 ⟨rfl, b1⟩
    have L1 : Hid (LwMvLaw w0 w1) := b1
    clear b1 hw0 c0 c1
    obtain ⟨c0, c1⟩ := HC.out w1 L1.out
    go_wp2_with fail
    refine (HTD.out w1 L1.out).mono ?_
    rintro e w2 ⟨a2, c2, b2, k2, rfl, r2, bb2⟩
    have L2 := Lib.hid (L1.out.call bb2)
    have HF2 := Lib.hid r2
    have HB22 := Lib.hid bb2
    clear bb2 r2 c0 c1
    go_wp2_with fail
    refine (HMT.out w2 L2.out).mono ?_
    rintro e w2' ⟨rfl, im2, bm2⟩
    have hz22 : w1.heap.size ≤ w2.heap.size := HB22.out.size
    have HSPC := Lib.hid (HSP.out w1.heap.size a2 c2 b2 k2 _ w2' (HF2.out.keep bm2 (Nat.le_refl _)) (ints_low im2 hz22))
    have L2' := Lib.hid (L2.out.call bm2)
    clear im2 bm2
    go_wp2_with fail
    refine HSPC.out.mono ?_
    rintro e w3 ⟨b3, a6, c6, b6, k6, rfl, f6⟩
    obtain ⟨w3b, hw3b⟩ : ∃ W, w3.alloc (.cells #[.slice a6 Dn c6, .slice b6 m k6] 31) = W := ⟨_, rfl⟩
    have hbw3b : Below w3.heap.size w3 w3b := by rw [← hw3b]; exact (Below.refl _ _).alloc (Nat.le_refl _) _
    have hsw3b : w3.heap.size < w3b.heap.size := by rw [← hw3b]; simp
    have p06 : w3b.cell? ⟨w3.heap.size, 0, none⟩ = some (.slice a6 Dn c6) := by rw [← hw3b]; simp [go_sem]
    have p16 : w3b.cell? ⟨w3.heap.size, 1, none⟩ = some (.slice b6 m k6) := by rw [← hw3b]; simp [go_sem]
    have L3 := Lib.hid ((L2'.out.call b3).call hbw3b)
    have HF6 := Lib.hid (f6.keep hbw3b (Nat.le_refl _))
    have HX6 : Hid (∀ W, LwMvLaw w3b W → W.cell? ⟨w3.heap.size, 0, none⟩ = some (.slice a6 Dn c6) ∧ W.cell? ⟨w3.heap.size, 1, none⟩ = some (.slice b6 m k6)) := fun W h => ⟨(h.cell (p := ⟨w3.heap.size, 0, none⟩) (show w3.heap.size < w3b.heap.size by omega)).trans p06, (h.cell (p := ⟨w3.heap.size, 1, none⟩) (show w3.heap.size < w3b.heap.size by omega)).trans p16⟩
    have hlow6 : w2'.heap.size ≤ w3.heap.size := b3.size
    clear b3 f6 hbw3b
    obtain ⟨c0, c1⟩ := HC.out w3b L3.out
    go_wp2_with fail
    refine (HTD.out w3b L3.out).mono ?_
    clear hw3b p06 p16
    rintro e w4 ⟨a4, c4, b4, k4, rfl, r4, bb4⟩
    obtain ⟨w5, hw5⟩ : ∃ W, w4.alloc (.cells #[.slice a4 dn c4, .slice b4 wn k4] 31) = W := ⟨_, rfl⟩
    have hbw5 : Below w4.heap.size w4 w5 := by rw [← hw5]; exact (Below.refl _ _).alloc (Nat.le_refl _) _
    have hsw5 : w4.heap.size < w5.heap.size := by rw [← hw5]; simp
    have p08 : w5.cell? ⟨w4.heap.size, 0, none⟩ = some (.slice a4 dn c4) := by rw [← hw5]; simp [go_sem]
    have p18 : w5.cell? ⟨w4.heap.size, 1, none⟩ = some (.slice b4 wn k4) := by rw [← hw5]; simp [go_sem]
    have L5 := Lib.hid ((L3.out.call bb4).call hbw5)
    have HF5 := Lib.hid (r4.keep hbw5 (Nat.le_refl _))
    have X65 : Hid (LwMvLaw w3b w5) := bb4.trans (hbw5.mono bb4.size)
    have hz34 : w3b.heap.size ≤ w4.heap.size := bb4.size
    have HX8 : Hid (∀ W, LwMvLaw w5 W → W.cell? ⟨w4.heap.size, 0, none⟩ = some (.slice a4 dn c4) ∧ W.cell? ⟨w4.heap.size, 1, none⟩ = some (.slice b4 wn k4)) := fun W h => ⟨(h.cell (p := ⟨w4.heap.size, 0, none⟩) (show w4.heap.size < w5.heap.size by omega)).trans p08, (h.cell (p := ⟨w4.heap.size, 1, none⟩) (show w4.heap.size < w5.heap.size by omega)).trans p18⟩
    clear bb4 r4 hbw5 c0 c1
    go_wp2_with fail
    clear hw5
    refine (HMT.out w5 L5.out).mono ?_
    rintro e w5' ⟨rfl, im5, bm5⟩
    have HI5 := Lib.hid (ints_low im5 (show w3b.heap.size ≤ w5.heap.size by omega))
    have HF5' := Lib.hid (HF5.out.keep bm5 (Nat.le_refl _))
    have L5' := Lib.hid (L5.out.call bm5)
    have X85 : Hid (LwMvLaw w5 w5') := bm5
    have X65' := Lib.hid (X65.out.call bm5)
    have hz55 : w5.heap.size ≤ w5'.heap.size := bm5.size
    obtain ⟨z0, z1⟩ := HX8.out w5' X85.out
    have HNI : Hid (w5.heap.size < w5'.heap.size) := (World.ownsRow.lt im5 w5.heap.size rfl).2
    have HN1 : Hid (∀ g, (Value.slice a4 dn c4).ownBlock = some g → g < w5.heap.size) := fun g e => (World.ownsRow.lt HF5.out.d g e).2
    have HN2 : Hid (∀ g, (Value.slice b4 wn k4).ownBlock = some g → g < w5.heap.size) := fun g e => (World.ownsRow.lt HF5.out.r.2 g e).2
    clear im5 bm5 p08 p18
    go_wp2_with fail
    refine (HIP.out w3b.heap.size a4 c4 b4 k4 _ w5' HF5'.out HI5.out).mono ?_
    rintro e w6 ⟨b6', a10, c10, b10, k10, rfl, f10⟩
    obtain ⟨w7, hw7⟩ : ∃ W, w6.alloc (.cells #[.slice a10 Dn c10, .slice b10 m k10] 31) = W := ⟨_, rfl⟩
    have hbw7 : Below w6.heap.size w6 w7 := by rw [← hw7]; exact (Below.refl _ _).alloc (Nat.le_refl _) _
    have hsw7 : w6.heap.size < w7.heap.size := by rw [← hw7]; simp
    have p010 : w7.cell? ⟨w6.heap.size, 0, none⟩ = some (.slice a10 Dn c10) := by rw [← hw7]; simp [go_sem]
    have p110 : w7.cell? ⟨w6.heap.size, 1, none⟩ = some (.slice b10 m k10) := by rw [← hw7]; simp [go_sem]
    have L7 := Lib.hid ((L5'.out.call b6').call hbw7)
    have X87 := Lib.hid ((X85.out.call b6').call hbw7)
    have X67 := Lib.hid ((X65'.out.call b6').call hbw7)
    have HF7 := Lib.hid ((HF5'.out.keep b6' (Nat.le_refl _)).keep hbw7 (Nat.le_refl _))
    have HI7 := Lib.hid ((HI5.out.keep b6' (Nat.le_refl _)).keep hbw7 (Nat.le_refl _))
    have HT7 := Lib.hid (f10.keep hbw7 (Nat.le_refl _))
    have hz66 : w5'.heap.size ≤ w6.heap.size := b6'.size
    have HX10 : Hid (∀ W, LwMvLaw w7 W → W.cell? ⟨w6.heap.size, 0, none⟩ = some (.slice a10 Dn c10) ∧ W.cell? ⟨w6.heap.size, 1, none⟩ = some (.slice b10 m k10)) := fun W h => ⟨(h.cell (p := ⟨w6.heap.size, 0, none⟩) (show w6.heap.size < w7.heap.size by omega)).trans p010, (h.cell (p := ⟨w6.heap.size, 1, none⟩) (show w6.heap.size < w7.heap.size by omega)).trans p110⟩
    have HP07 := Lib.hid p010
    have HP17 := Lib.hid p110
    obtain ⟨u0, u1⟩ := HX6.out w7 X67.out
    have HM1 : Hid (∀ g, (Value.slice a10 Dn c10).ownBlock = some g → w5'.heap.size ≤ g ∧ g < w6.heap.size) := fun g e => World.ownsRow.lt f10.d g e
    have HM2 : Hid (∀ g, (Value.slice b10 m k10).ownBlock = some g → w5'.heap.size ≤ g ∧ g < w6.heap.size) := fun g e => World.ownsRow.lt f10.r.2 g e
    have hz03 : w0.heap.size ≤ w3b.heap.size := L3.out.size
    clear b6' f10 hbw7 z0 z1
    go_wp2_with fail
    clear hw7
    refine (eqFlow_same w5'.heap.size w2'.heap.size a10 a6 Dn c10 Dn c6 D b10 b6 m k10 k6 G w7 HT7.out (HF6.out.keep X67.out (Nat.le_refl _))).mono ?_
    rintro e w8 ⟨rfl, b8⟩
    have L8 := Lib.hid (L7.out.call b8)
    have X88 := Lib.hid (X87.out.call b8)
    have X68 := Lib.hid (X67.out.call b8)
    have X108 : Hid (LwMvLaw w7 w8) := b8
    have HF8 := Lib.hid (HF7.out.keep b8 (Nat.le_refl _))
    clear b8 p010 p110 u0 u1
    obtain ⟨c0, c1⟩ := HC.out w8 L8.out
    obtain ⟨x0, x1⟩ := HX8.out w8 X88.out
    have HTD8 := Lib.hid (HTD.out w8.drew L8.out.dr)
    have hok1 : (ok != ok) = false := by cases ok <;> rfl
    have hok2 : (ok == ok) = true := by cases ok <;> rfl
    focus
      go_wp2
      go_region_with (first | (go_at_call 11; refine HTD8.out.mono ?_; rintro e w9 ⟨a9, c9, b9, k9, rfl, i9, b9'⟩; have HI9 := Lib.hid i9; have HB9 := Lib.hid b9'; obtain ⟨y0, y1⟩ := HX8.out w9 (X88.out.call ((Below.refl w8.heap.size w8).drew.trans b9')); clear i9 b9') | (go_at_call 14; refine (eqFlow_same _ _ _ _ _ _ _ _ ds _ _ wn _ _ F _ ((HF8.out.keep (show Below w8.heap.size w8 _ from (Below.refl _ _).drew) (Nat.le_refl _)).keep HB9.out (Nat.le_refl _)) HI9.out).mono ?_; rintro e wA ⟨rfl, bA⟩; have HBA := Lib.hid bA; clear bA))
      all_goals
        have HDA : Hid (Below w8.heap.size w8 wA) := ((Below.refl w8.heap.size w8).drew.trans HB9.out).trans (HBA.out.mono HB9.out.size)
        have LA := Lib.hid (L8.out.call HDA.out)
        have X8A := Lib.hid (X88.out.call HDA.out)
        have X6A := Lib.hid (X68.out.call HDA.out)
        have X10A := Lib.hid (X108.out.call HDA.out)
        clear HB9 HBA HI9 HTD8 HDA c0 c1 x0 x1
        go_wp2_with fail
        refine (HMT.out _ LA.out).mono ?_
        rintro e wB ⟨rfl, imB, bmB⟩
        have HIB := Lib.hid imB
        have LB := Lib.hid (LA.out.call bmB)
        have X8B := Lib.hid (X8A.out.call bmB)
        have X6B := Lib.hid (X6A.out.call bmB)
        have X10B := Lib.hid (X10A.out.call bmB)
        clear imB bmB
        go_wp2_with fail
        refine (eqInts_same _ _ _ _ M wB (HI7.out.keep X10B.out (Nat.le_refl _)) HIB.out).mono ?_
        rintro e w' ⟨rfl, qB, rfl⟩
        have hdq : Below wB.heap.size wB (wB.drewN qB) := ⟨rfl, rfl, rfl, Nat.le_refl _, fun _ _ => rfl⟩
        have LC := Lib.hid (LB.out.call hdq)
        have X8C := Lib.hid (X8B.out.call hdq)
        have X6C := Lib.hid (X6B.out.call hdq)
        have X10C := Lib.hid (X10B.out.call hdq)
        obtain ⟨wC, hwC⟩ : ∃ wC, wB.drewN qB = wC := ⟨_, rfl⟩
        rw [hwC] at LC X8C X6C X10C ⊢
        clear hwC hdq HIB LA LB X8A X8B X6A X6B X10A X10B
        obtain ⟨x0, x1⟩ := HX8.out wC X8C.out
        have HFC := Lib.hid (HF7.out.keep X10C.out (Nat.le_refl _))
        have HIC := Lib.hid (HI7.out.keep X10C.out (Nat.le_refl _))
        have HTC := Lib.hid (HT7.out.keep X10C.out (Nat.le_refl _))
        have hz7C : w7.heap.size ≤ wC.heap.size := X10C.out.size
        obtain ⟨y0, y1⟩ := HX10.out wC X10C.out
        obtain ⟨cq, hcq⟩ : ∃ c : Int, 1 + (dn : Int) + ((wn * 3 : Nat) : Int) = c := ⟨_, rfl⟩
        have HMK8 := Lib.hid (markFlow_any w3b.heap.size a4 dn c4 ds b4 wn k4 F wC HFC.out hdl hwl (by omega))
        rw [hcq] at HMK8
        have hq0 : 0 ≤ cq := by omega
        have hq1 : cq ≤ 10000000 := by omega
        obtain ⟨dq, hdq⟩ : ∃ c : Int, 1 + (Dn : Int) + ((m * 3 : Nat) : Int) = c := ⟨_, rfl⟩
        have HMK10 : Hid (∀ w, Fl w w5'.heap.size a10 Dn c10 D b10 m k10 G → w5'.heap.size ≤ w.heap.size → Calls Try.prog 18 #[.agg #[.slice a10 Dn c10, .slice b10 m k10], .int .i64 1] w fun e w' => e = .returned (.int .i64 (1 + (Dn : Int) + ((m * 3 : Nat) : Int))) ∧ Fl w' w5'.heap.size a10 Dn c10 (seqL 1 Dn) b10 m k10 (seqL (1 + (Dn : Int)) (m * 3)) ∧ Below w5'.heap.size w w' ∧ w.heap.size ≤ w'.heap.size ∧ But2 w w' (Value.slice a10 Dn c10).ownBlock (Value.slice b10 m k10).ownBlock) := fun w h1 h2 => markFlow_any w5'.heap.size a10 Dn c10 D b10 m k10 G w h1 hD hm9 h2
        have HHG : Hid (∀ w, Fl w w5'.heap.size a10 Dn c10 (seqL 1 Dn) b10 m k10 (seqL (1 + (Dn : Int)) (m * 3)) → Calls Try.prog 20 #[.agg #[.slice a10 Dn c10, .slice b10 m k10], .int .i64 1] w fun e w' => e = .returned (.int .i64 (1 + (Dn : Int) + ((m * 3 : Nat) : Int))) ∧ Below w.heap.size w w') := fun w h1 => heldFlow_any w5'.heap.size a10 Dn c10 b10 m k10 w h1 hD hm9
        rw [hdq] at HMK10 HHG
        have hdq0 : ¬ dq < 0 := by omega
        clear hcq hdq
        go_wp2_with fail
        refine HMK8.out.mono ?_
        rintro e wD ⟨rfl, fD, bD, zD, gD⟩
        have hni := HNI.out
        have hne : ∀ k, w5.heap.size ≤ k → some k ≠ (Value.slice a4 dn c4).ownBlock ∧ some k ≠ (Value.slice b4 wn k4).ownBlock := fun k hk => ⟨fun e => by have := HN1.out k e.symm; omega, fun e => by have := HN2.out k e.symm; omega⟩
        have hna : ∀ r : Option Nat, (∀ g, r = some g → g < w5'.heap.size) → (Value.slice a10 Dn c10).ownBlock = none ∨ (Value.slice a10 Dn c10).ownBlock ≠ r := fun r hr => by
          cases e1 : (Value.slice a10 Dn c10).ownBlock with
          | none => exact .inl rfl
          | some g1 => exact .inr (fun e => by have h1 := hr g1 e.symm; have h2 := (HM1.out g1 e1).1; omega)
        have hnb : ∀ r : Option Nat, (∀ g, r = some g → g < w5'.heap.size) → (Value.slice b10 m k10).ownBlock = none ∨ (Value.slice b10 m k10).ownBlock ≠ r := fun r hr => by
          cases e1 : (Value.slice b10 m k10).ownBlock with
          | none => exact .inl rfl
          | some g1 => exact .inr (fun e => by have h1 := hr g1 e.symm; have h2 := (HM2.out g1 e1).1; omega)
        have r1 : ∀ g, (Value.slice a4 dn c4).ownBlock = some g → g < w5'.heap.size := fun g e => by have := HN1.out g e; omega
        have r2 : ∀ g, (Value.slice b4 wn k4).ownBlock = some g → g < w5'.heap.size := fun g e => by have := HN2.out g e; omega
        have r3 : ∀ g, (Value.slice (some ⟨w5.heap.size, 0, none⟩) mn mn).ownBlock = some g → g < w5'.heap.size := fun g e => by
          have : w5.heap.size = g := by injection e
          omega
        have LD := Lib.hid (show LwMvLaw w0 wD from Below.trans LC.out (bD.mono hz03))
        have X6D := Lib.hid (show LwMvLaw w3b wD from Below.trans X6C.out bD)
        have HTD' : Hid (Fl wD w5'.heap.size a10 Dn c10 D b10 m k10 G) := ⟨gD.row HTC.out.d (hna _ r1) (hna _ r2), HTC.out.n, ⟨HTC.out.r.1, gD.row HTC.out.r.2 (hnb _ r1) (hnb _ r2)⟩⟩
        have HID : Hid (Ints wD w3b.heap.size (.slice (some ⟨w5.heap.size, 0, none⟩) mn mn) M) := gD.row HIC.out (.inr (hne w5.heap.size (Nat.le_refl _)).1) (.inr (hne w5.heap.size (Nat.le_refl _)).2)
        have v0 := gD.cell y0 (hne w6.heap.size (by omega)).1 (hne w6.heap.size (by omega)).2
        have v1 := gD.cell y1 (hne w6.heap.size (by omega)).1 (hne w6.heap.size (by omega)).2
        have hMl : M.length ≤ 1048576 := by have := HMD.out; omega
        have hw65 : some w6.heap.size ≠ (Value.slice (some ⟨w5.heap.size, 0, none⟩) mn mn).ownBlock := fun e => by
          have : w6.heap.size = w5.heap.size := by injection e
          omega
        have HAFT : Hid (∀ wE, wD.grownBy wE (Value.slice (some ⟨w5.heap.size, 0, none⟩) mn mn).ownBlock → Fl wE w5'.heap.size a10 Dn c10 D b10 m k10 G ∧ wE.cell? ⟨w6.heap.size, 0, none⟩ = some (.slice a10 Dn c10) ∧ wE.cell? ⟨w6.heap.size, 1, none⟩ = some (.slice b10 m k10)) := fun wE gE =>
          ⟨⟨World.ownsRow.kept HTD'.out.d gE (hna _ r3), HTD'.out.n, ⟨HTD'.out.r.1, World.ownsRow.kept HTD'.out.r.2 gE (hnb _ r3)⟩⟩, gE.cell v0 hw65, gE.cell v1 hw65⟩
        clear hne hna hnb r1 r2 r3 hni v0 v1 hw65 HTD'
        clear fD bD gD x0 x1 y0 y1 HTC HIC HFC LC X6C X8C X10C
        go_wp2_with fail
        refine (markIntsG w3b.heap.size _ M cq wD HID.out hq0 (by omega)).mono ?_
        rintro e wE ⟨rfl, -, bE, zE, gE⟩
        have LE := Lib.hid (show LwMvLaw w0 wE from Below.trans LD.out (bE.mono hz03))
        have X6E := Lib.hid (show LwMvLaw w3b wE from Below.trans X6D.out bE)
        obtain ⟨hte, y0, y1⟩ := HAFT.out wE gE
        have HTE := Lib.hid hte
        clear hte
        have hzE : w7.heap.size ≤ wE.heap.size := by omega
        have hltE : ¬ (cq + (M.length : Int)) < 0 := by omega
        obtain ⟨u0, u1⟩ := HX6.out wE X6E.out
        have HXE : Hid (∀ W, LwMvLaw wE W → W.cell? ⟨w6.heap.size, 0, none⟩ = some (.slice a10 Dn c10) ∧ W.cell? ⟨w6.heap.size, 1, none⟩ = some (.slice b10 m k10)) := fun W h => ⟨(h.cell (p := ⟨w6.heap.size, 0, none⟩) (show w6.heap.size < wE.heap.size by omega)).trans y0, (h.cell (p := ⟨w6.heap.size, 1, none⟩) (show w6.heap.size < wE.heap.size by omega)).trans y1⟩
        clear bE zE gE HID
        go_wp2_with fail
        refine (eqFlow_same w5'.heap.size w2'.heap.size a10 a6 Dn c10 Dn c6 D b10 b6 m k10 k6 G wE HTE.out (HF6.out.keep X6E.out (Nat.le_refl _))).mono ?_
        rintro e wF ⟨rfl, bF⟩
        have LF := Lib.hid (LE.out.call bF)
        have X6F := Lib.hid (X6E.out.call bF)
        have HTF := Lib.hid (HTE.out.keep bF (Nat.le_refl _))
        have hzF : w7.heap.size ≤ wF.heap.size := by have := bF.size; omega
        obtain ⟨y0', y1'⟩ := HXE.out wF bF
        clear bF y0 y1 u0 u1 HTE
        go_wp2_with fail
        refine (HMK10.out wF HTF.out (by omega)).mono ?_
        rintro e wG ⟨rfl, fG, bG, zG, gG⟩
        have LG := Lib.hid (show LwMvLaw w0 wG from Below.trans LF.out (bG.mono (by omega)))
        have X6G := Lib.hid (show LwMvLaw w3b wG from Below.trans X6F.out (bG.mono (by omega)))
        have HFG := Lib.hid fG
        have n1 : some w6.heap.size ≠ (Value.slice a10 Dn c10).ownBlock := fun e => by have := (HM1.out _ e.symm).2; omega
        have n2 : some w6.heap.size ≠ (Value.slice b10 m k10).ownBlock := fun e => by have := (HM2.out _ e.symm).2; omega
        have v0 := gG.cell y0' n1 n2
        have v1 := gG.cell y1' n1 n2
        have hzG : w7.heap.size ≤ wG.heap.size := by omega
        have HXG : Hid (∀ W, LwMvLaw wG W → W.cell? ⟨w6.heap.size, 0, none⟩ = some (.slice a10 Dn c10) ∧ W.cell? ⟨w6.heap.size, 1, none⟩ = some (.slice b10 m k10)) := fun W h => ⟨(h.cell (p := ⟨w6.heap.size, 0, none⟩) (show w6.heap.size < wG.heap.size by omega)).trans v0, (h.cell (p := ⟨w6.heap.size, 1, none⟩) (show w6.heap.size < wG.heap.size by omega)).trans v1⟩
        clear fG bG zG gG y0' y1' n1 n2
        go_wp2_with fail
        refine (HHG.out wG HFG.out).mono ?_
        rintro e wH ⟨rfl, bH⟩
        have LH := Lib.hid (LG.out.call bH)
        have X6H := Lib.hid (X6G.out.call bH)
        have XGH : Hid (LwMvLaw wG wH) := bH
        clear bH v0 v1
        obtain ⟨c0, c1⟩ := HC.out wH LH.out
        go_wp2_with fail
        refine (HTD.out wH LH.out).mono ?_
        rintro e wI ⟨aI, cI, bI', kI, rfl, rI, bbI⟩
        have LI := Lib.hid (LH.out.call bbI)
        have X6I := Lib.hid (X6H.out.call bbI)
        have XGI := Lib.hid (XGH.out.call bbI)
        have HFI := Lib.hid rI
        have hzHI : wH.heap.size ≤ wI.heap.size := bbI.size
        clear rI bbI c0 c1
        go_wp2_with fail
        refine (HMT.out wI LI.out).mono ?_
        rintro e wJ ⟨rfl, imJ, bmJ⟩
        have HIPJ := Lib.hid (HIP.out wH.heap.size aI cI bI' kI _ wJ (HFI.out.keep bmJ (Nat.le_refl _)) (ints_low imJ hzHI))
        have LJ := Lib.hid (LI.out.call bmJ)
        have X6J := Lib.hid (X6I.out.call bmJ)
        have XGJ := Lib.hid (XGI.out.call bmJ)
        clear imJ bmJ
        go_wp2_with fail
        refine HIPJ.out.mono ?_
        rintro e wK ⟨bK, aK, cK, bK', kK, rfl, fK⟩
        obtain ⟨wL, hwL⟩ : ∃ W, wK.alloc (.cells #[.slice aK Dn cK, .slice bK' m kK] 31) = W := ⟨_, rfl⟩
        have hbwL : Below wK.heap.size wK wL := by rw [← hwL]; exact (Below.refl _ _).alloc (Nat.le_refl _) _
        have hswL : wK.heap.size < wL.heap.size := by rw [← hwL]; simp
        have p0L : wL.cell? ⟨wK.heap.size, 0, none⟩ = some (.slice aK Dn cK) := by rw [← hwL]; simp [go_sem]
        have p1L : wL.cell? ⟨wK.heap.size, 1, none⟩ = some (.slice bK' m kK) := by rw [← hwL]; simp [go_sem]
        have X6L := Lib.hid ((X6J.out.call bK).call hbwL)
        have LL := Lib.hid ((LJ.out.call bK).call hbwL)
        have XGL := Lib.hid ((XGJ.out.call bK).call hbwL)
        have HFL := Lib.hid (fK.keep hbwL (Nat.le_refl _))
        obtain ⟨u0, u1⟩ := HX6.out wL X6L.out
        clear bK fK hbwL
        go_wp2_with fail
        clear hwL
        refine (eqFlow_same wJ.heap.size w2'.heap.size aK a6 Dn cK Dn c6 D bK' b6 m kK k6 G wL HFL.out (HF6.out.keep X6L.out (Nat.le_refl _))).mono ?_
        rintro e wM ⟨rfl, bM⟩
        have LM := Lib.hid (LL.out.call bM)
        have XGM := Lib.hid (XGL.out.call bM)
        clear bM u0 u1 p0L p1L
        obtain ⟨y0, y1⟩ := HXG.out wM XGM.out
        go_wp2_with fail
        refine (HHG.out wM (HFG.out.keep XGM.out (Nat.le_refl _))).mono ?_
        rintro e wN ⟨rfl, bN⟩
        have LN := Lib.hid (LM.out.call bN)
        clear bN y0 y1
        go_wp2
        go_ret
        have h9 := HB0.out.trans (LN.out.mono HB0.out.size)
        exact ⟨rfl, h9.os, h9.tape, h9.output, h9.size, h9.block⟩
  · have hif : szF dn wn = -1 := by unfold szF; exact if_neg (by omega)
    rw [hif] at HS
    clear hif
    go_enter Try.func5, Try.ntmps5
    go_wp2_with fail
    refine HS.out.mono ?_
    rintro e w1 ⟨rfl, b1⟩
    have HB1 := Lib.hid (HB0.out.trans (b1.mono HB0.out.size))
    clear b1 hw0
    go_wp2
    go_ret
    exact ⟨rfl, HB1.out⟩
end Go.Proofs.Ytlobloaabghceaa
