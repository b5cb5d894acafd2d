/- The walk of a law: FlowText is the same on both sides. -/
import Derived.Test.YtmhkeiccemfpeaaDoorFTs
import Derived.Test.YtmhkeiccemfpeaaDoorFTi
import Derived.Test.YtmhkeiccemfpeaaDoorFlow2
import Derived.Deep.RegionWith
namespace Go.Proofs.YtmhkeiccemfpeaaDoor
open Go.RowKit
set_option linter.unusedVariables false
set_option linter.unusedSimpArgs false

def LwFTLaw (w0 W : World) : Prop := Below w0.heap.size w0 W
theorem LwFTLaw.dr {w W : World} (h : LwFTLaw w W) : LwFTLaw w W.drew := ⟨h.os, h.tape, h.output, h.size, h.block⟩
theorem LwFTLaw.call {w W W' : World} (h : LwFTLaw w W) (hb : Below W.heap.size W W') : LwFTLaw w W' := h.trans (hb.mono h.size)
set_option maxHeartbeats 8000000 in
set_option maxRecDepth 100000 in
theorem walk_FnExactFlowText (da : Option Addr) (dn dc : Nat) (ds : List Int) (wa : Option Addr) (wn wc : Nat) (F : List Int) (w : World) (hd : dn = ds.length) (hda : ArgRow w da ds) (hdm : dn ≤ maxLen) (hn : F.length = wn * 3) (hr : ArgRow w wa F) (hm : wn ≤ maxLen) (hdw : DoorW w) :
    Calls Tryd.prog 3 #[.agg #[.slice da dn dc, .slice wa wn wc]] w fun e w' => e = .returned (.bool true) ∧ Below w.heap.size w w' := by
  unfold maxLen at hm hdm
  have HDW := Lib.hid hdw
  clear hdw
  obtain ⟨w0, hw0⟩ : ∃ w0, w.alloc (.cells #[.slice da dn dc, .slice wa wn wc] 25) = w0 := ⟨_, rfl⟩
  have hb0 : Below w.heap.size w w0 := by rw [← hw0]; exact (Below.refl _ _).alloc (Nat.le_refl _) _
  have hs0 : w.heap.size < w0.heap.size := by rw [← hw0]; simp
  have c0 : w0.cell? ⟨w.heap.size, 0, none⟩ = some (.slice da dn dc) := by rw [← hw0]; simp [go_sem]
  have c1 : w0.cell? ⟨w.heap.size, 1, none⟩ = some (.slice wa wn wc) := by rw [← hw0]; simp [go_sem]
  have HC : Hid (∀ W, LwFTLaw w0 W → W.cell? ⟨w.heap.size, 0, none⟩ = some (.slice da dn dc) ∧ W.cell? ⟨w.heap.size, 1, none⟩ = some (.slice wa wn wc)) := fun W h => ⟨(h.cell (p := ⟨w.heap.size, 0, none⟩) hs0).trans c0, (h.cell (p := ⟨w.heap.size, 1, none⟩) hs0).trans c1⟩
  have HB0 := Lib.hid hb0
  have HR0 := Lib.hid (hr.keep hb0 (Nat.le_refl _))
  have HDA0 := Lib.hid (hda.keep hb0 (Nat.le_refl _))
  have HN := Lib.hid hn
  have HD := Lib.hid hd
  have HS := Lib.hid (szFlow_any da dn dc wa wn wc w0 (by omega) (by omega))
  clear hr hda hb0 hn hd
  by_cases hl : dn + wn ≤ 1048576
  · have hif : szF dn wn = 1048576 - ((dn + wn : Nat) : Int) := by unfold szF; exact if_pos (by omega)
    have hdl : dn ≤ 1048576 := by omega
    have hwl : wn ≤ 1048576 := by omega
    obtain ⟨left, hleft⟩ : ∃ left, 1048576 - ((dn + wn : Nat) : Int) = left := ⟨_, rfl⟩
    have hl0 : ¬ left < 0 := by omega
    rw [hif, hleft] at HS
    clear hif hleft hl
    have HTD : Hid (∀ W, LwFTLaw w0 W → Calls Tryd.prog 6 #[.agg #[.slice da dn dc, .slice wa wn wc]] W fun e w' => ∃ a2 c2 b2 k2, e = .returned (.agg #[.slice a2 dn c2, .slice b2 wn k2]) ∧ Fl w' W.heap.size a2 dn c2 ds b2 wn k2 F ∧ Below W.heap.size W w') := fun W hW =>
      toFlow_any da dn dc ds wa wn wc F W HD.out (HDA0.out.keep hW (Nat.le_refl _)) hdl HN.out (HR0.out.keep hW (Nat.le_refl _)) hwl
    have HCON : ∃ rs rc, (∀ B a c b k W, Fl W B a dn c ds b wn k F → DoorW W → Calls Tryd.prog 5 #[.agg #[.slice a dn c, .slice b wn k]] W fun r w' => r = .returned (.tuple #[.string rs, .bool rc]) ∧ Below W.heap.size W w') ∧ (∀ B a c b k W, Fl W B a dn c ds b wn k F → DoorW W → Calls Tryd.prog 7 #[.agg #[.slice a dn c, .slice b wn k]] W fun r w' => r = .returned (.tuple #[.string rs, .bool rc]) ∧ Below W.heap.size W w') := by
      by_cases hv : FlowOk ds wn F
      · exact ⟨_, _, fun B a c b k W h hd => specFT_t B a dn c ds b wn k F W h hdl hwl hv hd, fun B a c b k W h hd => implFT_t B a dn c ds b wn k F W h hdl hwl hv hd⟩
      · exact ⟨_, _, fun B a c b k W h hd => specFT_f B a dn c ds b wn k F W h hdl hwl hv, fun B a c b k W h hd => implFT_f B a dn c ds b wn k F W h hdl hwl hv⟩
    obtain ⟨rs, rc, hsp, him⟩ := HCON
    have HSP := Lib.hid hsp
    have HIM := Lib.hid him
    clear hsp him
    go_enter Tryd.func3, Tryd.ntmps3
    go_wp2_with fail
    refine HS.out.mono ?_
    rintro e w1 ⟨rfl, b1⟩
    have L1 : Hid (LwFTLaw w0 w1) := b1
    clear b1 hw0 c0 c1
    obtain ⟨c0, c1⟩ := HC.out w1 L1.out
    go_wp2_with fail
    refine (HTD.out w1 L1.out).mono ?_
    rintro e w2 ⟨a2, c2, b2, k2, rfl, r2, bb2⟩
    have L2 := Lib.hid (L1.out.call bb2)
    have HF2 := Lib.hid r2
    clear bb2 r2 c0 c1
    go_wp2_with fail
    refine (HSP.out _ a2 c2 b2 k2 w2 HF2.out (HDW.out.on (HB0.out.trans (L2.out.mono HB0.out.size)))).mono ?_
    rintro e w3 ⟨rfl, b3⟩
    have L3 := Lib.hid (L2.out.call b3)
    clear b3
    obtain ⟨c0, c1⟩ := HC.out w3 L3.out
    go_wp2_with fail
    refine (HTD.out w3 L3.out).mono ?_
    rintro e w4 ⟨a4, c4, b4, k4, rfl, r4, bb4⟩
    have L4 := Lib.hid (L3.out.call bb4)
    obtain ⟨w5, hw5⟩ : ∃ w5, w4.alloc (.cells #[.slice a4 dn c4, .slice b4 wn k4] 31) = w5 := ⟨_, rfl⟩
    have hb5 : Below w4.heap.size w4 w5 := by rw [← hw5]; exact (Below.refl _ _).alloc (Nat.le_refl _) _
    have hs5 : w4.heap.size < w5.heap.size := by rw [← hw5]; simp
    have p0 : w5.cell? ⟨w4.heap.size, 0, none⟩ = some (.slice a4 dn c4) := by rw [← hw5]; simp [go_sem]
    have p1 : w5.cell? ⟨w4.heap.size, 1, none⟩ = some (.slice b4 wn k4) := by rw [← hw5]; simp [go_sem]
    have HX : Hid (∀ W, LwFTLaw w5 W → W.cell? ⟨w4.heap.size, 0, none⟩ = some (.slice a4 dn c4) ∧ W.cell? ⟨w4.heap.size, 1, none⟩ = some (.slice b4 wn k4)) := fun W h => ⟨(h.cell (p := ⟨w4.heap.size, 0, none⟩) hs5).trans p0, (h.cell (p := ⟨w4.heap.size, 1, none⟩) hs5).trans p1⟩
    have HF5 := Lib.hid (r4.keep hb5 (Nat.le_refl _))
    have L5 := Lib.hid (L4.out.call hb5)
    clear bb4 r4 hb5 c0 c1
    go_wp2_with fail
    clear hw5
    refine (HIM.out _ a4 c4 b4 k4 w5 HF5.out (HDW.out.on (HB0.out.trans (L5.out.mono HB0.out.size)))).mono ?_
    rintro e w6 ⟨rfl, b6⟩
    have L6 := Lib.hid (L5.out.call b6)
    have X6 : Hid (LwFTLaw w5 w6) := b6
    have HF6 := Lib.hid (HF5.out.keep b6 (Nat.le_refl _))
    clear b6 p0 p1
    obtain ⟨c0, c1⟩ := HC.out w6 L6.out
    obtain ⟨x0, x1⟩ := HX.out w6 X6.out
    have HTD6 := Lib.hid (HTD.out w6.drew L6.out.dr)
    go_wp2
    go_region_with (first | (go_at_call 6; refine HTD6.out.mono ?_; rintro e w7 ⟨a6, c6, b6, k6, rfl, i7, b7⟩; have HI7 := Lib.hid i7; have HB7 := Lib.hid b7; obtain ⟨y0, y1⟩ := HX.out w7 (X6.out.call ((Below.refl w6.heap.size w6).drew.trans b7)); clear i7 b7) | (go_at_call 8; refine (eqFlow_same _ _ _ _ _ _ _ _ ds _ _ wn _ _ F _ ((HF6.out.keep (show Below w6.heap.size w6 _ from (Below.refl _ _).drew) (Nat.le_refl _)).keep HB7.out (Nat.le_refl _)) HI7.out).mono ?_; rintro e w8 ⟨rfl, b8⟩; have HB8 := Lib.hid b8; clear b8))
    all_goals
      go_wp2
      go_ret
      have h9 := HB0.out.trans ((((L6.out.dr).call HB7.out).call HB8.out).mono HB0.out.size)
      exact ⟨rfl, h9.os, h9.tape, h9.output, h9.size, h9.block⟩
  · have hif : szF dn wn = -1 := by unfold szF; exact if_neg (by omega)
    rw [hif] at HS
    clear hif
    go_enter Tryd.func3, Tryd.ntmps3
    go_wp2_with fail
    refine HS.out.mono ?_
    rintro e w1 ⟨rfl, b1⟩
    have HB1 := Lib.hid (HB0.out.trans (b1.mono HB0.out.size))
    clear b1 hw0
    go_wp2
    go_ret
    exact ⟨rfl, HB1.out⟩
end Go.Proofs.YtmhkeiccemfpeaaDoor
