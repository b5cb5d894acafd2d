/- The walk of a law: a picture is the same on both sides. -/
import Derived.Test.YtkbnllaobnhfbaaDoorPicS
import Derived.Test.YtkbnllaobnhfbaaDoorPicI
import Derived.Deep.RegionWith
namespace Go.Proofs.YtkbnllaobnhfbaaDoor
open Go.RowKit
set_option linter.unusedVariables false
set_option linter.unusedSimpArgs false
def LwPi (w0 W : World) : Prop := Below w0.heap.size w0 W
theorem LwPi.dr {w W : World} (h : LwPi w W) : LwPi w W.drew := ⟨h.os, h.tape, h.output, h.size, h.block⟩
theorem LwPi.call {w W W' : World} (h : LwPi w W) (hb : Below W.heap.size W W') : LwPi w W' := h.trans (hb.mono h.size)
set_option maxHeartbeats 8000000 in
set_option maxRecDepth 100000 in
theorem walk_FnExactPictureOf (na : Option Addr) (nn nc : Nat) (ls : List ByteArray) (wa : Option Addr) (wn wc : Nat) (ms : List ByteArray) (f t : Int) (w : World) (h : Sc w na nn ls wa wn ms) (hnm : nn ≤ maxLen) (hwm : wn ≤ maxLen) (hls : ∀ k (hk : k < ls.length), ls[k].size ≤ maxLen) (hms : ∀ k (hk : k < ms.length), ms[k].size ≤ maxLen) (_wf : (Lit.int .i64 f).wf = true) (_wt : (Lit.int .i64 t).wf = true) :
    Calls Tryd.prog 3 #[.agg #[.slice na nn nc, .slice wa wn wc], .int .i64 f, .int .i64 t] w fun e w' => e = .returned (.bool true) ∧ Below w.heap.size w w' := by
  obtain ⟨w0, hw0⟩ : ∃ w0, w.alloc (.cells #[.slice na nn nc, .slice wa wn wc] 24) = w0 := ⟨_, rfl⟩
  have hb0 : Below w.heap.size w w0 := by rw [← hw0]; exact (Below.refl _ _).alloc (Nat.le_refl _) _
  have hs0 : w.heap.size < w0.heap.size := by rw [← hw0]; simp
  have c0 : w0.cell? ⟨w.heap.size, 0, none⟩ = some (.slice na nn nc) := by rw [← hw0]; simp [go_sem]
  have c1 : w0.cell? ⟨w.heap.size, 1, none⟩ = some (.slice wa wn wc) := by rw [← hw0]; simp [go_sem]
  have HC : Hid (∀ W, LwPi w0 W → W.cell? ⟨w.heap.size, 0, none⟩ = some (.slice na nn nc) ∧ W.cell? ⟨w.heap.size, 1, none⟩ = some (.slice wa wn wc)) := fun W h => ⟨(h.cell (p := ⟨w.heap.size, 0, none⟩) hs0).trans c0, (h.cell (p := ⟨w.heap.size, 1, none⟩) hs0).trans c1⟩
  have HB0 := Lib.hid hb0
  have HA0 := Lib.hid (h.keep hb0 (Nat.le_refl _))
  have HLS := Lib.hid hls
  have HMS := Lib.hid hms
  have HNM := Lib.hid hnm
  have HWM := Lib.hid hwm
  have HS := Lib.hid (szScope_any na nn nc ls wa wn wc ms w0 HA0.out hnm hwm hls hms)
  clear h hb0 hls hms hnm hwm
  go_enter Tryd.func3, Tryd.ntmps3
  go_wp2_with fail
  refine HS.out.mono ?_
  rintro e w1 ⟨left, rfl, hr, b1⟩
  have L1 : Hid (LwPi w0 w1) := b1
  clear b1 hw0 c0 c1
  rcases hr with rfl | ⟨r0, r1, hnl, hwl⟩
  · have HBE := Lib.hid (HB0.out.trans (L1.out.mono HB0.out.size))
    go_wp2
    go_ret
    exact ⟨rfl, HBE.out⟩
  · have hl0 : ¬ left < 0 := by omega
    have hl1 : decide (left < 0) = false := decide_eq_false hl0
    have HTD : Hid (∀ W, LwPi w0 W → Calls Tryd.prog 10 #[.agg #[.slice na nn nc, .slice wa wn wc]] W fun e w' => ∃ a2 b2, e = .returned (.agg #[.slice (some a2) nn nn, .slice (some b2) wn wn]) ∧ Strs w' W.heap.size (.slice (some a2) nn nn) ls ∧ Strs w' W.heap.size (.slice (some b2) wn wn) ms ∧ Sc w' (some a2) nn ls (some b2) wn ms ∧ Below W.heap.size W w') := fun W hW =>
      toScope_any na nn nc ls wa wn wc ms W (HA0.out.keep hW (Nat.le_refl _)) hnl hwl
    obtain ⟨r, c, hS, hI⟩ : ∃ (r : ByteArray) (c : Bool), (∀ a2 b2 W, Sc W (some a2) nn ls (some b2) wn ms → Calls Tryd.prog 9 #[.agg #[.slice (some a2) nn nn, .slice (some b2) wn wn], .int .i64 f, .int .i64 t] W fun e w' => e = .returned (.tuple #[.string r, .bool c]) ∧ Below W.heap.size W w') ∧ (∀ a2 b2 W, Sc W (some a2) nn ls (some b2) wn ms → Calls Tryd.prog 11 #[.agg #[.slice (some a2) nn nn, .slice (some b2) wn wn], .int .i64 f, .int .i64 t] W fun e w' => e = .returned (.tuple #[.string r, .bool c]) ∧ Below W.heap.size W w') := by
      cases hv : scB ls ms with
      | false => exact ⟨_, _, fun a2 b2 W h => specPic_v (some a2) nn nn ls (some b2) wn wn ms f t W h hnl hwl HLS.out HMS.out hv, fun a2 b2 W h => implPic_v (some a2) nn nn ls (some b2) wn wn ms f t W h hnl hwl HLS.out HMS.out hv⟩
      | true =>
        by_cases hf : 0 ≤ f ∧ f ≤ 400
        · by_cases ht : 1 ≤ t ∧ t ≤ 100
          · obtain ⟨fn, rfl⟩ := Int.eq_ofNat_of_zero_le hf.1
            obtain ⟨tn, rfl⟩ := Int.eq_ofNat_of_zero_le (show 0 ≤ t by omega)
            exact ⟨_, _, fun a2 b2 W h => specPic_ok (some a2) nn nn ls (some b2) wn wn ms fn tn W h hnl hwl HLS.out HMS.out hv (by omega) (by omega), fun a2 b2 W h => implPic_ok (some a2) nn nn ls (some b2) wn wn ms fn tn W h hnl hwl HLS.out HMS.out hv (by omega) (by omega)⟩
          · exact ⟨_, _, fun a2 b2 W h => specPic_t (some a2) nn nn ls (some b2) wn wn ms f t W h hnl hwl HLS.out HMS.out hv hf ht, fun a2 b2 W h => implPic_t (some a2) nn nn ls (some b2) wn wn ms f t W h hnl hwl HLS.out HMS.out hv hf ht⟩
        · exact ⟨_, _, fun a2 b2 W h => specPic_f (some a2) nn nn ls (some b2) wn wn ms f t W h hnl hwl HLS.out HMS.out hv hf, fun a2 b2 W h => implPic_f (some a2) nn nn ls (some b2) wn wn ms f t W h hnl hwl HLS.out HMS.out hv hf⟩
    have HSP := Lib.hid hS
    have HIM := Lib.hid hI
    clear hS hI
    obtain ⟨c0, c1⟩ := HC.out w1 L1.out
    clear hnl hwl r0 r1
    go_wp2_with fail
    refine (HTD.out w1 L1.out).mono ?_
    rintro e w2 ⟨a2, b2, rfl, -, -, r2, bb2⟩
    have L2 := Lib.hid (L1.out.call bb2)
    have HF2 := Lib.hid r2
    clear bb2 r2 c0 c1
    go_wp2_with fail
    refine (HSP.out _ _ _ HF2.out).mono ?_
    rintro e w3 ⟨rfl, b3⟩
    have L3 := Lib.hid (L2.out.call b3)
    clear b3
    obtain ⟨c0, c1⟩ := HC.out w3 L3.out
    go_wp2_with fail
    refine (HTD.out w3 L3.out).mono ?_
    rintro e w4 ⟨a4, b4, rfl, -, -, r4, bb4⟩
    have L4 := Lib.hid (L3.out.call bb4)
    obtain ⟨w5, hw5⟩ : ∃ w5, w4.alloc (.cells #[.slice (some a4) nn nn, .slice (some b4) wn wn] 28) = w5 := ⟨_, rfl⟩
    have hb5 : Below w4.heap.size w4 w5 := by rw [← hw5]; exact (Below.refl _ _).alloc (Nat.le_refl _) _
    have hs5 : w4.heap.size < w5.heap.size := by rw [← hw5]; simp
    have p0 : w5.cell? ⟨w4.heap.size, 0, none⟩ = some (.slice (some a4) nn nn) := by rw [← hw5]; simp [go_sem]
    have p1 : w5.cell? ⟨w4.heap.size, 1, none⟩ = some (.slice (some b4) wn wn) := by rw [← hw5]; simp [go_sem]
    have HX : Hid (∀ W, LwPi w5 W → W.cell? ⟨w4.heap.size, 0, none⟩ = some (.slice (some a4) nn nn) ∧ W.cell? ⟨w4.heap.size, 1, none⟩ = some (.slice (some b4) wn wn)) := fun W h => ⟨(h.cell (p := ⟨w4.heap.size, 0, none⟩) hs5).trans p0, (h.cell (p := ⟨w4.heap.size, 1, none⟩) hs5).trans p1⟩
    have HF5 := Lib.hid (r4.keep hb5 (Nat.le_refl _))
    have L5 := Lib.hid (L4.out.call hb5)
    clear bb4 r4 hb5 c0 c1
    go_wp2_with fail
    clear hw5
    refine (HIM.out _ _ _ HF5.out).mono ?_
    rintro e w6 ⟨rfl, b6⟩
    have L6 := Lib.hid (L5.out.call b6)
    have X6 : Hid (LwPi w5 w6) := b6
    have HF6 := Lib.hid (HF5.out.keep b6 (Nat.le_refl _))
    clear b6 p0 p1
    obtain ⟨c0, c1⟩ := HC.out w6 L6.out
    obtain ⟨x0, x1⟩ := HX.out w6 X6.out
    have HTD6 := Lib.hid (HTD.out w6.drew L6.out.dr)
    go_wp2
    go_region_with (first | (go_at_call 10; refine HTD6.out.mono ?_; rintro e w7 ⟨a6, b6, rfl, -, -, i7, b7⟩; have HI7 := Lib.hid i7; have HB7 := Lib.hid b7; obtain ⟨y0, y1⟩ := HX.out w7 (X6.out.call ((Below.refl w6.heap.size w6).drew.trans b7)); clear i7 b7) | (go_at_call 12; refine (eqScope_same _ _ _ _ _ _ _ _ _ _ ls ms _ HNM.out HWM.out ((HF6.out.keep (show Below w6.heap.size w6 _ from (Below.refl _ _).drew) (Nat.le_refl _)).keep HB7.out (Nat.le_refl _)) HI7.out).mono ?_; rintro e w8 ⟨rfl, b8⟩; have HB8 := Lib.hid b8; clear b8))
    all_goals
      go_wp2
      go_ret
      have h9 := HB0.out.trans ((((L6.out.dr).call HB7.out).call HB8.out).mono HB0.out.size)
      exact ⟨rfl, h9.os, h9.tape, h9.output, h9.size, h9.block⟩
end Go.Proofs.YtkbnllaobnhfbaaDoor
