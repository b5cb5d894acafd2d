/- MoveFlow on the model's side. -/
import Derived.Test.YtlobloaabghceaaMvI
namespace Go.Proofs.Ytlobloaabghceaa
open Go.RowKit Go.Shelf
set_option linter.unusedVariables false
set_option linter.unusedSimpArgs false
set_option maxHeartbeats 1000000 in
set_option maxRecDepth 100000 in
theorem specMove (B : Nat) (da : Option Addr) (dn dc : Nat) (ds : List Int) (wa : Option Addr) (wn wc : Nat) (F : List Int) (ma : Option Addr) (mn mc : Nat) (M : List Int) (w : World) (hf : Fl w B da dn dc ds wa wn wc F)
    (hm : Ints w B (.slice ma mn mc) M) (hdl : dn ≤ 1048576) (hwl : wn ≤ 1048576) (hml : mn ≤ 1048576) :
    Calls Try.prog 16 #[.agg #[.slice da dn dc, .slice wa wn wc], .slice ma mn mc] w fun r w' => MfR ds wn F M w r w' := by
  obtain rfl := hf.n
  obtain rfl := hm.row.2.2.2
  obtain ⟨w0, hw0⟩ : ∃ w0, w.alloc (.cells #[.slice da ds.length dc, .slice wa wn wc] 31) = w0 := ⟨_, rfl⟩
  obtain ⟨w1, hw1⟩ : ∃ w1, w0.alloc (.cells #[.slice none 0 0, .slice none 0 0] 31) = w1 := ⟨_, rfl⟩
  have hz0 : w0.heap.size = w.heap.size + 1 := by rw [← hw0]; simp
  have hz1 : w1.heap.size = w.heap.size + 2 := by rw [← hw1]; simp [hz0]
  have hb0 : Below w.heap.size w w0 := by rw [← hw0]; exact (Below.refl _ _).alloc (Nat.le_refl _) _
  have hb1 : Below w.heap.size w w1 := by rw [← hw1]; exact hb0.alloc (by omega) _
  have HP : Hid (At2 w1 w.heap.size (.slice da ds.length dc) (.slice wa wn wc)) := by
    have h : At2 w0 w.heap.size (.slice da ds.length dc) (.slice wa wn wc) := by rw [← hw0]; exact At2.new w _ _ _
    rw [← hw1]; exact h.alloc _
  have HR : Hid (At2 w1 w0.heap.size (.slice none 0 0) (.slice none 0 0)) := by rw [← hw1]; exact At2.new w0 _ _ _
  have HB1 := Lib.hid hb1
  have HF := Lib.hid (hf.keep hb1 (Nat.le_refl _))
  have HM := Lib.hid (hm.keep hb1 (Nat.le_refl _))
  have HI := Lib.hid (l08Can_any w.heap.size B _ _ _ _ _ _ _ _ _ _ _ _ w1 HP.out HF.out HM.out hdl hwl hml)
  have h01 : w.heap.size ≤ w0.heap.size := by omega
  have h12 : w0.heap.size < w1.heap.size := by omega
  have h02 : w.heap.size < w1.heap.size := by omega
  clear hf hm hb0 hb1 hz0
  go_enter Try.func16, Try.ntmps16
  go_wp2_with fail
  refine HI.out.mono ?_; rintro r w2 ⟨b1, ok, rfl, hok⟩
  have HB2 := Lib.hid (HB1.out.trans (b1.mono (by omega)))
  have HOK := Lib.hid hok
  have HP2 := Lib.hid (HP.out.below b1 (by omega))
  have HR2 := Lib.hid (HR.out.below b1 (by omega))
  have HF2 := Lib.hid (HF.out.keep b1 (Nat.le_refl _))
  have HM2 := Lib.hid (HM.out.keep b1 (Nat.le_refl _))
  have hz2 := b1.size
  clear b1 hok hw0 hw1 hz1 HI HF HM HP HR
  cases ok with
  | false =>
    obtain ⟨t0, t1, t2, t3⟩ := HR2.out
    obtain ⟨s0, s1, s2, s3⟩ := (HR2.out).set0 (.slice none 0 0)
    obtain ⟨v0, v1, -, -⟩ := ((HR2.out).set0 (.slice none 0 0)).set1 (.slice none 0 0)
    go_wp2
    refine bodyPost_ret (v := .tuple #[.agg #[.slice none 0 0, .slice none 0 0], .bool false]) (by simp [results, Try.results16, go_sem, v0, v1]) rfl ?_
    exact MfR.no (fun h => by have := HOK.out.2 h; cases this) ((HB2.out.setCell (show w.heap.size ≤ w0.heap.size by omega) _).setCell (show w.heap.size ≤ w0.heap.size by omega) _)
  | true =>
    have hcan := HOK.out.1 rfl
    have HMV := Lib.hid (specMoved w.heap.size B da ds.length dc ds wa wn wc F ma M.length mc M w2 HP2.out HF2.out HM2.out hcan.1.1 hcan.2.1 hcan.2.2.1)
    have HCAN := Lib.hid hcan
    clear hcan
    go_wp2_with fail
    refine HMV.out.mono ?_; rintro e w3 ⟨va, vw, rfl, ⟨hd, hr⟩, b2⟩
    have HB3 := Lib.hid (HB2.out.trans (b2.mono (by omega)))
    have HR3 := Lib.hid (HR2.out.below b2 (by omega))
    obtain ⟨a2, c2, rfl, -, -⟩ := hd.form
    obtain ⟨a3, c3, rfl, -, -⟩ := hr.form
    have HD := Lib.hid hd
    have HRR := Lib.hid hr
    clear hd hr b2
    obtain ⟨t0, t1, t2, t3⟩ := HR3.out
    obtain ⟨s0, s1, s2, s3⟩ := (HR3.out).set0 (.slice a2 ds.length c2)
    obtain ⟨v0, v1, -, -⟩ := ((HR3.out).set0 (.slice a2 ds.length c2)).set1 (.slice a3 wn c3)
    have h03 : w0.heap.size < w2.heap.size := by omega
    go_wp2
    refine bodyPost_ret (v := .tuple #[.agg #[.slice a2 ds.length c2, .slice a3 wn c3], .bool true]) (by simp [results, Try.results16, go_sem, v0, v1]) rfl ?_
    refine ⟨(HB3.out.setCell (show w.heap.size ≤ w0.heap.size by omega) _).setCell (show w.heap.size ≤ w0.heap.size by omega) _, _, _, true, rfl, ⟨fun _ => HCAN.out, fun _ => rfl⟩, fun _ => ⟨?_, ?_⟩, fun e => by cases e⟩
    · exact ints_low (ints_set (ints_set HD.out _ _ h03) _ _ h03) (by omega)
    · exact (recs_set (recs_set HRR.out _ _ h03) _ _ h03).weak (by omega)
end Go.Proofs.Ytlobloaabghceaa
