/- Whether registers can be moved, on the model's side. -/
import Derived.Test.YtlobloaabghceaaMoved
namespace Go.Proofs.Ytlobloaabghceaa
open Go.RowKit Go.Shelf
set_option linter.unusedVariables false
set_option linter.unusedSimpArgs false

def CmR (ds : List Int) (wn : Nat) (F M : List Int) (w : World) (r : Ending) (w' : World) : Prop := Below w.heap.size w w' ∧ ∃ ok : Bool, r = .returned (.bool ok) ∧ (ok = true ↔ CanMv ds wn F M)
theorem canMv_split {ds : List Int} {wn : Nat} {F M : List Int} : CanMv ds wn F M ↔ FlowOk ds wn F ∧ (decide (M.length = ds.length) && movB M) = true ∧ formB ds wn (mvF M F wn) = true := by
  unfold CanMv
  simp only [Bool.and_eq_true, decide_eq_true_eq, and_assoc]
set_option maxHeartbeats 1000000 in
set_option maxRecDepth 100000 in
theorem l08Can_any (p B : Nat) (da : Option Addr) (dn dc : Nat) (ds : List Int) (wa : Option Addr) (wn wc : Nat) (F : List Int) (ma : Option Addr) (mn mc : Nat) (M : List Int) (w : World) (hp : At2 w p (.slice da dn dc) (.slice wa wn wc)) (hf : Fl w B da dn dc ds wa wn wc F)
    (hm : Ints w B (.slice ma mn mc) M) (hdl : dn ≤ 1048576) (hwl : wn ≤ 1048576) (hml : mn ≤ 1048576) :
    Calls Try.prog 33 #[.pointer (some ⟨p, 0, none⟩), .slice ma mn mc] w fun r w' => CmR ds wn F M w r w' := by
  obtain rfl := hf.n
  obtain rfl := hm.row.2.2.2
  have HI := Lib.hid (l08Is_any p B _ _ _ _ _ _ _ _ w hp hf hdl hwl)
  have HP := Lib.hid hp
  have HF := Lib.hid hf
  have HM := Lib.hid hm
  have hpl := hp.lt
  clear hp hf hm
  go_enter Try.func33, Try.ntmps33
  go_wp2_with fail
  refine HI.out.mono ?_; rintro r w1 ⟨b1, ok, rfl, hok⟩
  have HB1 := Lib.hid b1
  have HOK := Lib.hid hok
  have HP1 := Lib.hid (HP.out.below b1 hpl)
  have HF1 := Lib.hid (HF.out.keep b1 (Nat.le_refl _))
  have HM1 := Lib.hid (HM.out.keep b1 (Nat.le_refl _))
  clear b1 hok
  obtain ⟨c0, c1, -, -⟩ := HP1.out
  cases ok with
  | false =>
    go_wp2
    go_ret
    exact ⟨HB1.out, false, rfl, by rw [canMv_split]; exact ⟨fun h => (Bool.false_ne_true h).elim, fun h => HOK.out.2 h.1⟩⟩
  | true =>
    have hfo := HOK.out.1 rfl
    have HFO := Lib.hid hfo
    have HSP := Lib.hid (canMv_split (ds := ds) (wn := wn) (F := F) (M := M))
    have HMV := Lib.hid (fun h1 h2 => specMoved p B da ds.length dc ds wa wn wc F ma M.length mc M w1 HP1.out HF1.out HM1.out hfo.1 h1 h2)
    clear hfo
    go_wp2_with fail
    refine (l08Moves_any ma M M.length mc ds.length _ rfl HM1.out.row.1 hml hdl).mono ?_
    rintro e w' ⟨rfl, rfl⟩
    cases hbv : (decide (M.length = ds.length) && movB M) with
    | false =>
      rw [hbv] at HSP
      clear hbv
      go_wp2
      go_ret
      exact ⟨HB1.out, false, rfl, ⟨fun h => (Bool.false_ne_true h).elim, fun h => (HSP.out.1 h).2.1⟩⟩
    | true =>
      have hb2 := hbv
      simp only [Bool.and_eq_true, decide_eq_true_eq] at hb2
      have HMV2 := Lib.hid (HMV.out hb2.1 hb2.2)
      rw [hbv] at HSP
      clear hbv hb2 HMV
      go_wp2_with fail
      refine HMV2.out.mono ?_; rintro e w2 ⟨va, vw, rfl, ⟨hd, hr⟩, b2⟩
      have HB2 := Lib.hid (HB1.out.trans (b2.mono HB1.out.size))
      obtain ⟨a2, c2, rfl, -, -⟩ := hd.form
      obtain ⟨a3, c3, rfl, -, -⟩ := hr.form
      have HFL : Hid (Fl w2 w1.heap.size a2 ds.length c2 ds a3 wn c3 (mvF M F wn)) := ⟨hd, rfl, hr⟩
      clear hd hr b2
      go_wp2_with fail
      refine (l08Form_any w2.heap.size w1.heap.size a2 ds.length c2 ds a3 wn c3 (mvF M F wn) _ (At2.new _ _ _ _) (HFL.out.keep ((Below.refl _ _).alloc (Nat.le_refl _) _) (Nat.le_refl _)) hdl hwl).mono ?_
      rintro r w3 ⟨rfl, b3⟩
      have HB3 := Lib.hid ((HB2.out.alloc HB2.out.size _).trans (b3.mono (by have := HB2.out.size; simp; omega)))
      clear b3
      go_wp2
      go_ret
      exact ⟨HB3.out, _, rfl, ⟨fun h => HSP.out.2 ⟨HFO.out, trivial, h⟩, fun h => (HSP.out.1 h).2.2⟩⟩
set_option maxHeartbeats 1000000 in
set_option maxRecDepth 100000 in
theorem specIsMove (B : Nat) (da : Option Addr) (dn dc : Nat) (ds : List Int) (wa : Option Addr) (wn wc : Nat) (F : List Int) (ma : Option Addr) (mn mc : Nat) (M : List Int) (w : World) (hf : Fl w B da dn dc ds wa wn wc F)
    (hm : Ints w B (.slice ma mn mc) M) (hdl : dn ≤ 1048576) (hwl : wn ≤ 1048576) (hml : mn ≤ 1048576) :
    Calls Try.prog 10 #[.agg #[.slice da dn dc, .slice wa wn wc], .slice ma mn mc] w fun r w' => CmR ds wn F M w r w' := by
  obtain ⟨w0, hw0⟩ : ∃ w0, w.alloc (.cells #[.slice da dn dc, .slice wa wn wc] 31) = w0 := ⟨_, rfl⟩
  have hb0 : Below w.heap.size w w0 := by rw [← hw0]; exact (Below.refl _ _).alloc (Nat.le_refl _) _
  have HP : Hid (At2 w0 w.heap.size (.slice da dn dc) (.slice wa wn wc)) := by rw [← hw0]; exact At2.new w _ _ _
  have HB0 := Lib.hid hb0
  have HI := Lib.hid (l08Can_any w.heap.size B da dn dc ds wa wn wc F ma mn mc M w0 HP.out (hf.keep hb0 (Nat.le_refl _)) (hm.keep hb0 (Nat.le_refl _)) hdl hwl hml)
  clear hf hm hb0
  go_enter Try.func10, Try.ntmps10
  go_wp2_with fail
  refine HI.out.mono ?_; rintro r w1 ⟨b1, ok, rfl, hok⟩
  have HB1 := Lib.hid (HB0.out.trans (b1.mono HB0.out.size))
  have HOK := Lib.hid hok
  clear b1 hok hw0
  go_wp2
  go_ret
  exact ⟨HB1.out, ok, rfl, HOK.out⟩
end Go.Proofs.Ytlobloaabghceaa
