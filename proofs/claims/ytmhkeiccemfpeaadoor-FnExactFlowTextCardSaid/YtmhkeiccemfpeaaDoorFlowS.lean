/- Is a flow valid? The model's side. -/
import Derived.Test.YtmhkeiccemfpeaaDoorOpen
namespace Go.Proofs.YtmhkeiccemfpeaaDoor
open Go.RowKit
set_option linter.unusedVariables false
set_option linter.unusedSimpArgs false
/-- whether a flow is valid is told -/
def FlR (ds : List Int) (wn : Nat) (F : List Int) (w : World) (r : Ending) (w' : World) : Prop := Below w.heap.size w w' ∧ ∃ ok : Bool, r = .returned (.bool ok) ∧ (ok = true ↔ FlowOk ds wn F)
set_option maxHeartbeats 4000000 in
set_option maxRecDepth 100000 in
theorem l08Is_any (p B : Nat) (da : Option Addr) (dn dc : Nat) (ds : List Int) (wa : Option Addr) (wn wc : Nat) (F : List Int) (w : World) (hp : At2 w p (.slice da dn dc) (.slice wa wn wc)) (hf : Fl w B da dn dc ds wa wn wc F) (hdl : dn ≤ 1048576) (hwl : wn ≤ 1048576) :
    Calls Tryd.prog 11 #[.pointer (some ⟨p, 0, none⟩)] w fun r w' => FlR ds wn F w r w' := by
  have HP := Lib.hid hp
  have HF := Lib.hid hf
  have hpl := hp.lt
  have HI := Lib.hid (l08Form_any p B da dn dc ds wa wn wc F w hp hf hdl hwl)
  have HN := Lib.hid hf.n
  clear hp hf
  cases hfm : formB ds wn F with
  | false =>
    have HNO : Hid (¬ FlowOk ds wn F) := fun h => by rw [h.1] at hfm; cases hfm
    rw [hfm] at HI
    clear hfm
    go_enter Tryd.func11, Tryd.ntmps11
    go_wp2_with fail
    refine HI.out.mono ?_; rintro r w1 ⟨rfl, b1⟩
    go_wp2
    go_ret
    exact ⟨b1, false, rfl, ⟨fun h => (by cases h), fun h => absurd h HNO.out⟩⟩
  | true =>
    rw [hfm] at HI
    have HFM := Lib.hid hfm
    clear hfm
    go_enter Tryd.func11, Tryd.ntmps11
    go_wp2_with fail
    refine HI.out.mono ?_; rintro r w1 ⟨rfl, b1⟩
    have HB1 := Lib.hid b1
    clear b1
    go_wp2
    go_loopw [3] (fun i wr => ∃ k : Nat, k ≤ dn ∧ i = .int .i64 (k : Int) ∧ Hid (∀ u : Nat, u < k → ¬ ZP F wn (u : Int) (u : Int)) ∧ Hid (Below w.heap.size w wr)) (fun i _ => dn - (intOf i).toNat)
    case atStart => exact ⟨0, Nat.zero_le _, rfl, fun u h => absurd h (Nat.not_lt_zero _), HB1⟩
    case round =>
      obtain ⟨k, hk, rfl, HA, HBW⟩ := hrel
      clear HB1
      obtain ⟨c0, c1, -, -⟩ := HP.out.below HBW.out hpl
      by_cases hlt : k < dn
      · have hltz : (k : Int) < (dn : Int) := by omega
        have HO := Lib.hid (l08Open_any p B da dn dc ds wa wn wc F k wr (HP.out.below HBW.out hpl) (HF.out.keep HBW.out (Nat.le_refl _)) HFM.out hlt)
        go_wp2_with fail
        refine HO.out.mono ?_; rintro r w2 ⟨b2, ok, rfl, hok⟩
        have HB2 := Lib.hid (HBW.out.trans (b2.mono HBW.out.size))
        have HOK := Lib.hid hok
        clear b2 hok c0 c1
        cases ok with
        | true =>
          have HNO : Hid (¬ FlowOk ds wn F) := fun h => h.2 (k : Int) (by omega) (by rw [← HN.out]; omega) (HOK.out.1 rfl)
          go_wp2
          go_ret
          exact ⟨HB2.out, false, rfl, ⟨fun h => (by cases h), fun h => absurd h HNO.out⟩⟩
        | false =>
          have HA2 : Hid (∀ u : Nat, u < k + 1 → ¬ ZP F wn (u : Int) (u : Int)) := fun u hu => by
            by_cases e : u = k
            · subst e; intro hz; have := HOK.out.2 hz; cases this
            · exact HA.out u (by omega)
          go_wp2
          go_roundw
          case rel => exact ⟨k + 1, by omega, by go_num, HA2, HB2⟩
          case measure => simp [intOf]; omega
      · obtain rfl : k = dn := by omega
        have hltz : ¬ (k : Int) < (k : Int) := by omega
        have HYE : Hid (FlowOk ds wn F) := ⟨HFM.out, fun v h0 h1 hz => by
          rw [← HN.out] at h1
          obtain ⟨u, rfl⟩ : ∃ u : Nat, v = (u : Int) := ⟨v.toNat, by omega⟩
          exact HA.out u (by omega) hz⟩
        go_wp2
        go_ret
        exact ⟨HBW.out, true, rfl, ⟨fun _ => HYE.out, fun _ => rfl⟩⟩
end Go.Proofs.YtmhkeiccemfpeaaDoor
