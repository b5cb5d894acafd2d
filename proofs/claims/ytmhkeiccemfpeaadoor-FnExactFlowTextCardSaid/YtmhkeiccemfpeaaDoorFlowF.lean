/- Has a flow its form? The model's side. -/
import Derived.Test.YtmhkeiccemfpeaaDoorFlow
import Derived.Test.YtmhkeiccemfpeaaDoorFlowM
import Derived.Test.YtmhkeiccemfpeaaDoorHas
namespace Go.Proofs.YtmhkeiccemfpeaaDoor
open Go.RowKit
set_option linter.unusedVariables false
set_option linter.unusedSimpArgs false

theorem form_len {ds : List Int} {nw : Nat} {F : List Int} (h : ¬ (1 ≤ ds.length ∧ ds.length ≤ 8)) : formB ds nw F = false := by unfold formB; rw [decide_eq_false h]; rfl
theorem form_wires {ds : List Int} {nw : Nat} {F : List Int} (h : ¬ nw ≤ 16) : formB ds nw F = false := by unfold formB; rw [decide_eq_false h]; simp
theorem form_delay {ds : List Int} {nw : Nat} {F : List Int} (k : Nat) (hk : k < ds.length) (h : ¬ (0 ≤ ds[k] ∧ ds[k] ≤ 100)) : formB ds nw F = false := by
  have : ds.all dlK = false := by rw [List.all_eq_false]; exact ⟨_, List.getElem_mem hk, by simpa [dlK] using h⟩
  unfold formB; rw [this]; simp
theorem form_wire {ds : List Int} {nw : Nat} {F : List Int} (k : Nat) (hk : k < nw) (h : flK (ds.length : Int) F k = false) : formB ds nw F = false := by
  have : (List.range nw).all (flK (ds.length : Int) F) = false := by rw [List.all_eq_false]; exact ⟨k, List.mem_range.2 hk, by simp [h]⟩
  unfold formB; rw [this]; simp
theorem form_yes {ds : List Int} {nw : Nat} {F : List Int} (h1 : 1 ≤ ds.length ∧ ds.length ≤ 8) (h2 : nw ≤ 16) (h3 : ∀ k (hk : k < ds.length), 0 ≤ ds[k] ∧ ds[k] ≤ 100) (h4 : ∀ k, k < nw → flK (ds.length : Int) F k = true) : formB ds nw F = true := by
  have a1 : ds.all dlK = true := by
    rw [List.all_eq_true]; intro x hx
    obtain ⟨k, hk, rfl⟩ := List.getElem_of_mem hx
    exact decide_eq_true (h3 k hk)
  have a2 : (List.range nw).all (flK (ds.length : Int) F) = true := by
    rw [List.all_eq_true]; intro k hk; exact h4 k (List.mem_range.1 hk)
  unfold formB; rw [decide_eq_true h1, decide_eq_true h2, a1, a2]; rfl
theorem Fl.dat {w : World} {B : Nat} {da : Option Addr} {dn dc : Nat} {ds : List Int} {wa : Option Addr} {wn wc : Nat} {F : List Int} (h : Fl w B da dn dc ds wa wn wc F) (k : Nat) (hk : k < ds.length) : ∃ g, da = some ⟨g, 0, none⟩ ∧ w.cell? ⟨g, k, none⟩ = some (.int .i64 ds[k]) := h.d.row.1 k hk

set_option maxHeartbeats 4000000 in
set_option maxRecDepth 100000 in
theorem l08Form_any (p B : Nat) (da : Option Addr) (dn dc : Nat) (ds : List Int) (wa : Option Addr) (wn wc : Nat) (F : List Int) (w : World) (hp : At2 w p (.slice da dn dc) (.slice wa wn wc)) (hf : Fl w B da dn dc ds wa wn wc F) (hdl : dn ≤ 1048576) (hwl : wn ≤ 1048576) :
    Calls Tryd.prog 21 #[.pointer (some ⟨p, 0, none⟩)] w fun r w' => r = .returned (.bool (formB ds wn F)) ∧ Below w.heap.size w w' := by
  have HP := Lib.hid hp
  have HF := Lib.hid hf
  have HN := Lib.hid hf.n
  have hpl := hp.lt
  obtain ⟨c0, c1, -, -⟩ := hp
  clear hf
  by_cases h1 : 1 ≤ dn ∧ dn ≤ 8
  · have h11 : 1 ≤ (dn : Int) := by omega
    have h12 : (dn : Int) ≤ 8 := by omega
    have H1 : Hid (1 ≤ ds.length ∧ ds.length ≤ 8) := by have := HN.out; show _ ∧ _; omega
    by_cases h2 : wn ≤ 16
    · have h21 : ¬ (wn : Int) > 16 := by omega
      have H2 := Lib.hid h2
      clear h1
      go_enter Tryd.func21, Tryd.ntmps21
      go_wp2_with fail
      refine (l00In_t _ _ _ _ h11 h12).mono ?_; rintro e w' ⟨rfl, rfl⟩
      go_wp2
      go_loop [4] (fun i => ∃ k : Nat, k ≤ dn ∧ i = .int .i64 (k : Int) ∧ Hid (∀ j (hj : j < ds.length), j < k → 0 ≤ ds[j] ∧ ds[j] ≤ 100)) (fun i => dn - (intOf i).toNat)
      case atStart => exact ⟨0, Nat.zero_le _, rfl, fun j _ h => absurd h (Nat.not_lt_zero _)⟩
      case round =>
        obtain ⟨k, hk, rfl, HA⟩ := hrel
        by_cases hlt : k < dn
        · have hltz : (k : Int) < (dn : Int) := by omega
          have hkl : k < ds.length := by have := HN.out; omega
          obtain ⟨g, rfl, hc⟩ := HF.out.dat k hkl
          obtain ⟨y, hy⟩ : ∃ y, ds[k] = y := ⟨_, rfl⟩
          rw [hy] at hc
          by_cases he : 0 ≤ y ∧ y ≤ 100
          · have HS : Hid (∀ j (hj : j < ds.length), j < k + 1 → 0 ≤ ds[j] ∧ ds[j] ≤ 100) := fun j hj h => by
              by_cases e : j = k
              · subst e; rw [hy]; exact he
              · exact HA.out j hj (by omega)
            clear hy
            go_wp2_with fail
            refine (l00In_t y 0 100 _ he.1 he.2).mono ?_; rintro e w' ⟨rfl, rfl⟩
            clear he
            go_wp2
            go_round
            case rel => exact ⟨k + 1, by omega, by go_num, HS⟩
            case measure => simp [intOf]; omega
          · have HB := Lib.hid (form_delay (nw := wn) (F := F) k hkl (by rw [hy]; exact he))
            clear hy
            go_wp2_with fail
            refine (l00In_f y 0 100 _ (by omega)).mono ?_; rintro e w' ⟨rfl, rfl⟩
            clear he
            go_wp2
            go_ret
            exact ⟨ret_bool HB.out.symm, Below.refl _ _⟩
        · have HDS : Hid (∀ j (hj : j < ds.length), 0 ≤ ds[j] ∧ ds[j] ≤ 100) := fun j hj => HA.out j hj (by have := HN.out; omega)
          have hltz : ¬ (k : Int) < (dn : Int) := by omega
          have wr1 : IntKind.i64.wrap ((dn : Int) - 1) = (dn : Int) - 1 := IntWalk.i64_in _ (by omega)
          have hB0 : Below w.heap.size w w := Below.refl _ _
          clear HA
          go_wp2
          go_loopw [5, 6] (fun i _ wr => ∃ k : Nat, k ≤ wn ∧ i = .int .i64 (k : Int) ∧ Hid (∀ j, j < k → flK (ds.length : Int) F j = true) ∧ Hid (Below w.heap.size w wr)) (fun i _ _ => wn - (intOf i).toNat)
          case atStart => exact ⟨0, Nat.zero_le _, rfl, fun j h => absurd h (Nat.not_lt_zero _), hB0⟩
          case round =>
            obtain ⟨m, hm, rfl, HA, HBW⟩ := hrel
            clear hB0 c0 c1 hltz
            obtain ⟨c0, c1, -, -⟩ := HP.out.below HBW.out hpl
            by_cases hlt2 : m < wn
            · have hltz : (m : Int) < (wn : Int) := by omega
              obtain ⟨g, x, y, z, rfl, -, -, ⟨e0, e1, e2⟩, x0, x1, x2⟩ := (HF.out.r.keep HBW.out (Nat.le_refl _)).at m hlt2
              have HFK : Hid (flK (ds.length : Int) F m = (decide (0 ≤ x ∧ x ≤ (dn : Int) - 1) && (decide (0 ≤ y ∧ y ≤ (dn : Int) - 1) && decide (0 ≤ z ∧ z ≤ 20)))) := by
                unfold flK; rw [e0, e1, e2, HN.out]; rfl
              have HST : Hid (flK (ds.length : Int) F m = true → ∀ j, j < m + 1 → flK (ds.length : Int) F j = true) := fun h j hj => by
                by_cases e : j = m
                · rw [e]; exact h
                · exact HA.out j (by omega)
              have HNO : Hid (flK (ds.length : Int) F m = false → formB ds wn F = false) := fun h => form_wire m hlt2 h
              have HAL : Hid (∀ o, Below w.heap.size w (wr.alloc o)) := fun o => HBW.out.alloc HBW.out.size o
              clear e0 e1 e2 HA
              by_cases hx : 0 ≤ x ∧ x ≤ (dn : Int) - 1
              · by_cases hy : 0 ≤ y ∧ y ≤ (dn : Int) - 1
                · by_cases hz : 0 ≤ z ∧ z ≤ 20
                  · have HV := Lib.hid (HST.out (by rw [HFK.out, decide_eq_true hx, decide_eq_true hy, decide_eq_true hz]; rfl))
                    clear HFK HST HNO
                    go_wp2_with fail
                    refine (l00In_t _ _ _ _ hx.1 hx.2).mono ?_; rintro e w' ⟨rfl, rfl⟩
                    go_wp2_with fail
                    refine (l00In_t _ _ _ _ hy.1 hy.2).mono ?_; rintro e w' ⟨rfl, rfl⟩
                    go_wp2_with fail
                    refine (l00In_t _ _ _ _ hz.1 hz.2).mono ?_; rintro e w' ⟨rfl, rfl⟩
                    clear hx hy hz
                    go_wp2
                    go_roundw
                    case rel => exact ⟨m + 1, by omega, by go_num, HV, HAL.out _⟩
                    case measure => simp [intOf]; omega
                  · have HV := Lib.hid (HNO.out (by rw [HFK.out, decide_eq_true hx, decide_eq_true hy, decide_eq_false hz]; rfl))
                    clear HFK HST HNO
                    go_wp2_with fail
                    refine (l00In_t _ _ _ _ hx.1 hx.2).mono ?_; rintro e w' ⟨rfl, rfl⟩
                    go_wp2_with fail
                    refine (l00In_t _ _ _ _ hy.1 hy.2).mono ?_; rintro e w' ⟨rfl, rfl⟩
                    go_wp2_with fail
                    refine (l00In_f z 0 20 _ (by omega)).mono ?_; rintro e w' ⟨rfl, rfl⟩
                    clear hx hy hz
                    go_wp2
                    go_ret
                    exact ⟨ret_bool HV.out.symm, HAL.out _⟩
                · have HV := Lib.hid (HNO.out (by rw [HFK.out, decide_eq_true hx, decide_eq_false hy]; rfl))
                  clear HFK HST HNO
                  go_wp2_with fail
                  refine (l00In_t _ _ _ _ hx.1 hx.2).mono ?_; rintro e w' ⟨rfl, rfl⟩
                  go_wp2_with fail
                  refine (l00In_f y 0 ((dn : Int) - 1) _ (by omega)).mono ?_; rintro e w' ⟨rfl, rfl⟩
                  clear hx hy
                  go_wp2
                  go_ret
                  exact ⟨ret_bool HV.out.symm, HAL.out _⟩
              · have HV := Lib.hid (HNO.out (by rw [HFK.out, decide_eq_false hx]; rfl))
                clear HFK HST HNO
                go_wp2_with fail
                refine (l00In_f x 0 ((dn : Int) - 1) _ (by omega)).mono ?_; rintro e w' ⟨rfl, rfl⟩
                clear hx
                go_wp2
                go_ret
                exact ⟨ret_bool HV.out.symm, HAL.out _⟩
            · obtain rfl : m = wn := by omega
              have hltz : ¬ (m : Int) < (m : Int) := by omega
              have HV := Lib.hid (form_yes H1.out H2.out HDS.out HA.out)
              go_wp2
              go_ret
              exact ⟨ret_bool HV.out.symm, HBW.out⟩
    · have h21 : (wn : Int) > 16 := by omega
      have HV := Lib.hid (form_wires (ds := ds) (F := F) h2)
      clear h1 h2
      go_enter Tryd.func21, Tryd.ntmps21
      go_wp2_with fail
      refine (l00In_t _ _ _ _ h11 h12).mono ?_; rintro e w' ⟨rfl, rfl⟩
      go_wp2
      go_ret
      exact ⟨ret_bool HV.out.symm, Below.refl _ _⟩
  · have HV := Lib.hid (form_len (nw := wn) (F := F) (by rw [← HN.out]; exact h1))
    have h2 : (dn : Int) < 1 ∨ 8 < (dn : Int) := by omega
    clear h1
    go_enter Tryd.func21, Tryd.ntmps21
    go_wp2_with fail
    refine (l00In_f _ _ _ _ h2).mono ?_; rintro e w' ⟨rfl, rfl⟩
    go_wp2
    go_ret
    exact ⟨ret_bool HV.out.symm, Below.refl _ _⟩
end Go.Proofs.YtmhkeiccemfpeaaDoor
