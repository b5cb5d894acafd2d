/- Is a diagram valid, on both sides. -/
import Derived.Test.YtemjohkieehojaaDoorDia
namespace Go.Proofs.YtemjohkieehojaaDoor
open Go.RowKit
set_option linter.unusedVariables false

def bokK (e : Int) (F : List Int) (k : Nat) : Bool := decide (BOk e (F.getD (k * 3) 0) (F.getD (k * 3 + 1) 0) (F.getD (k * 3 + 2) 0))
def diaB (e : Int) (n : Nat) (F : List Int) : Bool := decide (1 ≤ e ∧ e ≤ 10) && decide (n ≤ 24) && (List.range n).all (bokK e F)
theorem diaB_ev (e : Int) (n : Nat) (F : List Int) (h : e < 1 ∨ 10 < e) : diaB e n F = false := by
  unfold diaB; rw [decide_eq_false (by omega)]; rfl
theorem diaB_len (e : Int) (n : Nat) (F : List Int) (h : ¬ n ≤ 24) : diaB e n F = false := by
  unfold diaB; rw [decide_eq_false h]; simp
theorem diaB_all (e : Int) (n : Nat) (F : List Int) (h1 : 1 ≤ e) (h2 : e ≤ 10) (h : n ≤ 24) : diaB e n F = (List.range n).all (bokK e F) := by
  unfold diaB; rw [decide_eq_true ⟨h1, h2⟩, decide_eq_true h]; rfl
theorem rng_step (f : Nat → Bool) (k : Nat) (h0 : (List.range k).all f = true) (h : f k = true) : (List.range (k + 1)).all f = true := by
  rw [List.range_succ, List.all_append, h0]; simp [h]
theorem rng_bad (f : Nat → Bool) (k n : Nat) (hk : k < n) (h : f k = false) : (List.range n).all f = false := by
  rw [List.all_eq_false]; exact ⟨k, List.mem_range.2 hk, by simp [h]⟩
theorem ret_boolD {b c : Bool} (h : b = c) : Ending.returned (.bool b) = Ending.returned (.bool c) := by rw [h]

set_option maxHeartbeats 2000000 in
set_option maxRecDepth 100000 in
theorem l04Is_any (p B : Nat) (e : Int) (a : Option Addr) (n cap : Nat) (F : List Int) (w : World) (hp : At2 w p (.int .i64 e) (.slice a n cap)) (hr : Recs w B (.slice a n cap) n F) (hl : n ≤ 1048576) :
    Calls Tryd.prog 31 #[.pointer (some ⟨p, 0, none⟩)] w fun r w' => r = .returned (.bool (diaB e n F)) ∧ Below w.heap.size w w' := by
  have HP := Lib.hid hp
  have HR := Lib.hid hr
  have hpl := hp.lt
  obtain ⟨c0, c1, _, _⟩ := hp
  clear hr
  by_cases he : e < 1 ∨ 10 < e
  · rw [diaB_ev e n F he]
    go_enter Tryd.func31, Tryd.ntmps31
    go_wp2_with fail
    refine (l00In_f _ _ _ _ he).mono ?_; rintro e w' ⟨rfl, rfl⟩
    go_wp2
    go_ret
    exact ⟨rfl, Below.refl _ _⟩
  · have h1 : 1 ≤ e := by omega
    have h2 : e ≤ 10 := by omega
    by_cases hlen : n ≤ 24
    · rw [diaB_all e n F h1 h2 hlen]
      clear he
      go_enter Tryd.func31, Tryd.ntmps31
      go_wp2_with fail
      refine (l00In_t _ _ _ _ h1 h2).mono ?_; rintro e w' ⟨rfl, rfl⟩
      go_wp2
      go_loopw [3] (fun i wr => ∃ k : Nat, k ≤ n ∧ i = .int .i64 (k : Int) ∧ (List.range k).all (bokK e F) = true ∧ Below w.heap.size w wr) (fun i _ => n - (intOf i).toNat)
      case atStart => exact ⟨0, Nat.zero_le _, rfl, rfl, Below.refl _ _⟩
      case round =>
        obtain ⟨k, hk, rfl, h0, hB⟩ := hrel
        have H0 := Lib.hid h0
        have hbs := hB.size
        obtain ⟨d0, d1, _, _⟩ := HP.out.below hB hpl
        clear h0
        by_cases hlt : k < n
        · obtain ⟨g, x, y, z, rfl, -, -, ⟨e0, e1, e2⟩, x0, x1, x2⟩ := (HR.out.keep hB (Nat.le_refl _)).at k hlt
          by_cases hs : BOk e x y z
          · have HE := Lib.hid (rng_step (bokK e F) k H0.out (by unfold bokK; rw [e0, e1, e2]; exact decide_eq_true hs))
            have HS := Lib.hid hs
            clear hs e0 e1 e2
            go_wp2
            go_region_with (go_at_call 52; refine (l04Bound_t _ _ _ _ _ h1 h2 HS.out).mono ?_; rintro e W2 ⟨rfl, hb2⟩)
            all_goals
              have hB2 : Below w.heap.size w W2 := hB.trans (⟨hb2.os, hb2.tape, hb2.output, hb2.size, fun j hj => hb2.block j (Nat.lt_of_lt_of_le hj hbs)⟩ : Below w.heap.size wr W2)
              have HB2 := Lib.hid hB2
              clear hb2 hB2
              go_wp2
              go_roundw
              case rel => exact ⟨k + 1, by omega, by go_num, HE.out, HB2.out⟩
              case measure => simp [intOf]; omega
          · have HE := Lib.hid (rng_bad (bokK e F) k n hlt (by unfold bokK; rw [e0, e1, e2]; exact decide_eq_false hs))
            have HS := Lib.hid hs
            clear hs e0 e1 e2
            go_wp2
            go_region_with (go_at_call 52; refine (l04Bound_f _ _ _ _ _ h1 h2 HS.out).mono ?_; rintro e W2 ⟨rfl, hb2⟩)
            all_goals
              have hB2 : Below w.heap.size w W2 := hB.trans (⟨hb2.os, hb2.tape, hb2.output, hb2.size, fun j hj => hb2.block j (Nat.lt_of_lt_of_le hj hbs)⟩ : Below w.heap.size wr W2)
              have HB2 := Lib.hid hB2
              clear hb2 hB2
              go_wp2
              go_ret
              exact ⟨ret_boolD HE.out.symm, HB2.out⟩
        · obtain rfl : k = n := by omega
          go_wp2
          go_ret
          exact ⟨ret_boolD H0.out.symm, hB⟩
    · rw [diaB_len e n F hlen]
      clear he
      go_enter Tryd.func31, Tryd.ntmps31
      go_wp2_with fail
      refine (l00In_t _ _ _ _ h1 h2).mono ?_; rintro e w' ⟨rfl, rfl⟩
      go_wp2
      go_ret
      exact ⟨rfl, Below.refl _ _⟩

set_option maxHeartbeats 2000000 in
set_option maxRecDepth 100000 in
theorem implDiaIs (B : Nat) (e : Int) (a : Option Addr) (n cap : Nat) (F : List Int) (w : World) (hr : Recs w B (.slice a n cap) n F) (hl : n ≤ 1048576) :
    Calls Tryd.prog 35 #[.agg #[.int .i64 e, .slice a n cap]] w fun r w' => r = .returned (.bool (diaB e n F)) ∧ Below w.heap.size w w' := by
  have hb0 : Below w.heap.size w (w.alloc (.cells #[.int .i64 e, .slice a n cap] 32)) := (Below.refl _ _).alloc (Nat.le_refl _) _
  have HP := Lib.hid (At2.new w (.int .i64 e) (.slice a n cap) 32)
  have HR := Lib.hid (hr.keep hb0 (Nat.le_refl _))
  clear hr
  by_cases he : e < 1 ∨ 10 < e
  · rw [diaB_ev e n F he]
    go_enter Tryd.func35, Tryd.ntmps35
    go_wp2_with fail
    refine (within_i64_f _ _ _ _ he).mono ?_; rintro e w' ⟨rfl, rfl⟩
    go_wp2
    go_ret
    exact ⟨rfl, hb0⟩
  · have h1 : 1 ≤ e := by omega
    have h2 : e ≤ 10 := by omega
    by_cases hlen : n ≤ 24
    · rw [diaB_all e n F h1 h2 hlen]
      clear he
      go_enter Tryd.func35, Tryd.ntmps35
      go_wp2_with fail
      refine (within_i64_t _ _ _ _ h1 h2).mono ?_; rintro e w' ⟨rfl, rfl⟩
      go_wp2
      go_loopw [4, 18] (fun _ i wr => ∃ k : Nat, k ≤ n ∧ i = .int .i64 (k : Int) ∧ (List.range k).all (bokK e F) = true ∧ Below (w.heap.size + 1) (w.alloc (.cells #[.int .i64 e, .slice a n cap] 32)) wr) (fun _ i _ => n - (intOf i).toNat)
      case atStart => exact ⟨0, Nat.zero_le _, rfl, rfl, Below.refl _ _⟩
      case round =>
        obtain ⟨k, hk, rfl, h0, hB⟩ := hrel
        have H0 := Lib.hid h0
        have hbs := hB.size
        simp only [World.size_alloc] at hbs
        obtain ⟨d0, d1, _, _⟩ := HP.out.below hB (Nat.lt_succ_self _)
        have hBw : Below w.heap.size w wr := hb0.trans (hB.mono (by omega))
        clear h0
        by_cases hlt : k < n
        · obtain ⟨g, x, y, z, rfl, -, -, ⟨e0, e1, e2⟩, x0, x1, x2⟩ := (HR.out.keep hB (by simp)).at k hlt
          obtain ⟨y0, y1, _, _⟩ := (HP.out.below hB (Nat.lt_succ_self _)).alloc (.cells #[.int .i64 x, .int .i64 y, .int .i64 z] 60)
          have hBa : Below (w.heap.size + 1) (w.alloc (.cells #[.int .i64 e, .slice (some ⟨g, 0, none⟩) n cap] 32)) (wr.alloc (.cells #[.int .i64 x, .int .i64 y, .int .i64 z] 60)) := hB.alloc hbs _
          by_cases hs : BOk e x y z
          · have HE := Lib.hid (rng_step (bokK e F) k H0.out (by unfold bokK; rw [e0, e1, e2]; exact decide_eq_true hs))
            have HS := Lib.hid hs
            have HBA := Lib.hid hBa
            clear hs e0 e1 e2 hBa
            go_wp2_with fail
            refine (isValid_t _ _ _ _ _ h1 h2 HS.out).mono ?_; rintro e W2 ⟨rfl, hb2⟩
            have HB2 := Lib.hid (HBA.out.trans (hb2.mono (by simp; omega)))
            clear hb2
            go_wp2
            go_roundw
            case rel => exact ⟨k + 1, by omega, by go_num, HE.out, HB2.out⟩
            case measure => simp [intOf]; omega
          · have HE := Lib.hid (rng_bad (bokK e F) k n hlt (by unfold bokK; rw [e0, e1, e2]; exact decide_eq_false hs))
            have HS := Lib.hid hs
            have HBA := Lib.hid hBa
            clear hs e0 e1 e2 hBa
            go_wp2_with fail
            refine (isValid_f _ _ _ _ _ h1 h2 HS.out).mono ?_; rintro e W2 ⟨rfl, hb2⟩
            have HB2 := Lib.hid (hb0.trans ((HBA.out.trans (hb2.mono (by simp; omega))).mono (by omega)))
            clear hb2
            go_wp2
            go_ret
            exact ⟨ret_boolD HE.out.symm, HB2.out⟩
        · obtain rfl : k = n := by omega
          go_wp2
          go_ret
          exact ⟨ret_boolD H0.out.symm, hBw⟩
    · rw [diaB_len e n F hlen]
      clear he
      go_enter Tryd.func35, Tryd.ntmps35
      go_wp2_with fail
      refine (within_i64_t _ _ _ _ h1 h2).mono ?_; rintro e w' ⟨rfl, rfl⟩
      go_wp2
      go_ret
      exact ⟨rfl, hb0⟩
end Go.Proofs.YtemjohkieehojaaDoor
