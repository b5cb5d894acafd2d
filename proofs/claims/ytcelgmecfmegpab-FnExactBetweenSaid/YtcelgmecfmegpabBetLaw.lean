/- The bounds for a least and a greatest difference, on both sides, and the walk of the law. -/
import Derived.Test.YtcelgmecfmegpabDiaIs
import Derived.Test.YtcelgmecfmegpabMarksB
import Derived.OpenShut
import Derived.Lib.FrozenHead2
namespace Go.Proofs.Ytcelgmecfmegpab
open Go.RowKit
set_option linter.unusedVariables false

/-- the numbers of the two bounds -/
def betF (f t m q : Int) : List Int := [f, t, m, t, f, q]
def BetOk (f t l m : Int) : Prop := BOk 10 f t m ∧ -1000 ≤ l ∧ l ≤ 1000
instance (f t l m : Int) : Decidable (BetOk f t l m) := by unfold BetOk; exact inferInstance
theorem bet_dia (f t l m q : Int) (hq : (-1000 ≤ q ∧ q ≤ 1000) ↔ (-1000 ≤ l ∧ l ≤ 1000)) : diaB 10 2 (betF f t m q) = decide (BetOk f t l m) := by
  have hr : List.range 2 = [0, 1] := rfl
  unfold diaB
  rw [decide_eq_true (show (1 : Int) ≤ 10 ∧ (10 : Int) ≤ 10 by omega), decide_eq_true (show 2 ≤ 24 by omega), hr]
  simp only [List.all_cons, List.all_nil, Bool.and_true, Bool.true_and]
  unfold bokK
  show (decide (BOk 10 f t m) && decide (BOk 10 t f q)) = _
  rw [Bool.eq_iff_iff]
  simp only [Bool.and_eq_true, decide_eq_true_eq]
  unfold BetOk BOk
  constructor
  · rintro ⟨⟨a1, a2, a3, a4, a5, a6, a7⟩, ⟨b1, b2, b3, b4, b5, b6, b7⟩⟩
    exact ⟨⟨a1, a2, a3, a4, a5, a6, a7⟩, hq.1 ⟨b6, b7⟩⟩
  · rintro ⟨⟨a1, a2, a3, a4, a5, a6, a7⟩, h⟩
    have hq2 := hq.2 h
    exact ⟨⟨a1, a2, a3, a4, a5, a6, a7⟩, ⟨fun e => a1 e.symm, a4, a5, a2, a3, hq2.1, hq2.2⟩⟩
theorem neg_ok (l : Int) (h : (Lit.int .i64 l).wf = true) : ((-1000 ≤ IntKind.i64.wrap (-l) ∧ IntKind.i64.wrap (-l) ≤ 1000) ↔ (-1000 ≤ l ∧ l ≤ 1000)) := by
  have hb := bounds_i64 h
  by_cases h0 : l = -9223372036854775808
  · subst h0
    have : IntKind.i64.wrap (-(-9223372036854775808)) = -9223372036854775808 := by decide
    rw [this]
  · rw [IntWalk.i64_in _ (by omega)]; omega
theorem lit_recs (w : World) (f t m q : Int) : Recs (w.alloc (.cells #[.int .i64 f, .int .i64 t, .int .i64 m, .int .i64 t, .int .i64 f, .int .i64 q] 49)) w.heap.size (.slice (some ⟨w.heap.size, 0, none⟩) 2 2) 2 (betF f t m q) :=
  ⟨rfl, World.ownsRow_lit w #[.int .i64 f, .int .i64 t, .int .i64 m, .int .i64 t, .int .i64 f, .int .i64 q] 2 (Nat.le_refl _) (by unfold maxLen; omega) rfl⟩

set_option maxRecDepth 100000 in
theorem implBet_t (f t l m : Int) (w : World) (hl : (Lit.int .i64 l).wf = true) (h : BetOk f t l m) :
    Calls Try.prog 12 #[.int .i64 f, .int .i64 t, .int .i64 l, .int .i64 m] w fun e w' => ∃ v, e = .returned (.tuple #[v, .bool true]) ∧ Recs w' w.heap.size v 2 (betF f t m (IntKind.i64.wrap (-l))) ∧ Below w.heap.size w w' := by
  have hd := bet_dia f t l m _ (neg_ok l hl)
  rw [decide_eq_true h] at hd
  have HD := Lib.hid hd
  obtain ⟨q, hq⟩ : ∃ q, IntKind.i64.wrap (-l) = q := ⟨_, rfl⟩
  rw [hq] at hd ⊢
  have hR := lit_recs w f t m q
  have HR := Lib.hid hR
  have HD := Lib.hid hd
  have hb0 : Below w.heap.size w (w.alloc (.cells #[.int .i64 f, .int .i64 t, .int .i64 m, .int .i64 t, .int .i64 f, .int .i64 q] 49)) := (Below.refl _ _).alloc (Nat.le_refl _) _
  clear hd hR h
  go_enter Try.func12, Try.ntmps12
  go_wp2_with fail
  refine ((implDiaIs w.heap.size 10 _ 2 2 (betF f t m q) _ HR.out (by omega)).mono (R' := fun r w' => r = .returned (.bool true) ∧ Below (w.heap.size + 1) (w.alloc (.cells #[.int .i64 f, .int .i64 t, .int .i64 m, .int .i64 t, .int .i64 f, .int .i64 q] 49)) w') (fun r w' h => by rw [HD.out] at h; exact ⟨h.1, h.2.mono (by simp)⟩)).mono ?_
  rintro e w1 ⟨rfl, b1⟩
  have HR1 := Lib.hid (HR.out.keep b1 (by simp))
  have HB1 := Lib.hid (hb0.trans (b1.mono (by omega)))
  clear b1
  go_wp2
  go_ret2
  exact ⟨_, rfl, HR1.out, HB1.out⟩
set_option maxRecDepth 100000 in
theorem implBet_f (f t l m : Int) (w : World) (hl : (Lit.int .i64 l).wf = true) (h : ¬ BetOk f t l m) :
    Calls Try.prog 12 #[.int .i64 f, .int .i64 t, .int .i64 l, .int .i64 m] w fun e w' => e = .returned (.tuple #[.slice none 0 0, .bool false]) ∧ Below w.heap.size w w' := by
  have hd := bet_dia f t l m _ (neg_ok l hl)
  rw [decide_eq_false h] at hd
  obtain ⟨q, hq⟩ : ∃ q, IntKind.i64.wrap (-l) = q := ⟨_, rfl⟩
  rw [hq] at hd
  have hR := lit_recs w f t m q
  have HR := Lib.hid hR
  have HD := Lib.hid hd
  have hb0 : Below w.heap.size w (w.alloc (.cells #[.int .i64 f, .int .i64 t, .int .i64 m, .int .i64 t, .int .i64 f, .int .i64 q] 49)) := (Below.refl _ _).alloc (Nat.le_refl _) _
  clear hd hR h
  go_enter Try.func12, Try.ntmps12
  go_wp2_with fail
  refine ((implDiaIs w.heap.size 10 _ 2 2 (betF f t m q) _ HR.out (by omega)).mono (R' := fun r w' => r = .returned (.bool false) ∧ Below (w.heap.size + 1) (w.alloc (.cells #[.int .i64 f, .int .i64 t, .int .i64 m, .int .i64 t, .int .i64 f, .int .i64 q] 49)) w') (fun r w' h => by rw [HD.out] at h; exact ⟨h.1, h.2.mono (by simp)⟩)).mono ?_
  rintro e w1 ⟨rfl, b1⟩
  have HB1 := Lib.hid (hb0.trans (b1.mono (by omega)))
  clear b1
  go_wp2
  go_ret2
  exact ⟨rfl, HB1.out⟩
set_option maxRecDepth 100000 in
theorem specBet_t (f t l m : Int) (w : World) (hl : (Lit.int .i64 l).wf = true) (h : BetOk f t l m) :
    Calls Try.prog 11 #[.int .i64 f, .int .i64 t, .int .i64 l, .int .i64 m] w fun e w' => ∃ v, e = .returned (.tuple #[v, .bool true]) ∧ Recs w' w.heap.size v 2 (betF f t m (IntKind.i64.wrap (-l))) ∧ Below w.heap.size w w' := by
  obtain ⟨q, hq⟩ : ∃ q, IntKind.i64.wrap (-l) = q := ⟨_, rfl⟩
  rw [hq]
  have hb0 : Below w.heap.size w (w.alloc (.cells #[.int .i64 f, .int .i64 t, .int .i64 m] 49)) := (Below.refl _ _).alloc (Nat.le_refl _) _
  have hc : ∀ i (v : Value), i < 3 → #[(Value.int .i64 f), .int .i64 t, .int .i64 m][i]? = some v → (w.alloc (.cells #[.int .i64 f, .int .i64 t, .int .i64 m] 49)).cell? ⟨w.heap.size, i, none⟩ = some v := fun i v hi hv => by
    have hh : (w.alloc (.cells #[.int .i64 f, .int .i64 t, .int .i64 m] 49)).heap[w.heap.size]? = some (.cells #[.int .i64 f, .int .i64 t, .int .i64 m] 49) := by unfold World.alloc; simp
    rw [Lib.cell_of_heap hh]; exact hv
  have h0 := hc 0 (.int .i64 f) (by omega) rfl
  have h1 := hc 1 (.int .i64 t) (by omega) rfl
  have h2 := hc 2 (.int .i64 m) (by omega) rfl
  clear hc
  have HH := Lib.hid h
  clear h
  go_enter Try.func11, Try.ntmps11
  go_wp2_with fail
  refine (l04Bound_t 10 f t m _ (by omega) (by omega) HH.out.1).mono ?_; rintro e w1 ⟨rfl, b1⟩
  have d0 := (b1.cell (p := ⟨w.heap.size, 0, none⟩) (by simp)).trans h0
  have d1 := (b1.cell (p := ⟨w.heap.size, 1, none⟩) (by simp)).trans h1
  have d2 := (b1.cell (p := ⟨w.heap.size, 2, none⟩) (by simp)).trans h2
  have s1 := b1.size
  simp only [World.size_alloc] at s1
  have HB1 := Lib.hid (hb0.trans (b1.mono (by simp)))
  clear b1 h0 h1 h2
  go_wp2_with fail
  refine (l00In_t _ _ _ _ HH.out.2.1 HH.out.2.2).mono ?_; rintro e w' ⟨rfl, rfl⟩
  have HR := Lib.hid (lit_recs w1 f t m q)
  have HB2 := Lib.hid (HB1.out.alloc (by omega) (.cells #[.int .i64 f, .int .i64 t, .int .i64 m, .int .i64 t, .int .i64 f, .int .i64 q] 49))
  go_wp2
  go_ret2
  exact ⟨_, rfl, HR.out.weak (by omega), HB2.out⟩
set_option maxRecDepth 100000 in
theorem specBet_f (f t l m : Int) (w : World) (h : ¬ BetOk f t l m) :
    Calls Try.prog 11 #[.int .i64 f, .int .i64 t, .int .i64 l, .int .i64 m] w fun e w' => e = .returned (.tuple #[.slice none 0 0, .bool false]) ∧ Below w.heap.size w w' := by
  have hb0 : Below w.heap.size w (w.alloc (.cells #[.int .i64 f, .int .i64 t, .int .i64 m] 49)) := (Below.refl _ _).alloc (Nat.le_refl _) _
  by_cases hb : BOk 10 f t m
  · have hn : l < -1000 ∨ 1000 < l := by
      by_cases h1 : -1000 ≤ l ∧ l ≤ 1000
      · exact absurd ⟨hb, h1.1, h1.2⟩ h
      · omega
    have HH := Lib.hid hb
    clear h hb
    go_enter Try.func11, Try.ntmps11
    go_wp2_with fail
    refine (l04Bound_t 10 f t m _ (by omega) (by omega) HH.out).mono ?_; rintro e w1 ⟨rfl, b1⟩
    go_wp2_with fail
    refine (l00In_f _ _ _ _ hn).mono ?_; rintro e w' ⟨rfl, rfl⟩
    go_wp2
    go_ret2
    exact ⟨rfl, hb0.trans (b1.mono (by simp))⟩
  · have HH := Lib.hid hb
    clear h hb
    go_enter Try.func11, Try.ntmps11
    go_wp2_with fail
    refine (l04Bound_f 10 f t m _ (by omega) (by omega) HH.out).mono ?_; rintro e w1 ⟨rfl, b1⟩
    go_wp2
    go_ret2
    exact ⟨rfl, hb0.trans (b1.mono (by simp))⟩
theorem markNil (c : Int) (w : World) (h0 : 0 ≤ c) (h1 : c ≤ 1000) :
    Calls Try.prog 14 #[.slice none 0 0, .int .i64 c] w fun e w' => e = .returned (.int .i64 c) ∧ w = w' := by
  go_enter Try.func14, Try.ntmps14
  go_wp2
  go_loop [1, 5] (fun k i => i = .int .i64 0 ∧ k = .int .i64 c) (fun _ _ => 0)
  case atStart => exact ⟨rfl, rfl⟩
  case round =>
    obtain ⟨rfl, rfl⟩ := hrel
    go_wp2
    go_ret
    exact ⟨rfl, rfl⟩
theorem heldNil (c : Int) (w : World) (h0 : 0 ≤ c) (h1 : c ≤ 1000) :
    Calls Try.prog 15 #[.slice none 0 0, .int .i64 c] w fun e w' => e = .returned (.int .i64 c) ∧ w = w' := by
  go_enter Try.func15, Try.ntmps15
  go_wp2
  go_loop [1, 5] (fun k i => i = .int .i64 0 ∧ k = .int .i64 c) (fun _ _ => 0)
  case atStart => exact ⟨rfl, rfl⟩
  case round =>
    obtain ⟨rfl, rfl⟩ := hrel
    go_wp2
    go_ret
    exact ⟨rfl, rfl⟩
theorem Recs.nil (w : World) (B : Nat) : Recs w B (.slice none 0 0) 0 [] := ⟨rfl, World.ownsRow_nil _ _ _ _⟩
theorem Recs.keepLt {w0 w w' : World} {B : Nat} {v : Value} {n : Nat} {F G : List Int} (h0 : Recs w0 B v n F) (h : Recs w B v n G) {N : Nat} (hb : Below N w w') (hN : w0.heap.size ≤ N) : Recs w' B v n G := by
  obtain ⟨hF, h1, ⟨rfl, hn⟩ | ⟨g, cap, cur, rfl, hg, hh, rest⟩⟩ := h
  · exact ⟨hF, h1, .inl ⟨rfl, hn⟩⟩
  · have hlt := (World.ownsRow.lt h0.2 g rfl).2
    exact ⟨hF, h1, .inr ⟨g, cap, cur, rfl, hg, (hb.block g (by omega)).trans hh, rest⟩⟩

set_option maxHeartbeats 1000000 in
set_option maxRecDepth 100000 in
theorem walk_FnExactBetween (f t l m : Int) (w : World) (_wf : (Lit.int .i64 f).wf = true) (_wt : (Lit.int .i64 t).wf = true) (wl : (Lit.int .i64 l).wf = true) (_wm : (Lit.int .i64 m).wf = true) :
    Calls Try.prog 4 #[.int .i64 f, .int .i64 t, .int .i64 l, .int .i64 m] w fun e w' => e = .returned (.bool true) ∧ Below w.heap.size w w' := by
  by_cases h : BetOk f t l m
  · obtain ⟨F, hF⟩ : ∃ F, betF f t m (IntKind.i64.wrap (-l)) = F := ⟨_, rfl⟩
    have HS := Lib.hid (fun w => specBet_t f t l m w wl h)
    have HI := Lib.hid (fun w => implBet_t f t l m w wl h)
    rw [hF] at HS HI
    clear hF h
    go_enter Try.func4, Try.ntmps4
    go_wp2_with fail
    refine (HS.out w).mono ?_; rintro e w1 ⟨v1, rfl, r1, b1⟩
    have HR1 := Lib.hid r1
    have HB1 := Lib.hid b1
    have z1 := b1.size
    clear r1 b1
    go_wp2_with fail
    refine (HI.out w1).mono ?_; rintro e w2 ⟨v2, rfl, r2, b2⟩
    have HQ1 := Lib.hid (HR1.out.keep b2 (Nat.le_refl _))
    have HQ2 := Lib.hid r2
    have HB2 := Lib.hid (HB1.out.trans (b2.mono z1))
    have z2 := b2.size
    clear r2 b2
    go_wp2_with fail
    refine (eqBoundS_same _ _ 2 _ _ F _ HQ2.out HQ1.out).mono ?_; rintro e w3 ⟨rfl, b3⟩
    have HT1 := Lib.hid (HQ1.out.keep b3 (Nat.le_refl _))
    have HT2 := Lib.hid (HQ2.out.keep b3 (Nat.le_refl _))
    have HB3 := Lib.hid (HB2.out.trans (b3.mono (by omega)))
    have z3 := b3.size
    clear b3
    go_wp2_with fail
    refine (markBoundS_any w1.heap.size 2 v2 F 1 _ HT2.out (by omega) (by omega)).mono ?_; rintro e w4 ⟨rfl, r4, b4, z4⟩
    have HU1 := Lib.hid (HR1.out.keepLt HT1.out b4 (Nat.le_refl _))
    have HU2 := Lib.hid r4
    have HB4 := Lib.hid (HB3.out.trans (b4.mono z1))
    clear r4 b4
    go_wp2_with fail
    refine (heldBoundS_any w1.heap.size 2 v2 1 _ HU2.out (by omega) (by omega)).mono ?_; rintro e w' ⟨rfl, rfl⟩
    go_wp2_with fail
    refine (HI.out w4).mono ?_; rintro e w5 ⟨v5, rfl, r5, b5⟩
    have HV1 := Lib.hid (HU1.out.keep b5 (Nat.le_refl _))
    have HV2 := Lib.hid (HU2.out.keep b5 (Nat.le_refl _))
    have HV5 := Lib.hid r5
    have HB5 := Lib.hid (HB4.out.trans (b5.mono (by omega)))
    have z5 := b5.size
    clear r5 b5
    go_wp2_with fail
    refine (eqBoundS_same _ _ 2 _ _ F _ HV5.out HV1.out).mono ?_; rintro e w6 ⟨rfl, b6⟩
    have HW2 := Lib.hid (HV2.out.keep b6 (Nat.le_refl _))
    have HB6 := Lib.hid (HB5.out.trans (b6.mono (by omega)))
    clear b6
    go_wp2_with fail
    refine (heldBoundS_any w1.heap.size 2 v2 1 _ HW2.out (by omega) (by omega)).mono ?_; rintro e w' ⟨rfl, rfl⟩
    go_wp2
    go_ret
    exact ⟨rfl, HB6.out⟩
  · have HS := Lib.hid (fun w => specBet_f f t l m w h)
    have HI := Lib.hid (fun w => implBet_f f t l m w wl h)
    clear h
    go_enter Try.func4, Try.ntmps4
    go_wp2_with fail
    refine (HS.out w).mono ?_; rintro e w1 ⟨rfl, b1⟩
    have z1 := b1.size
    go_wp2_with fail
    refine (HI.out w1).mono ?_; rintro e w2 ⟨rfl, b2⟩
    have z2 := b2.size
    go_wp2_with fail
    refine (eqBoundS_same 0 0 0 _ _ [] _ (Recs.nil _ _) (Recs.nil _ _)).mono ?_; rintro e w3 ⟨rfl, b3⟩
    have z3 := b3.size
    go_wp2_with fail
    refine (markNil 1 _ (by omega) (by omega)).mono ?_; rintro e w' ⟨rfl, rfl⟩
    go_wp2_with fail
    refine (heldNil 1 _ (by omega) (by omega)).mono ?_; rintro e w' ⟨rfl, rfl⟩
    go_wp2_with fail
    refine (HI.out w3).mono ?_; rintro e w5 ⟨rfl, b5⟩
    have z5 := b5.size
    go_wp2_with fail
    refine (eqBoundS_same 0 0 0 _ _ [] _ (Recs.nil _ _) (Recs.nil _ _)).mono ?_; rintro e w6 ⟨rfl, b6⟩
    go_wp2_with fail
    refine (heldNil 1 _ (by omega) (by omega)).mono ?_; rintro e w' ⟨rfl, rfl⟩
    go_wp2
    go_ret
    exact ⟨rfl, ((((b1.trans (b2.mono (by omega))).trans (b3.mono (by omega))).trans (b5.mono (by omega))).trans (b6.mono (by omega)))⟩
end Go.Proofs.Ytcelgmecfmegpab
