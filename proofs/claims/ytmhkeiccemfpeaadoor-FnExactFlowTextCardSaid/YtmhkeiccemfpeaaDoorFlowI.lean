/- Has a flow its form? The program's side. -/
import Derived.Test.YtmhkeiccemfpeaaDoorConW
import Derived.Test.YtmhkeiccemfpeaaDoorFlowS
import Derived.Test.YtmhkeiccemfpeaaDoorShiftB
namespace Go.Proofs.YtmhkeiccemfpeaaDoor
open Go.RowKit Go.Shelf
set_option linter.unusedVariables false
set_option linter.unusedSimpArgs false

def vtx (dn : Nat) (x : Int) : Bool := decide (0 ≤ x ∧ x ≤ (dn : Int) - 1)
def astr (dn : Nat) (x y z : Int) : Bool := !(vtx dn x && (vtx dn y && decide (0 ≤ z ∧ z ≤ 20)))
set_option maxRecDepth 100000 in
theorem hasVertex_any (da : Option Addr) (dn dc : Nat) (wa : Option Addr) (wn wc : Nat) (x : Int) (w : World) (hdl : dn ≤ 1048576) :
    Calls Tryd.prog 47 #[.agg #[.slice da dn dc, .slice wa wn wc], .int .i64 x] w fun e w' => e = .returned (.bool (vtx dn x)) ∧ Below w.heap.size w w' := by
  have wr1 : IntKind.i64.wrap ((dn : Int) - 1) = (dn : Int) - 1 := IntWalk.i64_in _ (by omega)
  unfold vtx
  by_cases hx : 0 ≤ x ∧ x ≤ (dn : Int) - 1
  · rw [decide_eq_true hx]
    go_enter Tryd.func47, Tryd.ntmps47
    go_wp2_with fail
    refine (within_i64_t _ _ _ _ hx.1 hx.2).mono ?_; rintro e w' ⟨rfl, rfl⟩
    clear hx
    go_wp2
    go_ret
    exact ⟨rfl, (Below.refl _ _).alloc (Nat.le_refl _) _⟩
  · rw [decide_eq_false hx]
    go_enter Tryd.func47, Tryd.ntmps47
    go_wp2_with fail
    refine (within_i64_f x 0 ((dn : Int) - 1) _ (by omega)).mono ?_; rintro e w' ⟨rfl, rfl⟩
    clear hx
    go_wp2
    go_ret
    exact ⟨rfl, (Below.refl _ _).alloc (Nat.le_refl _) _⟩
set_option maxHeartbeats 2000000 in
set_option maxRecDepth 100000 in
theorem isAstray_any (da : Option Addr) (dn dc : Nat) (wa : Option Addr) (wn wc : Nat) (x y z : Int) (w : World) (hdl : dn ≤ 1048576) :
    Calls Tryd.prog 38 #[.agg #[.slice da dn dc, .slice wa wn wc], .agg #[.int .i64 x, .int .i64 y, .int .i64 z]] w fun e w' => e = .returned (.bool (astr dn x y z)) ∧ Below w.heap.size w w' := by
  have HV := Lib.hid (fun x W => hasVertex_any da dn dc wa wn wc x W hdl)
  obtain ⟨w0, hw0⟩ : ∃ w0, (w.alloc (.cells #[.slice da dn dc, .slice wa wn wc] 31)).alloc (.cells #[.int .i64 x, .int .i64 y, .int .i64 z] 46) = w0 := ⟨_, rfl⟩
  have hb0 : Below w.heap.size w w0 := by rw [← hw0]; exact ((Below.refl _ _).alloc (Nat.le_refl _) _).alloc (by simp) _
  have hs0 : w0.heap.size = w.heap.size + 1 + 1 := by rw [← hw0]; simp
  have HC : Hid (∀ W, Below w0.heap.size w0 W → W.cell? ⟨w.heap.size, 0, none⟩ = some (.slice da dn dc) ∧ W.cell? ⟨w.heap.size, 1, none⟩ = some (.slice wa wn wc) ∧ W.cell? ⟨w.heap.size + 1, 0, none⟩ = some (.int .i64 x) ∧ W.cell? ⟨w.heap.size + 1, 1, none⟩ = some (.int .i64 y) ∧ W.cell? ⟨w.heap.size + 1, 2, none⟩ = some (.int .i64 z)) := fun W h => by
    refine ⟨(h.cell (p := ⟨w.heap.size, 0, none⟩) (by dsimp only; omega)).trans ?_, (h.cell (p := ⟨w.heap.size, 1, none⟩) (by dsimp only; omega)).trans ?_, (h.cell (p := ⟨w.heap.size + 1, 0, none⟩) (by dsimp only; omega)).trans ?_, (h.cell (p := ⟨w.heap.size + 1, 1, none⟩) (by dsimp only; omega)).trans ?_, (h.cell (p := ⟨w.heap.size + 1, 2, none⟩) (by dsimp only; omega)).trans ?_⟩ <;> (rw [← hw0]; simp [go_sem])
  obtain ⟨c0, c1, c2, c3, c4⟩ := HC.out w0 (Below.refl _ _)
  have HB0 := Lib.hid hb0
  clear hb0 hs0
  unfold astr
  cases h1 : vtx dn x with
  | false =>
    have HX := Lib.hid (HV.out x)
    rw [h1] at HX
    clear h1
    simp only [Bool.false_and, Bool.not_false]
    go_enter Tryd.func38, Tryd.ntmps38
    go_wp2_with fail
    refine (HX.out w0).mono ?_; rintro e w1 ⟨rfl, b1⟩
    have HB1 := Lib.hid (HB0.out.trans (b1.mono HB0.out.size))
    clear b1 hw0
    go_wp2
    go_ret
    exact ⟨rfl, HB1.out⟩
  | true =>
    have HX := Lib.hid (HV.out x)
    rw [h1] at HX
    cases h2 : vtx dn y with
    | false =>
      have HY := Lib.hid (HV.out y)
      rw [h2] at HY
      clear h1 h2
      simp only [Bool.false_and, Bool.true_and, Bool.not_false]
      go_enter Tryd.func38, Tryd.ntmps38
      go_wp2_with fail
      refine (HX.out w0).mono ?_; rintro e w1 ⟨rfl, b1⟩
      have HB1 := Lib.hid b1
      clear c0 c1 c2 c3 c4 b1 hw0
      obtain ⟨c0, c1, c2, c3, c4⟩ := HC.out w1 HB1.out
      go_wp2_with fail
      refine (HY.out w1).mono ?_; rintro e w2 ⟨rfl, b2⟩
      have HB2 := Lib.hid (HB0.out.trans ((HB1.out.trans (b2.mono HB1.out.size)).mono HB0.out.size))
      clear b2
      go_wp2
      go_ret
      exact ⟨rfl, HB2.out⟩
    | true =>
      have HY := Lib.hid (HV.out y)
      rw [h2] at HY
      clear h1 h2
      simp only [Bool.true_and]
      by_cases hz : 0 ≤ z ∧ z ≤ 20
      · rw [decide_eq_true hz]
        go_enter Tryd.func38, Tryd.ntmps38
        go_wp2_with fail
        refine (HX.out w0).mono ?_; rintro e w1 ⟨rfl, b1⟩
        have HB1 := Lib.hid b1
        clear c0 c1 c2 c3 c4 b1 hw0
        obtain ⟨c0, c1, c2, c3, c4⟩ := HC.out w1 HB1.out
        go_wp2_with fail
        refine (HY.out w1).mono ?_; rintro e w2 ⟨rfl, b2⟩
        have hb02 := HB1.out.trans (b2.mono HB1.out.size)
        have HB2 := Lib.hid (HB0.out.trans (hb02.mono HB0.out.size))
        clear c0 c1 c2 c3 c4 b2
        obtain ⟨c0, c1, c2, c3, c4⟩ := HC.out w2 hb02
        clear hb02
        go_wp2_with fail
        refine (within_i64_t z 0 20 _ hz.1 hz.2).mono ?_; rintro e w' ⟨rfl, rfl⟩
        clear hz
        go_wp2
        go_ret
        exact ⟨rfl, HB2.out⟩
      · rw [decide_eq_false hz]
        go_enter Tryd.func38, Tryd.ntmps38
        go_wp2_with fail
        refine (HX.out w0).mono ?_; rintro e w1 ⟨rfl, b1⟩
        have HB1 := Lib.hid b1
        clear c0 c1 c2 c3 c4 b1 hw0
        obtain ⟨c0, c1, c2, c3, c4⟩ := HC.out w1 HB1.out
        go_wp2_with fail
        refine (HY.out w1).mono ?_; rintro e w2 ⟨rfl, b2⟩
        have hb02 := HB1.out.trans (b2.mono HB1.out.size)
        have HB2 := Lib.hid (HB0.out.trans (hb02.mono HB0.out.size))
        clear c0 c1 c2 c3 c4 b2
        obtain ⟨c0, c1, c2, c3, c4⟩ := HC.out w2 hb02
        clear hb02
        go_wp2_with fail
        refine (within_i64_f z 0 20 _ (by omega)).mono ?_; rintro e w' ⟨rfl, rfl⟩
        clear hz
        go_wp2
        go_ret
        exact ⟨rfl, HB2.out⟩
theorem astr_any (dn : Nat) (F : List Int) (wn : Nat) : anyW (astr dn) F wn = !((List.range wn).all (flK (dn : Int) F)) := by
  unfold anyW
  induction List.range wn with
  | nil => rfl
  | cons k l ih =>
    simp only [List.any_cons, List.all_cons, ih, Bool.not_and]
    rfl
/-- the least and the greatest number of a row -/
theorem min_any (a : Option Addr) (l : List Int) (n cap : Nat) (w : World) (hn : n = l.length) (h1 : 1 ≤ n) (hl : n ≤ 1048576) (h : RowAt w a l) :
    Calls Tryd.prog 39 #[.slice a n cap] w fun e w' => (∃ m : Int, e = .returned (.int .i64 m) ∧ (∀ k (hk : k < l.length), m ≤ l[k]) ∧ ∃ k, ∃ hk : k < l.length, l[k] = m) ∧ w = w' := by
  have HH := Lib.hid h
  have HN := Lib.hid hn
  obtain ⟨g, rfl, hc0⟩ := h 0 (by omega)
  obtain ⟨y0, hy0⟩ : ∃ y, l[0]'(by omega) = y := ⟨_, rfl⟩
  rw [hy0] at hc0
  have HY0 : Hid (∃ hk : 0 < l.length, l[0] = y0) := ⟨by omega, hy0⟩
  have hltz : ¬ (n : Int) < 1 := by omega
  have hlp : 0 < n := h1
  clear h hn hy0
  go_enter Tryd.func39, Tryd.ntmps39
  go_wp2
  go_loop [3, 4] (fun m i => ∃ (k : Nat) (mv : Int), 1 ≤ k ∧ k ≤ n ∧ i = .int .i64 (k : Int) ∧ m = .int .i64 mv ∧ Hid ((∀ j (hj : j < l.length), j < k → mv ≤ l[j]) ∧ ∃ j, ∃ hj : j < l.length, l[j] = mv)) (fun _ i => n - (intOf i).toNat)
  case atStart =>
    refine ⟨1, y0, Nat.le_refl _, h1, rfl, rfl, fun j hj hj2 => ?_, ?_⟩
    · obtain rfl : j = 0 := by omega
      obtain ⟨_, h9⟩ := HY0.out
      rw [h9]; exact Int.le_refl _
    · obtain ⟨h8, h9⟩ := HY0.out
      exact ⟨0, h8, h9⟩
  case round =>
    obtain ⟨k, mv, hk1, hk, rfl, rfl, HA⟩ := hrel
    clear hc0
    by_cases hlt : k < n
    · have hltk : (k : Int) < (n : Int) := by omega
      have hkl : k < l.length := by have := HN.out; omega
      obtain ⟨g', hg', hc⟩ := HH.out k hkl
      simp only [Option.some.injEq, Addr.mk.injEq, and_true] at hg'
      subst hg'
      obtain ⟨y, hy⟩ : ∃ y, l[k]'hkl = y := ⟨_, rfl⟩
      rw [hy] at hc
      by_cases hym : y < mv
      · have HS : Hid ((∀ j (hj : j < l.length), j < k + 1 → y ≤ l[j]) ∧ ∃ j, ∃ hj : j < l.length, l[j] = y) := ⟨fun j hj h => by
          by_cases e : j = k
          · subst e; rw [hy]; exact Int.le_refl _
          · have := HA.out.1 j hj (by omega); omega, k, hkl, hy⟩
        clear hy hkl
        have hy1 : ¬ mv < y := by omega
        have hy2 : ¬ mv ≤ y := by omega
        have hy3 : y ≤ mv := by omega
        go_wp2
        go_round
        case rel => exact ⟨k + 1, y, by omega, by omega, by go_num, by first | rfl | (simp; omega), HS⟩
        case measure => simp [intOf]; omega
      · have HS : Hid ((∀ j (hj : j < l.length), j < k + 1 → mv ≤ l[j]) ∧ ∃ j, ∃ hj : j < l.length, l[j] = mv) := ⟨fun j hj h => by
          by_cases e : j = k
          · subst e; rw [hy]; omega
          · exact HA.out.1 j hj (by omega), HA.out.2⟩
        clear hy hkl
        have hy2 : mv ≤ y := by omega
        go_wp2
        go_round
        case rel => exact ⟨k + 1, mv, by omega, by omega, by go_num, by first | rfl | (simp; omega), HS⟩
        case measure => simp [intOf]; omega
    · have hltk : ¬ (k : Int) < (n : Int) := by omega
      go_wp2
      go_ret
      exact ⟨⟨mv, rfl, fun j hj => HA.out.1 j hj (by have := HN.out; omega), HA.out.2⟩, rfl⟩
end Go.Proofs.YtmhkeiccemfpeaaDoor
