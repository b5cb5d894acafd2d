/- A waiting list: numbers in a slice that loses its first and gets new last ones. -/
import Derived.Test.YtkipgeecibimoaaHas
import Derived.Test.YtkipgeecibimoaaKept
import Derived.Test.YtkipgeecibimoaaTrail
import Derived.ArgAppend
namespace Go.Proofs.Ytkipgeecibimoaa
open Go.RowKit
set_option linter.unusedVariables false

/-- the slice at a, anywhere in its block, holds the numbers l -/
def RowOff (w : World) (a : Option Addr) (l : List Int) : Prop := ∀ k (hk : k < l.length), ∃ g off, a = some ⟨g, off, none⟩ ∧ w.cell? ⟨g, off + k, none⟩ = some (.int .i64 l[k])
set_option maxRecDepth 100000 in
theorem index_off (a : Option Addr) (l : List Int) (n cap : Nat) (x : Int) (w : World) (hn : n = l.length) (h : RowOff w a l) (hl : l.length ≤ maxLen) :
    Calls Try.prog 166 #[.slice a n cap, .int .i64 x] w fun e w' => ∃ i : Int, e = .returned (.int .i64 i) ∧ -1 ≤ i ∧ decide (0 ≤ i) = hasB l x ∧ w = w' := by
  unfold maxLen at hl
  have HH := Lib.hid h
  have HN := Lib.hid hn
  rw [← hn] at hl
  clear h hn
  go_enter Try.func166, Try.ntmps166
  go_wp2
  go_loop [5, 8] (fun _ i => ∃ k : Nat, k ≤ n ∧ i = .int .i64 (k : Int) ∧ hasB (l.take k) x = false) (fun _ i => n - (intOf i).toNat)
  case atStart => exact ⟨0, Nat.zero_le _, rfl, by simp [hasB]⟩
  case round =>
    obtain ⟨k, hk, rfl, h0⟩ := hrel
    have H0 := Lib.hid h0
    clear h0
    by_cases hlt : k < n
    · obtain ⟨g, off, rfl, hc⟩ := HH.out k (by have := HN.out; omega)
      obtain ⟨y, hy⟩ : ∃ y, l[k]'(by have := HN.out; omega) = y := ⟨_, rfl⟩
      rw [hy] at hc
      by_cases he : y = x
      · have HE := Lib.hid (has_hit l x k (by have := HN.out; omega) (by rw [hy]; exact he))
        have t1 : (x == y) = true := by simp [he]
        clear hy he
        go_wp2
        go_ret
        exact ⟨k, rfl, by omega, by rw [HE.out, decide_eq_true (by omega)], rfl⟩
      · have HE := Lib.hid (has_step l x k (by have := HN.out; omega) H0.out (by rw [hy]; exact he))
        have t1 : (x == y) = false := by simp; exact fun e => he e.symm
        clear hy he
        go_wp2
        go_round
        case rel => exact ⟨k + 1, by omega, by go_num, HE.out⟩
        case measure => simp [intOf]; omega
    · have HE := Lib.hid (has_end l x k (by have := HN.out; omega) H0.out)
      go_wp2
      go_ret
      exact ⟨-1, rfl, by omega, by rw [HE.out]; rfl, rfl⟩
theorem contains_off (a : Option Addr) (l : List Int) (n cap : Nat) (x : Int) (w : World) (hn : n = l.length) (h : RowOff w a l) (hl : l.length ≤ maxLen) :
    Calls Try.prog 116 #[.slice a n cap, .int .i64 x] w fun e w' => e = .returned (.bool (hasB l x)) ∧ w = w' := by
  have HC := Lib.hid (fun w h => index_off a l n cap x w hn h hl)
  have HH := Lib.hid h
  clear h hn hl
  go_enter Try.func116, Try.ntmps116
  go_wp2_with fail
  refine (HC.out _ HH.out).mono ?_; rintro e w' ⟨i, rfl, hi, hd, rfl⟩
  have HD := Lib.hid hd
  clear hd
  go_wp2
  go_ret
  exact ⟨ret_bool HD.out, rfl⟩

/-- the list in block gl waits with the numbers q, which lie behind it -/
def QW (w : World) (gl : Nat) (q : List Int) : Prop := w.frozen? ⟨gl, 0, none⟩ = false ∧ ∃ ao cap, w.cell? ⟨gl, 0, none⟩ = some (.slice ao q.length cap) ∧
  ((ao = none ∧ q = [] ∧ cap = 0) ∨ ∃ g off, ao = some ⟨g, off, none⟩ ∧ gl < g ∧ g < w.heap.size ∧ q.length ≤ cap ∧ (∀ k, k < cap → (w.cell? ⟨g, off + k, none⟩).isSome = true ∧ w.frozen? ⟨g, off + k, none⟩ = false) ∧
    ∀ k (hk : k < q.length), w.cell? ⟨g, off + k, none⟩ = some (.int .i64 q[k]))
theorem QW.lt {w : World} {gl : Nat} {q : List Int} (h : QW w gl q) : gl < w.heap.size := by
  obtain ⟨_, ao, cap, hc, _⟩ := h
  have := World.block_lt_of_cell? w _ hc
  simpa using this
theorem QW.new (w : World) : QW (w.alloc (.cells #[.slice none 0 0] 264)) w.heap.size [] :=
  ⟨by simp, none, 0, by simp, .inl ⟨rfl, rfl, rfl⟩⟩
/-- nothing from gl on turns -/
theorem QW.grown {w w' : World} {gl b : Nat} {q : List Int} (h : QW w gl q) (hg : w.grownBy w' (some b)) (hb : b < gl) : QW w' gl q := by
  have hlt := h.lt
  obtain ⟨hf, ao, cap, hc, hr⟩ := h
  refine ⟨(hg.frozen_far ⟨gl, 0, none⟩ hlt (fun e => by injection e with e; dsimp only at e; omega)).trans hf, ao, cap, (hg.cell_far ⟨gl, 0, none⟩ hlt (fun e => by injection e with e; dsimp only at e; omega)).trans hc, ?_⟩
  rcases hr with hr | ⟨g, off, ha, h1, h2, h3, h4, h5⟩
  · exact .inl hr
  · refine .inr ⟨g, off, ha, h1, Nat.lt_of_lt_of_le h2 hg.size, h3, fun k hk => ?_, fun k hk => ?_⟩
    · rw [hg.cell_far ⟨g, off + k, none⟩ h2 (fun e => by injection e with e; dsimp only at e; omega), hg.frozen_far ⟨g, off + k, none⟩ h2 (fun e => by injection e with e; dsimp only at e; omega)]
      exact h4 k hk
    · rw [hg.cell_far ⟨g, off + k, none⟩ h2 (fun e => by injection e with e; dsimp only at e; omega)]
      exact h5 k hk
theorem QW.below {w w' : World} {gl : Nat} {q : List Int} (h : QW w gl q) (hb : Below w.heap.size w w') : QW w' gl q := by
  have hlt := h.lt
  obtain ⟨hf, ao, cap, hc, hr⟩ := h
  refine ⟨(hb.frozen (p := ⟨gl, 0, none⟩) hlt).trans hf, ao, cap, (hb.cell (p := ⟨gl, 0, none⟩) hlt).trans hc, ?_⟩
  rcases hr with hr | ⟨g, off, ha, h1, h2, h3, h4, h5⟩
  · exact .inl hr
  · refine .inr ⟨g, off, ha, h1, Nat.lt_of_lt_of_le h2 hb.size, h3, fun k hk => ?_, fun k hk => ?_⟩
    · rw [hb.cell (p := ⟨g, off + k, none⟩) h2, hb.frozen (p := ⟨g, off + k, none⟩) h2]
      exact h4 k hk
    · rw [hb.cell (p := ⟨g, off + k, none⟩) h2]
      exact h5 k hk
theorem take_none (gl : Nat) (w : World) (h : QW w gl []) :
    Calls Try.prog 203 #[.pointer (some ⟨gl, 0, none⟩)] w fun e w' => e = .returned (.tuple #[.int .i64 0, .bool false]) ∧ Below w.heap.size w w' := by
  obtain ⟨hf, ao, cap, hc, -⟩ := h
  go_enter Try.func203, Try.ntmps203
  go_wp2
  go_ret2
  exact ⟨rfl, Below.refl _ _⟩
set_option maxRecDepth 100000 in
theorem take_some (gl : Nat) (x : Int) (q : List Int) (w : World) (h : QW w gl (x :: q)) (hq : q.length ≤ 1000) :
    Calls Try.prog 203 #[.pointer (some ⟨gl, 0, none⟩)] w fun e w' => e = .returned (.tuple #[.int .i64 x, .bool true]) ∧ QW w' gl q ∧ Below gl w w' := by
  have hlt := h.lt
  obtain ⟨hf, ao, cap, hc, ⟨_, h0, _⟩ | ⟨g, off, rfl, h1, h2, h3, h4, h5⟩⟩ := h
  · cases h0
  · have hx := h5 0 (by simp)
    rw [List.length_cons] at hc h3
    simp only [Nat.add_zero, List.getElem_cons_zero] at hx
    have H4 := Lib.hid h4
    have H5 := Lib.hid h5
    have hne : (q.length + 1 == 0) = false := by simp
    have hne2 : ((q.length : Int) + 1 == 0) = false := by simp; omega
    have HC := Lib.hid hc
    have HF := Lib.hid hf
    clear h4 h5
    by_cases hc1 : cap = 1
    · obtain rfl : q = [] := List.length_eq_zero_iff.1 (by omega)
      subst hc1
      go_enter Try.func203, Try.ntmps203
      go_wp2
      go_ret2
      refine ⟨rfl, ⟨by simpa using HF.out, _, _, World.cell?_setCell_same w _ _ HC.out, .inr ⟨g, _, rfl, h1, by simpa using h2, by simp, fun k hk => by omega, fun k hk => by simp at hk⟩⟩, (Below.refl gl w).setCell (Nat.le_refl _) _⟩
    · go_enter Try.func203, Try.ntmps203
      go_wp2
      go_ret2
      have hfar : ∀ (j : Nat) (v : Value), (w.setCell ⟨gl, 0, none⟩ v).cell? ⟨g, j, none⟩ = w.cell? ⟨g, j, none⟩ := fun j v => World.cell?_setCell_other w _ _ _ (fun e => by injection e with e1; omega)
      refine ⟨rfl, ⟨by simpa using HF.out, _, _, World.cell?_setCell_same w _ _ HC.out, .inr ⟨g, off + 1, rfl, h1, by simpa using h2, by omega, fun k hk => ?_, fun k hk => ?_⟩⟩, (Below.refl gl w).setCell (Nat.le_refl _) _⟩
      · have := H4.out (k + 1) (by omega)
        rw [show off + 1 + k = off + (k + 1) by omega, hfar]
        simpa using this
      · have := H5.out (k + 1) (by simp; omega)
        rw [show off + 1 + k = off + (k + 1) by omega, hfar, this]
        simp
set_option maxHeartbeats 1000000 in
set_option maxRecDepth 100000 in
theorem add_has (gl : Nat) (x : Int) (q : List Int) (w : World) (h : QW w gl q) (hq : q.length ≤ 1000) (hx : hasB q x = true) :
    Calls Try.prog 202 #[.pointer (some ⟨gl, 0, none⟩), .int .i64 x] w fun e w' => e = .returned (.tuple #[]) ∧ QW w' gl q ∧ Below gl w w' := by
  have HQ := Lib.hid h
  have HX := Lib.hid hx
  obtain ⟨hf, ao, cap, hc, hr⟩ := h
  have hro : RowOff w ao q := fun k hk => by
    rcases hr with ⟨_, h0, _⟩ | ⟨g, off, ha, _, _, _, _, h5⟩
    · rw [h0] at hk; simp at hk
    · exact ⟨g, off, ha, h5 k hk⟩
  have HC := Lib.hid (contains_off ao q q.length cap x w rfl hro (by unfold maxLen; omega))
  clear hr hro hx
  go_enter Try.func202, Try.ntmps202
  go_wp2_with fail
  refine HC.out.mono ?_; rw [HX.out]; rintro e w' ⟨rfl, rfl⟩
  go_wp2
  go_end0
  exact ⟨rfl, HQ.out, Below.refl _ _⟩
theorem own_spare {w : World} {B n : Nat} {v : Value} {xs : List Value} (h : w.ownsRow B 2 1 v n xs) (hn : 0 < n) :
    ∃ g cap, v = .slice (some ⟨g, 0, none⟩) n cap ∧ B ≤ g ∧ g < w.heap.size ∧ n ≤ cap ∧ (∀ k, k < cap → (w.cell? ⟨g, k, none⟩).isSome = true ∧ w.frozen? ⟨g, k, none⟩ = false) ∧ ∀ k, k < n → w.cell? ⟨g, k, none⟩ = xs[k]? := by
  have h' := h
  obtain ⟨_, ⟨rfl, h0⟩ | ⟨g, cap, cur, rfl, hg, hh, hc, hm, hs, ht⟩⟩ := h
  · omega
  · refine ⟨g, cap, rfl, hg, (Array.getElem?_eq_some_iff.1 hh).1, hc, fun k hk => ⟨?_, World.ownsRow.frozenAt h' k⟩, fun k hk => World.ownsRow.cellAt h' k (by omega)⟩
    simp [World.cell?, hh]
    omega
set_option maxHeartbeats 1000000 in
set_option maxRecDepth 100000 in
theorem add_new (gl : Nat) (x : Int) (q : List Int) (w : World) (h : QW w gl q) (hq : q.length ≤ 1000) (hx : hasB q x = false) :
    Calls Try.prog 202 #[.pointer (some ⟨gl, 0, none⟩), .int .i64 x] w fun e w' => e = .returned (.tuple #[]) ∧ QW w' gl (q ++ [x]) ∧ Below gl w w' := by
  obtain ⟨i0, hi, hz0, hz1, hz2⟩ := info_parts info_i64
  have HX := Lib.hid hx
  have hlt := h.lt
  obtain ⟨hf, ao, cap, hc, hr⟩ := h
  have hro : RowOff w ao q := fun k hk => by
    rcases hr with ⟨_, h0, _⟩ | ⟨g, off, ha, _, _, _, _, h5⟩
    · rw [h0] at hk; simp at hk
    · exact ⟨g, off, ha, h5 k hk⟩
  have HC := Lib.hid (contains_off ao q q.length cap x w rfl hro (by unfold maxLen; omega))
  clear hro hx
  rcases hr with ⟨rfl, rfl, rfl⟩ | ⟨g, off, rfl, h1, h2, h3, h4, h5⟩
  · go_enter Try.func202, Try.ntmps202
    go_wp2_with fail
    refine HC.out.mono ?_; rw [HX.out]; rintro e w' ⟨rfl, rfl⟩
    go_wp2_with (at_builtin; refine wpList_append_own _ rfl _ _ 30 rfl w.heap.size 2 i0 (.int .i64 0) 1 8 Try.underlying30 hi hz0 hz1 hz2 rfl (by decide) _ _ _ rfl (World.ownsRow_nil _ _ _ _) ⟨w.heap.size, 0, none⟩ 1 1 [.int .i64 x] rfl rfl ?c1 ?c2 ?c3 ?c4 ?c5 ?_)
    case c1 => exact cell_one_new _ _ _
    case c2 => simp [Value.oneCell']
    case c3 => unfold maxLen; omega
    case c4 => omega
    case c5 => simp
    intro v' w1 hown' hgrow _
    obtain ⟨g, cap, rfl, k1, k2, k3, k4, k5⟩ := own_spare hown' (by omega)
    have hne : ∀ r : Option Nat, (Value.slice none 0 0).ownBlock = r → r = none := fun r e => by rw [← e]; rfl
    have c0 : w1.cell? ⟨gl, 0, none⟩ = some (.slice none 0 0) := (hgrow.cell_far ⟨gl, 0, none⟩ (by simp; omega) (by simp [Value.ownBlock])).trans (cell_alloc_kept hc)
    have f0 : w1.frozen? ⟨gl, 0, none⟩ = false := (hgrow.frozen_far ⟨gl, 0, none⟩ (by simp; omega) (by simp [Value.ownBlock])).trans (((Below.refl w.heap.size w).alloc (Nat.le_refl _) (.cells #[.int .i64 x] 2)).frozen (p := ⟨gl, 0, none⟩) hlt |>.trans hf)
    have HB := Lib.hid (((Below.refl w.heap.size w).alloc (Nat.le_refl _) (.cells #[.int .i64 x] 2)).grown hgrow (by simp) (fun k e => by simp [Value.ownBlock] at e))
    have K4 := Lib.hid k4
    have K5 := Lib.hid k5
    have F0 := Lib.hid f0
    have C0 := Lib.hid c0
    clear hown' hgrow k4 k5
    go_wp2
    go_end0
    have hfar : ∀ (j : Nat) (v : Value), (w1.setCell ⟨gl, 0, none⟩ v).cell? ⟨g, j, none⟩ = w1.cell? ⟨g, j, none⟩ := fun j v => World.cell?_setCell_other w1 _ _ _ (fun e => by injection e with e1; omega)
    refine ⟨rfl, ⟨by simpa using F0.out, _, _, World.cell?_setCell_same w1 _ _ C0.out, .inr ⟨g, 0, rfl, by omega, by simpa using k2, by simpa using k3, fun k hk => ?_, fun k hk => ?_⟩⟩, (HB.out.mono (show gl ≤ w.heap.size by omega)).setCell (p := ⟨gl, 0, none⟩) (Nat.le_refl _) _⟩
    · rw [Nat.zero_add, hfar]; simpa using K4.out k hk
    · rw [Nat.zero_add, hfar, K5.out k (by simpa using hk)]
      have : k = 0 := by simp at hk; omega
      subst this; rfl
  · go_enter Try.func202, Try.ntmps202
    go_wp2_with fail
    refine HC.out.mono ?_; rw [HX.out]; rintro e w' ⟨rfl, rfl⟩
    have hal := (Below.refl w.heap.size w).alloc (Nat.le_refl _) (.cells #[.int .i64 x] 2)
    have HAL := Lib.hid hal
    have H4 := Lib.hid h4
    have H5 := Lib.hid h5
    have HC0 := Lib.hid hc
    have HF0 := Lib.hid hf
    clear h4 h5 hal
    go_wp2_with (at_builtin; refine wpList_append_arg _ rfl _ _ 30 rfl 2 i0 (.int .i64 0) 1 8 Try.underlying30 hi hz0 hz1 hz2 rfl (by decide) g off q.length cap (q.map (Value.int .i64)) rfl (by simp) ?c1 ⟨w.heap.size, 0, none⟩ 1 1 [.int .i64 x] rfl rfl ?c2 ?c3 ?c4 ?c5 ?c6 ?c7 ?c8)
    case c1 =>
      intro j u hj
      rw [List.getElem?_map] at hj
      obtain ⟨y, hy, rfl⟩ := Option.map_eq_some_iff.1 hj
      obtain ⟨hj2, rfl⟩ := List.getElem?_eq_some_iff.1 hy
      exact cell_alloc_kept (H5.out j hj2)
    case c2 => exact cell_one_new _ _ _
    case c3 => simp [Value.oneCell']
    case c4 =>
      intro hroom j hj
      obtain rfl : j = 0 := by simpa using hj
      have := H4.out q.length (by omega)
      have hb := HAL.out
      rw [Nat.mul_one, Nat.add_zero, hb.cell (p := ⟨g, off + q.length, none⟩) h2, hb.frozen (p := ⟨g, off + q.length, none⟩) h2]
      exact this
    case c5 => unfold maxLen; omega
    case c6 => omega
    case c7 =>
      intro hroom
      have hb := HAL.out
      obtain ⟨W2, hW2⟩ : ∃ W2, w.alloc (.cells #[.int .i64 x] 2) = W2 := ⟨_, rfl⟩
      rw [hW2] at hb
      have c0 : W2.cell? ⟨gl, 0, none⟩ = some (.slice (some ⟨g, off, none⟩) q.length cap) := (hb.cell (p := ⟨gl, 0, none⟩) hlt).trans HC0.out
      have f0 : W2.frozen? ⟨gl, 0, none⟩ = false := (hb.frozen (p := ⟨gl, 0, none⟩) hlt).trans HF0.out
      have f1 : ∀ k, k < cap → (W2.cell? ⟨g, off + k, none⟩).isSome = true ∧ W2.frozen? ⟨g, off + k, none⟩ = false := fun k hk => by
        rw [hb.cell (p := ⟨g, off + k, none⟩) h2, hb.frozen (p := ⟨g, off + k, none⟩) h2]; exact H4.out k hk
      have f2 : ∀ k (hk : k < q.length), W2.cell? ⟨g, off + k, none⟩ = some (.int .i64 q[k]) := fun k hk => by
        rw [hb.cell (p := ⟨g, off + k, none⟩) h2]; exact H5.out k hk
      rw [show w.alloc (.cells #[.int .i64 x] 2) = W2 from hW2]
      have e1 : W2.setCells g (off + q.length) [.int .i64 x] = W2.setCell ⟨g, off + q.length, none⟩ (.int .i64 x) := rfl
      rw [e1]
      obtain ⟨W3, hW3⟩ : ∃ W3, W2.setCell ⟨g, off + q.length, none⟩ (.int .i64 x) = W3 := ⟨_, rfl⟩
      have c3 : W3.cell? ⟨gl, 0, none⟩ = some (.slice (some ⟨g, off, none⟩) q.length cap) := by rw [← hW3, World.cell?_setCell_other _ _ _ _ (fun e => by injection e with e1; omega)]; exact c0
      have f3 : W3.frozen? ⟨gl, 0, none⟩ = false := by rw [← hW3]; simpa using f0
      have f4 : ∀ k, k < cap → (W3.cell? ⟨g, off + k, none⟩).isSome = true ∧ W3.frozen? ⟨g, off + k, none⟩ = false := fun k hk => by
        rw [← hW3]
        refine ⟨?_, by simpa using (f1 k hk).2⟩
        obtain ⟨u, hu⟩ := Option.isSome_iff_exists.1 (f1 k hk).1
        obtain ⟨v', hv'⟩ := cell?_setCell_some (p := ⟨g, off + q.length, none⟩) (x := .int .i64 x) hu
        rw [hv']; rfl
      have f5 : ∀ k (hk : k < (q ++ [x]).length), W3.cell? ⟨g, off + k, none⟩ = some (.int .i64 (q ++ [x])[k]) := fun k hk => by
        rw [← hW3]
        by_cases hk2 : k < q.length
        · rw [World.cell?_setCell_other _ _ _ _ (fun e => by injection e with e1 e2; omega), f2 k hk2, List.getElem_append_left hk2]
        · obtain rfl : k = q.length := by simp at hk; omega
          obtain ⟨u, hu⟩ := Option.isSome_iff_exists.1 (f1 q.length (by omega)).1
          rw [World.cell?_setCell_same _ _ _ hu]
          simp
      have HB3 : Hid (Below gl w W3) := by
        rw [Hid, ← hW3]
        exact (hb.mono (show gl ≤ w.heap.size by omega)).setCell (p := ⟨g, off + q.length, none⟩) (by dsimp only; omega) _
      have hs3 : g < W3.heap.size := by rw [← hW3]; simp; exact Nat.lt_of_lt_of_le h2 hb.size
      rw [hW3]
      have F4 := Lib.hid f4
      have F5 := Lib.hid f5
      have C3 := Lib.hid c3
      have F3 := Lib.hid f3
      clear hW3 e1 hW2 hb c0 f0 f1 f2 f4 f5
      go_wp2
      go_end0
      have hfar : ∀ (j : Nat) (v : Value), (W3.setCell ⟨gl, 0, none⟩ v).cell? ⟨g, j, none⟩ = W3.cell? ⟨g, j, none⟩ := fun j v => World.cell?_setCell_other W3 _ _ _ (fun e => by injection e with e1; omega)
      refine ⟨rfl, ⟨by simpa using F3.out, some ⟨g, off, none⟩, cap, by rw [List.length_append]; exact World.cell?_setCell_same W3 _ _ C3.out, .inr ⟨g, off, rfl, h1, by simpa using hs3, by simp; omega, fun k hk => ?_, fun k hk => ?_⟩⟩, HB3.out.setCell (p := ⟨gl, 0, none⟩) (Nat.le_refl _) _⟩
      · rw [hfar]; simpa using F4.out k hk
      · rw [hfar]; exact F5.out k hk
    case c8 =>
      intro hfull v' w1 hown' hgrow
      obtain ⟨g', cap', rfl, k1, k2, k3, k4, k5⟩ := own_spare hown' (by omega)
      have c0 : w1.cell? ⟨gl, 0, none⟩ = some (.slice (some ⟨g, off, none⟩) q.length cap) := (hgrow.cell_far ⟨gl, 0, none⟩ (by simp; omega) (by simp)).trans (cell_alloc_kept HC0.out)
      have f0 : w1.frozen? ⟨gl, 0, none⟩ = false := (hgrow.frozen_far ⟨gl, 0, none⟩ (by simp; omega) (by simp)).trans ((HAL.out.frozen (p := ⟨gl, 0, none⟩) hlt).trans HF0.out)
      have HB := Lib.hid (HAL.out.grown hgrow (by simp) (fun k e => by cases e))
      have k1' : w.heap.size ≤ g' := by omega
      have K4 := Lib.hid k4
      have K5 := Lib.hid k5
      have F0 := Lib.hid f0
      have C0 := Lib.hid c0
      clear hown' hgrow k4 k5
      go_wp2
      go_end0
      have hfar : ∀ (j : Nat) (v : Value), (w1.setCell ⟨gl, 0, none⟩ v).cell? ⟨g', j, none⟩ = w1.cell? ⟨g', j, none⟩ := fun j v => World.cell?_setCell_other w1 _ _ _ (fun e => by injection e with e1; omega)
      refine ⟨rfl, ⟨by simpa using F0.out, some ⟨g', 0, none⟩, cap', by rw [List.length_append]; exact World.cell?_setCell_same w1 _ _ C0.out, .inr ⟨g', 0, rfl, by omega, by simpa using k2, by simpa using k3, fun k hk => ?_, fun k hk => ?_⟩⟩, (HB.out.mono (show gl ≤ w.heap.size by omega)).setCell (p := ⟨gl, 0, none⟩) (Nat.le_refl _) _⟩
      · rw [Nat.zero_add, hfar]; simpa using K4.out k hk
      · rw [Nat.zero_add, hfar, K5.out k (by simpa using hk)]
        by_cases hk2 : k < q.length
        · rw [List.getElem?_append_left (by simpa using hk2), List.getElem_append_left hk2]; simp [hk2]
        · obtain rfl : k = q.length := by simp at hk; omega
          rw [List.getElem?_append_right (by simp)]; simp
end Go.Proofs.Ytkipgeecibimoaa
