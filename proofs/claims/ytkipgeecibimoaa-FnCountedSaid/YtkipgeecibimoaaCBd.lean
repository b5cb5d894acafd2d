/- Bounds of a period, by counts and by spans: both sides, and the laws' walks. -/
import Derived.Test.YtkipgeecibimoaaMake
import Derived.Test.YtkipgeecibimoaaSMake
import Derived.Test.YtkipgeecibimoaaPair
namespace Go.Proofs.Ytkipgeecibimoaa
open Go.RowKit
set_option linter.unusedVariables false
set_option linter.unusedSimpArgs false

theorem below_drX {B : Nat} {a w : World} (h : Below B a w) : Below B a w.drew := ⟨h.os, h.tape, h.output, h.size, h.block⟩
set_option maxHeartbeats 2000000 in
set_option maxRecDepth 100000 in
theorem implCB_t (c : Int) (t : Int) (w : World) (h0 : 2 ≤ c) (h1 : c ≤ 400) (h2 : 1 ≤ t) (h3 : t ≤ 400) :
    Calls Try.prog 24 #[.int .i64 c, .int .i64 t] w fun e w' => e = .returned (.tuple #[.agg #[.int .i64 (mkN (t) (c + 1)), .int .i64 (mkD (t) (c + 1))], .agg #[.int .i64 (mkN (t) (c - 1)), .int .i64 (mkD (t) (c - 1))], .bool true]) ∧ Below w.heap.size w w' := by
  have wr1 : IntKind.i64.wrap (c + 1) = c + 1 := IntWalk.i64_in _ (by omega)
  have wr2 : IntKind.i64.wrap (c - 1) = c - 1 := IntWalk.i64_in _ (by omega)
  go_enter Try.func24, Try.ntmps24
  go_wp2_with fail
  refine (within_i64_t _ _ _ _ (by omega) (by omega)).mono ?_; rintro e w' ⟨rfl, rfl⟩
  go_wp2_with fail
  refine (within_i64_t _ _ _ _ (by omega) (by omega)).mono ?_; rintro e w' ⟨rfl, rfl⟩
  go_wp2_with fail
  refine (implMake_t (t) (c + 1) _ (by omega) (by omega) (by omega) (by omega) (by omega)).mono ?_; rintro e w1 ⟨rfl, b1⟩
  have P1 := ((At2.new w (.int .i64 0) (.int .i64 0) 37).below ((Below.refl (w.heap.size + 1) (w.alloc (.cells #[.int .i64 0, .int .i64 0] 37))).alloc (by simp) (.cells #[.int .i64 0, .int .i64 0] 37)) (by simp)).below b1 (by simp; omega)
  have Q1 := (At2.new (w.alloc (.cells #[.int .i64 0, .int .i64 0] 37)) (.int .i64 0) (.int .i64 0) 37).below b1 (by simp)
  simp only [World.size_alloc] at Q1
  have hB1 : Below w.heap.size w w1 := (((Below.refl w.heap.size w).alloc (Nat.le_refl _) (.cells #[.int .i64 0, .int .i64 0] 37)).alloc (by simp) (.cells #[.int .i64 0, .int .i64 0] 37)).trans (b1.mono (by simp; omega))
  have hs1 : w.heap.size + 1 < w1.heap.size := by have := b1.size; simp at this; omega
  have HB1 := Lib.hid hB1
  have HP1 := Lib.hid P1
  have HQ1 := Lib.hid Q1
  clear b1 P1 Q1 hB1
  go_wp2_with fail
  refine (implMake_t (t) (c - 1) _ (by omega) (by omega) (by omega) (by omega) (by omega)).mono ?_; rintro e w2 ⟨rfl, b2⟩
  have hX : Below w1.heap.size w1 (w1.alloc (.cells #[.int .i64 (mkN (t) (c + 1)), .int .i64 (mkD (t) (c + 1))] 37)) := (Below.refl w1.heap.size w1).alloc (Nat.le_refl _) _
  have hXs : (w1.alloc (.cells #[.int .i64 (mkN (t) (c + 1)), .int .i64 (mkD (t) (c + 1))] 37)).heap.size = w1.heap.size + 1 := by simp
  have hY := hX.trans (b2.mono (by omega))
  have R := (At2.new w1 (.int .i64 (mkN (t) (c + 1))) (.int .i64 (mkD (t) (c + 1))) 37).below b2 (by simp)
  have HY := Lib.hid (HB1.out.trans (hY.mono HB1.out.size))
  have hs2 := b2.size
  rw [hXs] at hs2
  have P2 := HP1.out.below hY (by omega)
  have Q2 := HQ1.out.below hY (by omega)
  go_wp2
  have S3 := At2.new w2 (.int .i64 (mkN (t) (c - 1))) (.int .i64 (mkD (t) (c - 1))) 37
  have P3 := P2.alloc (.cells #[.int .i64 (mkN (t) (c - 1)), .int .i64 (mkD (t) (c - 1))] 37)
  have Q3 := Q2.alloc (.cells #[.int .i64 (mkN (t) (c - 1)), .int .i64 (mkD (t) (c - 1))] 37)
  have R3 := R.alloc (.cells #[.int .i64 (mkN (t) (c - 1)), .int .i64 (mkD (t) (c - 1))] 37)
  have HB3 := Lib.hid (HY.out.alloc (o := .cells #[.int .i64 (mkN (t) (c - 1)), .int .i64 (mkD (t) (c - 1))] 37) (by have := HY.out.size; omega))
  obtain ⟨w3, hw3⟩ : ∃ w3, w2.alloc (.cells #[.int .i64 (mkN (t) (c - 1)), .int .i64 (mkD (t) (c - 1))] 37) = w3 := ⟨_, rfl⟩
  rw [hw3] at S3 P3 Q3 R3 HB3 ⊢
  obtain ⟨p0, p1, p2, p3⟩ := P3
  obtain ⟨q0, q1, q2, q3⟩ := Q3
  obtain ⟨r0, r1, r2, r3⟩ := R3
  obtain ⟨t0, t1, t2, t3⟩ := S3
  have hn1 : w1.heap.size ≠ w.heap.size := by omega
  have hn2 : w1.heap.size ≠ w.heap.size + 1 := by omega
  have hn3 : w2.heap.size ≠ w.heap.size := by omega
  have hn4 : w2.heap.size ≠ w.heap.size + 1 := by omega
  clear hw3 b2 hX hXs hY R HY P2 Q2 HP1 HQ1 HB1
  go_region
  all_goals
    go_wp2
    refine bodyPost_ret (v := .tuple #[.agg #[.int .i64 (mkN (t) (c + 1)), .int .i64 (mkD (t) (c + 1))], .agg #[.int .i64 (mkN (t) (c - 1)), .int .i64 (mkD (t) (c - 1))], .bool true]) (by simp [results, Try.results24, go_sem, p0, p1, q0, q1]) rfl ⟨rfl, ?_⟩
    have b := (((HB3.out.setCell (p := ⟨w.heap.size, 0, none⟩) (by simp) (.int .i64 (mkN (t) (c + 1)))).setCell (p := ⟨w.heap.size, 1, none⟩) (by simp) (.int .i64 (mkD (t) (c + 1)))).setCell (p := ⟨w.heap.size + 1, 0, none⟩) (by simp) (.int .i64 (mkN (t) (c - 1)))).setCell (p := ⟨w.heap.size + 1, 1, none⟩) (by simp) (.int .i64 (mkD (t) (c - 1)))
    first
      | exact ⟨b.os, b.tape, b.output, b.size, b.block⟩
      | (repeat' first | exact HB3.out | (refine Below.setCell ?_ (by simp) _) | (refine below_drX ?_))
set_option maxHeartbeats 2000000 in
set_option maxRecDepth 100000 in
theorem implSB_t (f : Int) (l : Int) (c : Int) (w : World) (h0 : 1 ≤ l) (h1 : l ≤ 400) (h2 : 0 ≤ f) (h3 : f ≤ l - 1) (h4 : 2 ≤ c) (h5 : c ≤ 400) :
    Calls Try.prog 25 #[.int .i64 f, .int .i64 l, .int .i64 c] w fun e w' => e = .returned (.tuple #[.agg #[.int .i64 (mkN (l - f - 1) (c - 1)), .int .i64 (mkD (l - f - 1) (c - 1))], .agg #[.int .i64 (mkN (l - f + 1) (c - 1)), .int .i64 (mkD (l - f + 1) (c - 1))], .bool true]) ∧ Below w.heap.size w w' := by
  have wr0 : IntKind.i64.wrap (l - 1) = l - 1 := IntWalk.i64_in _ (by omega)
  have wr1 : IntKind.i64.wrap (l - f) = l - f := IntWalk.i64_in _ (by omega)
  have wr2 : IntKind.i64.wrap (l - f - 1) = l - f - 1 := IntWalk.i64_in _ (by omega)
  have wr3 : IntKind.i64.wrap (l - f + 1) = l - f + 1 := IntWalk.i64_in _ (by omega)
  have wr4 : IntKind.i64.wrap (c - 1) = c - 1 := IntWalk.i64_in _ (by omega)
  go_enter Try.func25, Try.ntmps25
  go_wp2_with fail
  refine (within_i64_t _ _ _ _ (by omega) (by omega)).mono ?_; rintro e w' ⟨rfl, rfl⟩
  go_wp2_with fail
  refine (within_i64_t _ _ _ _ (by omega) (by omega)).mono ?_; rintro e w' ⟨rfl, rfl⟩
  go_wp2_with fail
  refine (within_i64_t _ _ _ _ (by omega) (by omega)).mono ?_; rintro e w' ⟨rfl, rfl⟩
  go_wp2_with fail
  refine (implMake_t (l - f - 1) (c - 1) _ (by omega) (by omega) (by omega) (by omega) (by omega)).mono ?_; rintro e w1 ⟨rfl, b1⟩
  have P1 := ((At2.new w (.int .i64 0) (.int .i64 0) 37).below ((Below.refl (w.heap.size + 1) (w.alloc (.cells #[.int .i64 0, .int .i64 0] 37))).alloc (by simp) (.cells #[.int .i64 0, .int .i64 0] 37)) (by simp)).below b1 (by simp; omega)
  have Q1 := (At2.new (w.alloc (.cells #[.int .i64 0, .int .i64 0] 37)) (.int .i64 0) (.int .i64 0) 37).below b1 (by simp)
  simp only [World.size_alloc] at Q1
  have hB1 : Below w.heap.size w w1 := (((Below.refl w.heap.size w).alloc (Nat.le_refl _) (.cells #[.int .i64 0, .int .i64 0] 37)).alloc (by simp) (.cells #[.int .i64 0, .int .i64 0] 37)).trans (b1.mono (by simp; omega))
  have hs1 : w.heap.size + 1 < w1.heap.size := by have := b1.size; simp at this; omega
  have HB1 := Lib.hid hB1
  have HP1 := Lib.hid P1
  have HQ1 := Lib.hid Q1
  clear b1 P1 Q1 hB1
  go_wp2_with fail
  refine (implMake_t (l - f + 1) (c - 1) _ (by omega) (by omega) (by omega) (by omega) (by omega)).mono ?_; rintro e w2 ⟨rfl, b2⟩
  have hX : Below w1.heap.size w1 (w1.alloc (.cells #[.int .i64 (mkN (l - f - 1) (c - 1)), .int .i64 (mkD (l - f - 1) (c - 1))] 37)) := (Below.refl w1.heap.size w1).alloc (Nat.le_refl _) _
  have hXs : (w1.alloc (.cells #[.int .i64 (mkN (l - f - 1) (c - 1)), .int .i64 (mkD (l - f - 1) (c - 1))] 37)).heap.size = w1.heap.size + 1 := by simp
  have hY := hX.trans (b2.mono (by omega))
  have R := (At2.new w1 (.int .i64 (mkN (l - f - 1) (c - 1))) (.int .i64 (mkD (l - f - 1) (c - 1))) 37).below b2 (by simp)
  have HY := Lib.hid (HB1.out.trans (hY.mono HB1.out.size))
  have hs2 := b2.size
  rw [hXs] at hs2
  have P2 := HP1.out.below hY (by omega)
  have Q2 := HQ1.out.below hY (by omega)
  go_wp2
  have S3 := At2.new w2 (.int .i64 (mkN (l - f + 1) (c - 1))) (.int .i64 (mkD (l - f + 1) (c - 1))) 37
  have P3 := P2.alloc (.cells #[.int .i64 (mkN (l - f + 1) (c - 1)), .int .i64 (mkD (l - f + 1) (c - 1))] 37)
  have Q3 := Q2.alloc (.cells #[.int .i64 (mkN (l - f + 1) (c - 1)), .int .i64 (mkD (l - f + 1) (c - 1))] 37)
  have R3 := R.alloc (.cells #[.int .i64 (mkN (l - f + 1) (c - 1)), .int .i64 (mkD (l - f + 1) (c - 1))] 37)
  have HB3 := Lib.hid (HY.out.alloc (o := .cells #[.int .i64 (mkN (l - f + 1) (c - 1)), .int .i64 (mkD (l - f + 1) (c - 1))] 37) (by have := HY.out.size; omega))
  obtain ⟨w3, hw3⟩ : ∃ w3, w2.alloc (.cells #[.int .i64 (mkN (l - f + 1) (c - 1)), .int .i64 (mkD (l - f + 1) (c - 1))] 37) = w3 := ⟨_, rfl⟩
  rw [hw3] at S3 P3 Q3 R3 HB3 ⊢
  obtain ⟨p0, p1, p2, p3⟩ := P3
  obtain ⟨q0, q1, q2, q3⟩ := Q3
  obtain ⟨r0, r1, r2, r3⟩ := R3
  obtain ⟨t0, t1, t2, t3⟩ := S3
  have hn1 : w1.heap.size ≠ w.heap.size := by omega
  have hn2 : w1.heap.size ≠ w.heap.size + 1 := by omega
  have hn3 : w2.heap.size ≠ w.heap.size := by omega
  have hn4 : w2.heap.size ≠ w.heap.size + 1 := by omega
  clear hw3 b2 hX hXs hY R HY P2 Q2 HP1 HQ1 HB1
  go_region
  all_goals
    go_wp2
    refine bodyPost_ret (v := .tuple #[.agg #[.int .i64 (mkN (l - f - 1) (c - 1)), .int .i64 (mkD (l - f - 1) (c - 1))], .agg #[.int .i64 (mkN (l - f + 1) (c - 1)), .int .i64 (mkD (l - f + 1) (c - 1))], .bool true]) (by simp [results, Try.results25, go_sem, p0, p1, q0, q1]) rfl ⟨rfl, ?_⟩
    have b := (((HB3.out.setCell (p := ⟨w.heap.size, 0, none⟩) (by simp) (.int .i64 (mkN (l - f - 1) (c - 1)))).setCell (p := ⟨w.heap.size, 1, none⟩) (by simp) (.int .i64 (mkD (l - f - 1) (c - 1)))).setCell (p := ⟨w.heap.size + 1, 0, none⟩) (by simp) (.int .i64 (mkN (l - f + 1) (c - 1)))).setCell (p := ⟨w.heap.size + 1, 1, none⟩) (by simp) (.int .i64 (mkD (l - f + 1) (c - 1)))
    first
      | exact ⟨b.os, b.tape, b.output, b.size, b.block⟩
      | (repeat' first | exact HB3.out | (refine Below.setCell ?_ (by simp) _) | (refine below_drX ?_))
theorem cell_two_alloc {W : World} {b o : Nat} {v : Value} {x y : Obj} (hb : b < W.heap.size) (h : W.cell? ⟨b, o, none⟩ = some v) : ((W.alloc x).alloc y).cell? ⟨b, o, none⟩ = some v :=
  ((((Below.refl W.heap.size W).alloc (Nat.le_refl _) x).alloc (by simp) y).cell (p := ⟨b, o, none⟩) hb).trans h
theorem Below_zero2 (w : World) : Below w.heap.size w ((w.alloc (.cells #[.int .i64 0, .int .i64 0] 37)).alloc (.cells #[.int .i64 0, .int .i64 0] 37)) := ((Below.refl w.heap.size w).alloc (Nat.le_refl _) _).alloc (by simp) _
theorem implCB_f (c : Int) (t : Int) (w : World) (h : ¬ ((2 ≤ c ∧ c ≤ 400) ∧ (1 ≤ t ∧ t ≤ 400))) :
    Calls Try.prog 24 #[.int .i64 c, .int .i64 t] w fun e w' => e = .returned (.tuple #[.agg #[.int .i64 0, .int .i64 0], .agg #[.int .i64 0, .int .i64 0], .bool false]) ∧ Below w.heap.size w w' := by
  by_cases o0 : 2 ≤ c ∧ c ≤ 400
  case neg =>
    go_enter Try.func24, Try.ntmps24
    go_wp2_with fail
    refine (within_i64_f _ _ _ _ (by omega)).mono ?_; rintro e w' ⟨rfl, rfl⟩
    go_wp2
    refine bodyPost_ret (v := .tuple #[.agg #[.int .i64 0, .int .i64 0], .agg #[.int .i64 0, .int .i64 0], .bool false]) (by simp [results, Try.results24, go_sem]) rfl ⟨rfl, ?_⟩
    exact Below_zero2 w
  go_enter Try.func24, Try.ntmps24
  go_wp2_with fail
  refine (within_i64_t _ _ _ _ (by omega) (by omega)).mono ?_; rintro e w' ⟨rfl, rfl⟩
  go_wp2_with fail
  refine (within_i64_f _ _ _ _ (by omega)).mono ?_; rintro e w' ⟨rfl, rfl⟩
  go_wp2
  refine bodyPost_ret (v := .tuple #[.agg #[.int .i64 0, .int .i64 0], .agg #[.int .i64 0, .int .i64 0], .bool false]) (by simp [results, Try.results24, go_sem]) rfl ⟨rfl, ?_⟩
  exact Below_zero2 w
theorem implSB_f (f : Int) (l : Int) (c : Int) (w : World) (h : ¬ ((1 ≤ l ∧ l ≤ 400) ∧ (0 ≤ f ∧ f ≤ l - 1) ∧ (2 ≤ c ∧ c ≤ 400))) :
    Calls Try.prog 25 #[.int .i64 f, .int .i64 l, .int .i64 c] w fun e w' => e = .returned (.tuple #[.agg #[.int .i64 0, .int .i64 0], .agg #[.int .i64 0, .int .i64 0], .bool false]) ∧ Below w.heap.size w w' := by
  by_cases o0 : 1 ≤ l ∧ l ≤ 400
  case neg =>
    go_enter Try.func25, Try.ntmps25
    go_wp2_with fail
    refine (within_i64_f _ _ _ _ (by omega)).mono ?_; rintro e w' ⟨rfl, rfl⟩
    go_wp2
    refine bodyPost_ret (v := .tuple #[.agg #[.int .i64 0, .int .i64 0], .agg #[.int .i64 0, .int .i64 0], .bool false]) (by simp [results, Try.results25, go_sem]) rfl ⟨rfl, ?_⟩
    exact Below_zero2 w
  by_cases o1 : 0 ≤ f ∧ f ≤ l - 1
  case neg =>
    have wr0 : IntKind.i64.wrap (l - 1) = l - 1 := IntWalk.i64_in _ (by omega)
    go_enter Try.func25, Try.ntmps25
    go_wp2_with fail
    refine (within_i64_t _ _ _ _ (by omega) (by omega)).mono ?_; rintro e w' ⟨rfl, rfl⟩
    go_wp2_with fail
    refine (within_i64_f _ _ _ _ (by omega)).mono ?_; rintro e w' ⟨rfl, rfl⟩
    go_wp2
    refine bodyPost_ret (v := .tuple #[.agg #[.int .i64 0, .int .i64 0], .agg #[.int .i64 0, .int .i64 0], .bool false]) (by simp [results, Try.results25, go_sem]) rfl ⟨rfl, ?_⟩
    exact Below_zero2 w
  have wr0 : IntKind.i64.wrap (l - 1) = l - 1 := IntWalk.i64_in _ (by omega)
  go_enter Try.func25, Try.ntmps25
  go_wp2_with fail
  refine (within_i64_t _ _ _ _ (by omega) (by omega)).mono ?_; rintro e w' ⟨rfl, rfl⟩
  go_wp2_with fail
  refine (within_i64_t _ _ _ _ (by omega) (by omega)).mono ?_; rintro e w' ⟨rfl, rfl⟩
  go_wp2_with fail
  refine (within_i64_f _ _ _ _ (by omega)).mono ?_; rintro e w' ⟨rfl, rfl⟩
  go_wp2
  refine bodyPost_ret (v := .tuple #[.agg #[.int .i64 0, .int .i64 0], .agg #[.int .i64 0, .int .i64 0], .bool false]) (by simp [results, Try.results25, go_sem]) rfl ⟨rfl, ?_⟩
  exact Below_zero2 w
end Go.Proofs.Ytkipgeecibimoaa
