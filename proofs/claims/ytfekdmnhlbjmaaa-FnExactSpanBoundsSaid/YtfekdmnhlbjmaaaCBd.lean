/- Bounds of a period, by counts and by spans: both sides, and the laws' walks. -/
import Derived.Test.YtfekdmnhlbjmaaaMake
import Derived.Test.YtfekdmnhlbjmaaaSMake
import Derived.Test.YtfekdmnhlbjmaaaPair
namespace Go.Proofs.Ytfekdmnhlbjmaaa
open Go.RowKit
set_option linter.unusedVariables false
set_option linter.unusedSimpArgs false

theorem below_drX {B : Nat} {a w : World} (h : Below B a w) : Below B a w.drew := ⟨h.os, h.tape, h.output, h.size, h.block⟩
set_option maxHeartbeats 2000000 in
set_option maxRecDepth 100000 in
theorem specCB_t (c : Int) (t : Int) (w : World) (h0 : 2 ≤ c) (h1 : c ≤ 400) (h2 : 1 ≤ t) (h3 : t ≤ 400) :
    Calls Try.prog 13 #[.int .i64 c, .int .i64 t] w fun e w' => e = .returned (.tuple #[.agg #[.int .i64 (mkN (t) (c + 1)), .int .i64 (mkD (t) (c + 1))], .agg #[.int .i64 (mkN (t) (c - 1)), .int .i64 (mkD (t) (c - 1))], .bool true]) ∧ Below w.heap.size w w' := by
  have wr1 : IntKind.i64.wrap (c + 1) = c + 1 := IntWalk.i64_in _ (by omega)
  have wr2 : IntKind.i64.wrap (c - 1) = c - 1 := IntWalk.i64_in _ (by omega)
  go_enter Try.func13, Try.ntmps13
  go_wp2_with fail
  refine (l00In_t _ _ _ _ (by omega) (by omega)).mono ?_; rintro e w' ⟨rfl, rfl⟩
  go_wp2_with fail
  refine (l00In_t _ _ _ _ (by omega) (by omega)).mono ?_; rintro e w' ⟨rfl, rfl⟩
  go_wp2_with fail
  refine (l01FMake_any (t) (c + 1) _ (by omega) (by omega) (by omega) (by omega) (by omega)).mono ?_; rintro e w1 ⟨rfl, b1⟩
  have P1 := ((At2.new w (.int .i64 0) (.int .i64 0) 23).below ((Below.refl (w.heap.size + 1) (w.alloc (.cells #[.int .i64 0, .int .i64 0] 23))).alloc (by simp) (.cells #[.int .i64 0, .int .i64 0] 23)) (by simp)).below b1 (by simp; omega)
  have Q1 := (At2.new (w.alloc (.cells #[.int .i64 0, .int .i64 0] 23)) (.int .i64 0) (.int .i64 0) 23).below b1 (by simp)
  simp only [World.size_alloc] at Q1
  have hB1 : Below w.heap.size w w1 := (((Below.refl w.heap.size w).alloc (Nat.le_refl _) (.cells #[.int .i64 0, .int .i64 0] 23)).alloc (by simp) (.cells #[.int .i64 0, .int .i64 0] 23)).trans (b1.mono (by simp; omega))
  have hs1 : w.heap.size + 1 < w1.heap.size := by have := b1.size; simp at this; omega
  have HB1 := Lib.hid hB1
  have HP1 := Lib.hid P1
  have HQ1 := Lib.hid Q1
  clear b1 P1 Q1 hB1
  go_wp2_with fail
  refine (l01FMake_any (t) (c - 1) _ (by omega) (by omega) (by omega) (by omega) (by omega)).mono ?_; rintro e w2 ⟨rfl, b2⟩
  obtain ⟨p0, p1, p2, p3⟩ := HP1.out.below b2 (by omega)
  obtain ⟨q0, q1, q2, q3⟩ := HQ1.out.below b2 (by omega)
  have HB2 := Lib.hid (HB1.out.trans (b2.mono HB1.out.size))
  clear b2
  go_wp2
  refine bodyPost_ret (v := .tuple #[.agg #[.int .i64 (mkN (t) (c + 1)), .int .i64 (mkD (t) (c + 1))], .agg #[.int .i64 (mkN (t) (c - 1)), .int .i64 (mkD (t) (c - 1))], .bool true]) (by simp [results, Try.results13, go_sem, p0, p1, q0, q1]) rfl ⟨rfl, ?_⟩
  exact (((HB2.out.setCell (by simp) _).setCell (by simp) _).setCell (by simp) _).setCell (by simp) _
set_option maxHeartbeats 2000000 in
set_option maxRecDepth 100000 in
theorem implCB_t (c : Int) (t : Int) (w : World) (h0 : 2 ≤ c) (h1 : c ≤ 400) (h2 : 1 ≤ t) (h3 : t ≤ 400) :
    Calls Try.prog 14 #[.int .i64 c, .int .i64 t] w fun e w' => e = .returned (.tuple #[.agg #[.int .i64 (mkN (t) (c + 1)), .int .i64 (mkD (t) (c + 1))], .agg #[.int .i64 (mkN (t) (c - 1)), .int .i64 (mkD (t) (c - 1))], .bool true]) ∧ Below w.heap.size w w' := by
  have wr1 : IntKind.i64.wrap (c + 1) = c + 1 := IntWalk.i64_in _ (by omega)
  have wr2 : IntKind.i64.wrap (c - 1) = c - 1 := IntWalk.i64_in _ (by omega)
  go_enter Try.func14, Try.ntmps14
  go_wp2_with fail
  refine (within_i64_t _ _ _ _ (by omega) (by omega)).mono ?_; rintro e w' ⟨rfl, rfl⟩
  go_wp2_with fail
  refine (within_i64_t _ _ _ _ (by omega) (by omega)).mono ?_; rintro e w' ⟨rfl, rfl⟩
  go_wp2_with fail
  refine (implMake_t (t) (c + 1) _ (by omega) (by omega) (by omega) (by omega) (by omega)).mono ?_; rintro e w1 ⟨rfl, b1⟩
  have P1 := ((At2.new w (.int .i64 0) (.int .i64 0) 23).below ((Below.refl (w.heap.size + 1) (w.alloc (.cells #[.int .i64 0, .int .i64 0] 23))).alloc (by simp) (.cells #[.int .i64 0, .int .i64 0] 23)) (by simp)).below b1 (by simp; omega)
  have Q1 := (At2.new (w.alloc (.cells #[.int .i64 0, .int .i64 0] 23)) (.int .i64 0) (.int .i64 0) 23).below b1 (by simp)
  simp only [World.size_alloc] at Q1
  have hB1 : Below w.heap.size w w1 := (((Below.refl w.heap.size w).alloc (Nat.le_refl _) (.cells #[.int .i64 0, .int .i64 0] 23)).alloc (by simp) (.cells #[.int .i64 0, .int .i64 0] 23)).trans (b1.mono (by simp; omega))
  have hs1 : w.heap.size + 1 < w1.heap.size := by have := b1.size; simp at this; omega
  have HB1 := Lib.hid hB1
  have HP1 := Lib.hid P1
  have HQ1 := Lib.hid Q1
  clear b1 P1 Q1 hB1
  go_wp2_with fail
  refine (implMake_t (t) (c - 1) _ (by omega) (by omega) (by omega) (by omega) (by omega)).mono ?_; rintro e w2 ⟨rfl, b2⟩
  have hX : Below w1.heap.size w1 (w1.alloc (.cells #[.int .i64 (mkN (t) (c + 1)), .int .i64 (mkD (t) (c + 1))] 23)) := (Below.refl w1.heap.size w1).alloc (Nat.le_refl _) _
  have hXs : (w1.alloc (.cells #[.int .i64 (mkN (t) (c + 1)), .int .i64 (mkD (t) (c + 1))] 23)).heap.size = w1.heap.size + 1 := by simp
  have hY := hX.trans (b2.mono (by omega))
  have R := (At2.new w1 (.int .i64 (mkN (t) (c + 1))) (.int .i64 (mkD (t) (c + 1))) 23).below b2 (by simp)
  have HY := Lib.hid (HB1.out.trans (hY.mono HB1.out.size))
  have hs2 := b2.size
  rw [hXs] at hs2
  have P2 := HP1.out.below hY (by omega)
  have Q2 := HQ1.out.below hY (by omega)
  go_wp2
  have S3 := At2.new w2 (.int .i64 (mkN (t) (c - 1))) (.int .i64 (mkD (t) (c - 1))) 23
  have P3 := P2.alloc (.cells #[.int .i64 (mkN (t) (c - 1)), .int .i64 (mkD (t) (c - 1))] 23)
  have Q3 := Q2.alloc (.cells #[.int .i64 (mkN (t) (c - 1)), .int .i64 (mkD (t) (c - 1))] 23)
  have R3 := R.alloc (.cells #[.int .i64 (mkN (t) (c - 1)), .int .i64 (mkD (t) (c - 1))] 23)
  have HB3 := Lib.hid (HY.out.alloc (o := .cells #[.int .i64 (mkN (t) (c - 1)), .int .i64 (mkD (t) (c - 1))] 23) (by have := HY.out.size; omega))
  obtain ⟨w3, hw3⟩ : ∃ w3, w2.alloc (.cells #[.int .i64 (mkN (t) (c - 1)), .int .i64 (mkD (t) (c - 1))] 23) = w3 := ⟨_, rfl⟩
  rw [hw3] at S3 P3 Q3 R3 HB3 ⊢
  obtain ⟨p0, p1, p2, p3⟩ := P3
  obtain ⟨q0, q1, q2, q3⟩ := Q3
  obtain ⟨r0, r1, r2, r3⟩ := R3
  obtain ⟨t0, t1, t2, t3⟩ := S3
  have hn1 : w1.heap.size ≠ w.heap.size := by omega
  have hn2 : w1.heap.size ≠ w.heap.size + 1 := by omega
  have hn3 : w2.heap.size ≠ w.heap.size := by omega
  have hn4 : w2.heap.size ≠ w.heap.size + 1 := by omega
  clear hw3 b2 hX hXs hY R HY P2 Q2 HP1 HQ1 HB1
  go_region
  all_goals
    go_wp2
    refine bodyPost_ret (v := .tuple #[.agg #[.int .i64 (mkN (t) (c + 1)), .int .i64 (mkD (t) (c + 1))], .agg #[.int .i64 (mkN (t) (c - 1)), .int .i64 (mkD (t) (c - 1))], .bool true]) (by simp [results, Try.results14, go_sem, p0, p1, q0, q1]) rfl ⟨rfl, ?_⟩
    have b := (((HB3.out.setCell (p := ⟨w.heap.size, 0, none⟩) (by simp) (.int .i64 (mkN (t) (c + 1)))).setCell (p := ⟨w.heap.size, 1, none⟩) (by simp) (.int .i64 (mkD (t) (c + 1)))).setCell (p := ⟨w.heap.size + 1, 0, none⟩) (by simp) (.int .i64 (mkN (t) (c - 1)))).setCell (p := ⟨w.heap.size + 1, 1, none⟩) (by simp) (.int .i64 (mkD (t) (c - 1)))
    first
      | exact ⟨b.os, b.tape, b.output, b.size, b.block⟩
      | (repeat' first | exact HB3.out | (refine Below.setCell ?_ (by simp) _) | (refine below_drX ?_))
set_option maxHeartbeats 2000000 in
set_option maxRecDepth 100000 in
theorem specSB_t (f : Int) (l : Int) (c : Int) (w : World) (h0 : 1 ≤ l) (h1 : l ≤ 400) (h2 : 0 ≤ f) (h3 : f ≤ l - 1) (h4 : 2 ≤ c) (h5 : c ≤ 400) :
    Calls Try.prog 16 #[.int .i64 f, .int .i64 l, .int .i64 c] w fun e w' => e = .returned (.tuple #[.agg #[.int .i64 (mkN (l - f - 1) (c - 1)), .int .i64 (mkD (l - f - 1) (c - 1))], .agg #[.int .i64 (mkN (l - f + 1) (c - 1)), .int .i64 (mkD (l - f + 1) (c - 1))], .bool true]) ∧ Below w.heap.size w w' := by
  have wr0 : IntKind.i64.wrap (l - 1) = l - 1 := IntWalk.i64_in _ (by omega)
  have wr1 : IntKind.i64.wrap (l - f) = l - f := IntWalk.i64_in _ (by omega)
  have wr2 : IntKind.i64.wrap (l - f - 1) = l - f - 1 := IntWalk.i64_in _ (by omega)
  have wr3 : IntKind.i64.wrap (l - f + 1) = l - f + 1 := IntWalk.i64_in _ (by omega)
  have wr4 : IntKind.i64.wrap (c - 1) = c - 1 := IntWalk.i64_in _ (by omega)
  go_enter Try.func16, Try.ntmps16
  go_wp2_with fail
  refine (l00In_t _ _ _ _ (by omega) (by omega)).mono ?_; rintro e w' ⟨rfl, rfl⟩
  go_wp2_with fail
  refine (l00In_t _ _ _ _ (by omega) (by omega)).mono ?_; rintro e w' ⟨rfl, rfl⟩
  go_wp2_with fail
  refine (l00In_t _ _ _ _ (by omega) (by omega)).mono ?_; rintro e w' ⟨rfl, rfl⟩
  go_wp2_with fail
  refine (l01FMake_any (l - f - 1) (c - 1) _ (by omega) (by omega) (by omega) (by omega) (by omega)).mono ?_; rintro e w1 ⟨rfl, b1⟩
  have P1 := ((At2.new w (.int .i64 0) (.int .i64 0) 23).below ((Below.refl (w.heap.size + 1) (w.alloc (.cells #[.int .i64 0, .int .i64 0] 23))).alloc (by simp) (.cells #[.int .i64 0, .int .i64 0] 23)) (by simp)).below b1 (by simp; omega)
  have Q1 := (At2.new (w.alloc (.cells #[.int .i64 0, .int .i64 0] 23)) (.int .i64 0) (.int .i64 0) 23).below b1 (by simp)
  simp only [World.size_alloc] at Q1
  have hB1 : Below w.heap.size w w1 := (((Below.refl w.heap.size w).alloc (Nat.le_refl _) (.cells #[.int .i64 0, .int .i64 0] 23)).alloc (by simp) (.cells #[.int .i64 0, .int .i64 0] 23)).trans (b1.mono (by simp; omega))
  have hs1 : w.heap.size + 1 < w1.heap.size := by have := b1.size; simp at this; omega
  have HB1 := Lib.hid hB1
  have HP1 := Lib.hid P1
  have HQ1 := Lib.hid Q1
  clear b1 P1 Q1 hB1
  go_wp2_with fail
  refine (l01FMake_any (l - f + 1) (c - 1) _ (by omega) (by omega) (by omega) (by omega) (by omega)).mono ?_; rintro e w2 ⟨rfl, b2⟩
  obtain ⟨p0, p1, p2, p3⟩ := HP1.out.below b2 (by omega)
  obtain ⟨q0, q1, q2, q3⟩ := HQ1.out.below b2 (by omega)
  have HB2 := Lib.hid (HB1.out.trans (b2.mono HB1.out.size))
  clear b2
  go_wp2
  refine bodyPost_ret (v := .tuple #[.agg #[.int .i64 (mkN (l - f - 1) (c - 1)), .int .i64 (mkD (l - f - 1) (c - 1))], .agg #[.int .i64 (mkN (l - f + 1) (c - 1)), .int .i64 (mkD (l - f + 1) (c - 1))], .bool true]) (by simp [results, Try.results16, go_sem, p0, p1, q0, q1]) rfl ⟨rfl, ?_⟩
  exact (((HB2.out.setCell (by simp) _).setCell (by simp) _).setCell (by simp) _).setCell (by simp) _
set_option maxHeartbeats 2000000 in
set_option maxRecDepth 100000 in
theorem implSB_t (f : Int) (l : Int) (c : Int) (w : World) (h0 : 1 ≤ l) (h1 : l ≤ 400) (h2 : 0 ≤ f) (h3 : f ≤ l - 1) (h4 : 2 ≤ c) (h5 : c ≤ 400) :
    Calls Try.prog 17 #[.int .i64 f, .int .i64 l, .int .i64 c] w fun e w' => e = .returned (.tuple #[.agg #[.int .i64 (mkN (l - f - 1) (c - 1)), .int .i64 (mkD (l - f - 1) (c - 1))], .agg #[.int .i64 (mkN (l - f + 1) (c - 1)), .int .i64 (mkD (l - f + 1) (c - 1))], .bool true]) ∧ Below w.heap.size w w' := by
  have wr0 : IntKind.i64.wrap (l - 1) = l - 1 := IntWalk.i64_in _ (by omega)
  have wr1 : IntKind.i64.wrap (l - f) = l - f := IntWalk.i64_in _ (by omega)
  have wr2 : IntKind.i64.wrap (l - f - 1) = l - f - 1 := IntWalk.i64_in _ (by omega)
  have wr3 : IntKind.i64.wrap (l - f + 1) = l - f + 1 := IntWalk.i64_in _ (by omega)
  have wr4 : IntKind.i64.wrap (c - 1) = c - 1 := IntWalk.i64_in _ (by omega)
  go_enter Try.func17, Try.ntmps17
  go_wp2_with fail
  refine (within_i64_t _ _ _ _ (by omega) (by omega)).mono ?_; rintro e w' ⟨rfl, rfl⟩
  go_wp2_with fail
  refine (within_i64_t _ _ _ _ (by omega) (by omega)).mono ?_; rintro e w' ⟨rfl, rfl⟩
  go_wp2_with fail
  refine (within_i64_t _ _ _ _ (by omega) (by omega)).mono ?_; rintro e w' ⟨rfl, rfl⟩
  go_wp2_with fail
  refine (implMake_t (l - f - 1) (c - 1) _ (by omega) (by omega) (by omega) (by omega) (by omega)).mono ?_; rintro e w1 ⟨rfl, b1⟩
  have P1 := ((At2.new w (.int .i64 0) (.int .i64 0) 23).below ((Below.refl (w.heap.size + 1) (w.alloc (.cells #[.int .i64 0, .int .i64 0] 23))).alloc (by simp) (.cells #[.int .i64 0, .int .i64 0] 23)) (by simp)).below b1 (by simp; omega)
  have Q1 := (At2.new (w.alloc (.cells #[.int .i64 0, .int .i64 0] 23)) (.int .i64 0) (.int .i64 0) 23).below b1 (by simp)
  simp only [World.size_alloc] at Q1
  have hB1 : Below w.heap.size w w1 := (((Below.refl w.heap.size w).alloc (Nat.le_refl _) (.cells #[.int .i64 0, .int .i64 0] 23)).alloc (by simp) (.cells #[.int .i64 0, .int .i64 0] 23)).trans (b1.mono (by simp; omega))
  have hs1 : w.heap.size + 1 < w1.heap.size := by have := b1.size; simp at this; omega
  have HB1 := Lib.hid hB1
  have HP1 := Lib.hid P1
  have HQ1 := Lib.hid Q1
  clear b1 P1 Q1 hB1
  go_wp2_with fail
  refine (implMake_t (l - f + 1) (c - 1) _ (by omega) (by omega) (by omega) (by omega) (by omega)).mono ?_; rintro e w2 ⟨rfl, b2⟩
  have hX : Below w1.heap.size w1 (w1.alloc (.cells #[.int .i64 (mkN (l - f - 1) (c - 1)), .int .i64 (mkD (l - f - 1) (c - 1))] 23)) := (Below.refl w1.heap.size w1).alloc (Nat.le_refl _) _
  have hXs : (w1.alloc (.cells #[.int .i64 (mkN (l - f - 1) (c - 1)), .int .i64 (mkD (l - f - 1) (c - 1))] 23)).heap.size = w1.heap.size + 1 := by simp
  have hY := hX.trans (b2.mono (by omega))
  have R := (At2.new w1 (.int .i64 (mkN (l - f - 1) (c - 1))) (.int .i64 (mkD (l - f - 1) (c - 1))) 23).below b2 (by simp)
  have HY := Lib.hid (HB1.out.trans (hY.mono HB1.out.size))
  have hs2 := b2.size
  rw [hXs] at hs2
  have P2 := HP1.out.below hY (by omega)
  have Q2 := HQ1.out.below hY (by omega)
  go_wp2
  have S3 := At2.new w2 (.int .i64 (mkN (l - f + 1) (c - 1))) (.int .i64 (mkD (l - f + 1) (c - 1))) 23
  have P3 := P2.alloc (.cells #[.int .i64 (mkN (l - f + 1) (c - 1)), .int .i64 (mkD (l - f + 1) (c - 1))] 23)
  have Q3 := Q2.alloc (.cells #[.int .i64 (mkN (l - f + 1) (c - 1)), .int .i64 (mkD (l - f + 1) (c - 1))] 23)
  have R3 := R.alloc (.cells #[.int .i64 (mkN (l - f + 1) (c - 1)), .int .i64 (mkD (l - f + 1) (c - 1))] 23)
  have HB3 := Lib.hid (HY.out.alloc (o := .cells #[.int .i64 (mkN (l - f + 1) (c - 1)), .int .i64 (mkD (l - f + 1) (c - 1))] 23) (by have := HY.out.size; omega))
  obtain ⟨w3, hw3⟩ : ∃ w3, w2.alloc (.cells #[.int .i64 (mkN (l - f + 1) (c - 1)), .int .i64 (mkD (l - f + 1) (c - 1))] 23) = w3 := ⟨_, rfl⟩
  rw [hw3] at S3 P3 Q3 R3 HB3 ⊢
  obtain ⟨p0, p1, p2, p3⟩ := P3
  obtain ⟨q0, q1, q2, q3⟩ := Q3
  obtain ⟨r0, r1, r2, r3⟩ := R3
  obtain ⟨t0, t1, t2, t3⟩ := S3
  have hn1 : w1.heap.size ≠ w.heap.size := by omega
  have hn2 : w1.heap.size ≠ w.heap.size + 1 := by omega
  have hn3 : w2.heap.size ≠ w.heap.size := by omega
  have hn4 : w2.heap.size ≠ w.heap.size + 1 := by omega
  clear hw3 b2 hX hXs hY R HY P2 Q2 HP1 HQ1 HB1
  go_region
  all_goals
    go_wp2
    refine bodyPost_ret (v := .tuple #[.agg #[.int .i64 (mkN (l - f - 1) (c - 1)), .int .i64 (mkD (l - f - 1) (c - 1))], .agg #[.int .i64 (mkN (l - f + 1) (c - 1)), .int .i64 (mkD (l - f + 1) (c - 1))], .bool true]) (by simp [results, Try.results17, go_sem, p0, p1, q0, q1]) rfl ⟨rfl, ?_⟩
    have b := (((HB3.out.setCell (p := ⟨w.heap.size, 0, none⟩) (by simp) (.int .i64 (mkN (l - f - 1) (c - 1)))).setCell (p := ⟨w.heap.size, 1, none⟩) (by simp) (.int .i64 (mkD (l - f - 1) (c - 1)))).setCell (p := ⟨w.heap.size + 1, 0, none⟩) (by simp) (.int .i64 (mkN (l - f + 1) (c - 1)))).setCell (p := ⟨w.heap.size + 1, 1, none⟩) (by simp) (.int .i64 (mkD (l - f + 1) (c - 1)))
    first
      | exact ⟨b.os, b.tape, b.output, b.size, b.block⟩
      | (repeat' first | exact HB3.out | (refine Below.setCell ?_ (by simp) _) | (refine below_drX ?_))
theorem cell_two_alloc {W : World} {b o : Nat} {v : Value} {x y : Obj} (hb : b < W.heap.size) (h : W.cell? ⟨b, o, none⟩ = some v) : ((W.alloc x).alloc y).cell? ⟨b, o, none⟩ = some v :=
  ((((Below.refl W.heap.size W).alloc (Nat.le_refl _) x).alloc (by simp) y).cell (p := ⟨b, o, none⟩) hb).trans h
theorem Below_zero2 (w : World) : Below w.heap.size w ((w.alloc (.cells #[.int .i64 0, .int .i64 0] 23)).alloc (.cells #[.int .i64 0, .int .i64 0] 23)) := ((Below.refl w.heap.size w).alloc (Nat.le_refl _) _).alloc (by simp) _
theorem specCB_f (c : Int) (t : Int) (w : World) (h : ¬ ((2 ≤ c ∧ c ≤ 400) ∧ (1 ≤ t ∧ t ≤ 400))) :
    Calls Try.prog 13 #[.int .i64 c, .int .i64 t] w fun e w' => e = .returned (.tuple #[.agg #[.int .i64 0, .int .i64 0], .agg #[.int .i64 0, .int .i64 0], .bool false]) ∧ Below w.heap.size w w' := by
  by_cases o0 : 2 ≤ c ∧ c ≤ 400
  case neg =>
    go_enter Try.func13, Try.ntmps13
    go_wp2_with fail
    refine (l00In_f _ _ _ _ (by omega)).mono ?_; rintro e w' ⟨rfl, rfl⟩
    go_wp2
    refine bodyPost_ret (v := .tuple #[.agg #[.int .i64 0, .int .i64 0], .agg #[.int .i64 0, .int .i64 0], .bool false]) (by simp [results, Try.results13, go_sem]) rfl ⟨rfl, ?_⟩
    exact Below_zero2 w
  go_enter Try.func13, Try.ntmps13
  go_wp2_with fail
  refine (l00In_t _ _ _ _ (by omega) (by omega)).mono ?_; rintro e w' ⟨rfl, rfl⟩
  go_wp2_with fail
  refine (l00In_f _ _ _ _ (by omega)).mono ?_; rintro e w' ⟨rfl, rfl⟩
  go_wp2
  refine bodyPost_ret (v := .tuple #[.agg #[.int .i64 0, .int .i64 0], .agg #[.int .i64 0, .int .i64 0], .bool false]) (by simp [results, Try.results13, go_sem]) rfl ⟨rfl, ?_⟩
  exact Below_zero2 w
theorem implCB_f (c : Int) (t : Int) (w : World) (h : ¬ ((2 ≤ c ∧ c ≤ 400) ∧ (1 ≤ t ∧ t ≤ 400))) :
    Calls Try.prog 14 #[.int .i64 c, .int .i64 t] w fun e w' => e = .returned (.tuple #[.agg #[.int .i64 0, .int .i64 0], .agg #[.int .i64 0, .int .i64 0], .bool false]) ∧ Below w.heap.size w w' := by
  by_cases o0 : 2 ≤ c ∧ c ≤ 400
  case neg =>
    go_enter Try.func14, Try.ntmps14
    go_wp2_with fail
    refine (within_i64_f _ _ _ _ (by omega)).mono ?_; rintro e w' ⟨rfl, rfl⟩
    go_wp2
    refine bodyPost_ret (v := .tuple #[.agg #[.int .i64 0, .int .i64 0], .agg #[.int .i64 0, .int .i64 0], .bool false]) (by simp [results, Try.results14, go_sem]) rfl ⟨rfl, ?_⟩
    exact Below_zero2 w
  go_enter Try.func14, Try.ntmps14
  go_wp2_with fail
  refine (within_i64_t _ _ _ _ (by omega) (by omega)).mono ?_; rintro e w' ⟨rfl, rfl⟩
  go_wp2_with fail
  refine (within_i64_f _ _ _ _ (by omega)).mono ?_; rintro e w' ⟨rfl, rfl⟩
  go_wp2
  refine bodyPost_ret (v := .tuple #[.agg #[.int .i64 0, .int .i64 0], .agg #[.int .i64 0, .int .i64 0], .bool false]) (by simp [results, Try.results14, go_sem]) rfl ⟨rfl, ?_⟩
  exact Below_zero2 w
theorem specSB_f (f : Int) (l : Int) (c : Int) (w : World) (h : ¬ ((1 ≤ l ∧ l ≤ 400) ∧ (0 ≤ f ∧ f ≤ l - 1) ∧ (2 ≤ c ∧ c ≤ 400))) :
    Calls Try.prog 16 #[.int .i64 f, .int .i64 l, .int .i64 c] w fun e w' => e = .returned (.tuple #[.agg #[.int .i64 0, .int .i64 0], .agg #[.int .i64 0, .int .i64 0], .bool false]) ∧ Below w.heap.size w w' := by
  by_cases o0 : 1 ≤ l ∧ l ≤ 400
  case neg =>
    go_enter Try.func16, Try.ntmps16
    go_wp2_with fail
    refine (l00In_f _ _ _ _ (by omega)).mono ?_; rintro e w' ⟨rfl, rfl⟩
    go_wp2
    refine bodyPost_ret (v := .tuple #[.agg #[.int .i64 0, .int .i64 0], .agg #[.int .i64 0, .int .i64 0], .bool false]) (by simp [results, Try.results16, go_sem]) rfl ⟨rfl, ?_⟩
    exact Below_zero2 w
  by_cases o1 : 0 ≤ f ∧ f ≤ l - 1
  case neg =>
    have wr0 : IntKind.i64.wrap (l - 1) = l - 1 := IntWalk.i64_in _ (by omega)
    go_enter Try.func16, Try.ntmps16
    go_wp2_with fail
    refine (l00In_t _ _ _ _ (by omega) (by omega)).mono ?_; rintro e w' ⟨rfl, rfl⟩
    go_wp2_with fail
    refine (l00In_f _ _ _ _ (by omega)).mono ?_; rintro e w' ⟨rfl, rfl⟩
    go_wp2
    refine bodyPost_ret (v := .tuple #[.agg #[.int .i64 0, .int .i64 0], .agg #[.int .i64 0, .int .i64 0], .bool false]) (by simp [results, Try.results16, go_sem]) rfl ⟨rfl, ?_⟩
    exact Below_zero2 w
  have wr0 : IntKind.i64.wrap (l - 1) = l - 1 := IntWalk.i64_in _ (by omega)
  go_enter Try.func16, Try.ntmps16
  go_wp2_with fail
  refine (l00In_t _ _ _ _ (by omega) (by omega)).mono ?_; rintro e w' ⟨rfl, rfl⟩
  go_wp2_with fail
  refine (l00In_t _ _ _ _ (by omega) (by omega)).mono ?_; rintro e w' ⟨rfl, rfl⟩
  go_wp2_with fail
  refine (l00In_f _ _ _ _ (by omega)).mono ?_; rintro e w' ⟨rfl, rfl⟩
  go_wp2
  refine bodyPost_ret (v := .tuple #[.agg #[.int .i64 0, .int .i64 0], .agg #[.int .i64 0, .int .i64 0], .bool false]) (by simp [results, Try.results16, go_sem]) rfl ⟨rfl, ?_⟩
  exact Below_zero2 w
theorem implSB_f (f : Int) (l : Int) (c : Int) (w : World) (h : ¬ ((1 ≤ l ∧ l ≤ 400) ∧ (0 ≤ f ∧ f ≤ l - 1) ∧ (2 ≤ c ∧ c ≤ 400))) :
    Calls Try.prog 17 #[.int .i64 f, .int .i64 l, .int .i64 c] w fun e w' => e = .returned (.tuple #[.agg #[.int .i64 0, .int .i64 0], .agg #[.int .i64 0, .int .i64 0], .bool false]) ∧ Below w.heap.size w w' := by
  by_cases o0 : 1 ≤ l ∧ l ≤ 400
  case neg =>
    go_enter Try.func17, Try.ntmps17
    go_wp2_with fail
    refine (within_i64_f _ _ _ _ (by omega)).mono ?_; rintro e w' ⟨rfl, rfl⟩
    go_wp2
    refine bodyPost_ret (v := .tuple #[.agg #[.int .i64 0, .int .i64 0], .agg #[.int .i64 0, .int .i64 0], .bool false]) (by simp [results, Try.results17, go_sem]) rfl ⟨rfl, ?_⟩
    exact Below_zero2 w
  by_cases o1 : 0 ≤ f ∧ f ≤ l - 1
  case neg =>
    have wr0 : IntKind.i64.wrap (l - 1) = l - 1 := IntWalk.i64_in _ (by omega)
    go_enter Try.func17, Try.ntmps17
    go_wp2_with fail
    refine (within_i64_t _ _ _ _ (by omega) (by omega)).mono ?_; rintro e w' ⟨rfl, rfl⟩
    go_wp2_with fail
    refine (within_i64_f _ _ _ _ (by omega)).mono ?_; rintro e w' ⟨rfl, rfl⟩
    go_wp2
    refine bodyPost_ret (v := .tuple #[.agg #[.int .i64 0, .int .i64 0], .agg #[.int .i64 0, .int .i64 0], .bool false]) (by simp [results, Try.results17, go_sem]) rfl ⟨rfl, ?_⟩
    exact Below_zero2 w
  have wr0 : IntKind.i64.wrap (l - 1) = l - 1 := IntWalk.i64_in _ (by omega)
  go_enter Try.func17, Try.ntmps17
  go_wp2_with fail
  refine (within_i64_t _ _ _ _ (by omega) (by omega)).mono ?_; rintro e w' ⟨rfl, rfl⟩
  go_wp2_with fail
  refine (within_i64_t _ _ _ _ (by omega) (by omega)).mono ?_; rintro e w' ⟨rfl, rfl⟩
  go_wp2_with fail
  refine (within_i64_f _ _ _ _ (by omega)).mono ?_; rintro e w' ⟨rfl, rfl⟩
  go_wp2
  refine bodyPost_ret (v := .tuple #[.agg #[.int .i64 0, .int .i64 0], .agg #[.int .i64 0, .int .i64 0], .bool false]) (by simp [results, Try.results17, go_sem]) rfl ⟨rfl, ?_⟩
  exact Below_zero2 w
theorem cb_both (c : Int) (t : Int) : ∃ (N D M E : Int) (k : Bool), (∀ w, Calls Try.prog 13 #[.int .i64 c, .int .i64 t] w fun e w' => e = .returned (.tuple #[.agg #[.int .i64 N, .int .i64 D], .agg #[.int .i64 M, .int .i64 E], .bool k]) ∧ Below w.heap.size w w') ∧ (∀ w, Calls Try.prog 14 #[.int .i64 c, .int .i64 t] w fun e w' => e = .returned (.tuple #[.agg #[.int .i64 N, .int .i64 D], .agg #[.int .i64 M, .int .i64 E], .bool k]) ∧ Below w.heap.size w w') := by
  by_cases h : (2 ≤ c ∧ c ≤ 400) ∧ (1 ≤ t ∧ t ≤ 400)
  · exact ⟨_, _, _, _, _, fun w => specCB_t c t w (by omega) (by omega) (by omega) (by omega), fun w => implCB_t c t w (by omega) (by omega) (by omega) (by omega)⟩
  · exact ⟨_, _, _, _, _, fun w => specCB_f c t w h, fun w => implCB_f c t w h⟩
set_option maxHeartbeats 2000000 in
set_option maxRecDepth 100000 in
theorem walk_FnExactCountBounds (c : Int) (t : Int) (w : World) (_w0 : (Lit.int .i64 c).wf = true) (_w1 : (Lit.int .i64 t).wf = true) :
    Calls Try.prog 3 #[.int .i64 c, .int .i64 t] w fun e w' => e = .returned (.bool true) ∧ Below w.heap.size w w' := by
  obtain ⟨N, D, M, E, k, hS, hI⟩ := cb_both c t
  have HS := Lib.hid hS
  have HI := Lib.hid hI
  clear hS hI
  go_enter Try.func3, Try.ntmps3
  go_wp2_with fail
  refine (HS.out _).mono ?_; rintro e w1 ⟨rfl, b1⟩
  have HB1 := Lib.hid b1
  clear b1
  go_wp2_with fail
  refine (HI.out _).mono ?_; rintro e w2 ⟨rfl, b2⟩
  have A1 := ((At2.new w1 (.int .i64 N) (.int .i64 D) 23).alloc (.cells #[.int .i64 M, .int .i64 E] 23)).below b2 (by simp; omega)
  have A2 := (At2.new (w1.alloc (.cells #[.int .i64 N, .int .i64 D] 23)) (.int .i64 M) (.int .i64 E) 23).below b2 (by simp)
  simp only [World.size_alloc] at A2
  have hb2 : Below w1.heap.size w1 w2 := (((Below.refl w1.heap.size w1).alloc (Nat.le_refl _) (.cells #[.int .i64 N, .int .i64 D] 23)).alloc (by simp) (.cells #[.int .i64 M, .int .i64 E] 23)).trans (b2.mono (by simp; omega))
  have hs2 : w1.heap.size + 1 < w2.heap.size := by have := b2.size; simp at this; omega
  have HB2 := Lib.hid (HB1.out.trans (hb2.mono HB1.out.size))
  obtain ⟨p0, p1, p2, p3⟩ := A1
  obtain ⟨q0, q1, q2, q3⟩ := A2
  have hs3 : w1.heap.size < w2.heap.size := by omega
  have hs4 : w1.heap.size < w2.heap.size + 1 := by omega
  have hs5 : w1.heap.size + 1 < w2.heap.size + 1 := by omega
  have HQ : Hid (w2.cell? ⟨w1.heap.size + 1, 0, none⟩ = some (.int .i64 M) ∧ w2.cell? ⟨w1.heap.size + 1, 1, none⟩ = some (.int .i64 E)) := ⟨q0, q1⟩
  clear b2 hb2 p2 p3 q2 q3
  go_wp2_with fail
  refine (eqFraction_same N D _).mono ?_; rintro e w3 ⟨rfl, b3⟩
  have Y2 := (At2.new (w2.alloc (.cells #[.int .i64 N, .int .i64 D] 23)) (.int .i64 M) (.int .i64 E) 23).below b3 (by simp)
  simp only [World.size_alloc] at Y2
  obtain ⟨y0, y1, y2, y3⟩ := Y2
  have hc0 : w3.cell? ⟨w1.heap.size + 1, 0, none⟩ = some (.int .i64 M) := (b3.cell (p := ⟨w1.heap.size + 1, 0, none⟩) (by simp; omega)).trans (cell_two_alloc hs2 HQ.out.1)
  have hc1 : w3.cell? ⟨w1.heap.size + 1, 1, none⟩ = some (.int .i64 E) := (b3.cell (p := ⟨w1.heap.size + 1, 1, none⟩) (by simp; omega)).trans (cell_two_alloc hs2 HQ.out.2)
  have HB3 : Hid (Below w.heap.size w w3) := by
    have hx : Below w2.heap.size w2 w3 := (((Below.refl w2.heap.size w2).alloc (Nat.le_refl _) (.cells #[.int .i64 N, .int .i64 D] 23)).alloc (by simp) (.cells #[.int .i64 M, .int .i64 E] 23)).trans (b3.mono (by simp; omega))
    exact HB2.out.trans (hx.mono HB2.out.size)
  clear b3 p0 p1 q0 q1 HQ hs3 hs4 hs5
  go_wp2_with fail
  refine (eqFraction_same M E _).mono ?_; rintro e w4 ⟨rfl, b4⟩
  have HB4 : Hid (Below w.heap.size w w4) := HB3.out.trans (b4.mono HB3.out.size)
  clear b4
  go_wp2
  go_ret
  exact ⟨rfl, HB4.out⟩
theorem sb_both (f : Int) (l : Int) (c : Int) : ∃ (N D M E : Int) (k : Bool), (∀ w, Calls Try.prog 16 #[.int .i64 f, .int .i64 l, .int .i64 c] w fun e w' => e = .returned (.tuple #[.agg #[.int .i64 N, .int .i64 D], .agg #[.int .i64 M, .int .i64 E], .bool k]) ∧ Below w.heap.size w w') ∧ (∀ w, Calls Try.prog 17 #[.int .i64 f, .int .i64 l, .int .i64 c] w fun e w' => e = .returned (.tuple #[.agg #[.int .i64 N, .int .i64 D], .agg #[.int .i64 M, .int .i64 E], .bool k]) ∧ Below w.heap.size w w') := by
  by_cases h : (1 ≤ l ∧ l ≤ 400) ∧ (0 ≤ f ∧ f ≤ l - 1) ∧ (2 ≤ c ∧ c ≤ 400)
  · exact ⟨_, _, _, _, _, fun w => specSB_t f l c w (by omega) (by omega) (by omega) (by omega) (by omega) (by omega), fun w => implSB_t f l c w (by omega) (by omega) (by omega) (by omega) (by omega) (by omega)⟩
  · exact ⟨_, _, _, _, _, fun w => specSB_f f l c w h, fun w => implSB_f f l c w h⟩
set_option maxHeartbeats 2000000 in
set_option maxRecDepth 100000 in
theorem walk_FnExactSpanBounds (f : Int) (l : Int) (c : Int) (w : World) (_w0 : (Lit.int .i64 f).wf = true) (_w1 : (Lit.int .i64 l).wf = true) (_w2 : (Lit.int .i64 c).wf = true) :
    Calls Try.prog 4 #[.int .i64 f, .int .i64 l, .int .i64 c] w fun e w' => e = .returned (.bool true) ∧ Below w.heap.size w w' := by
  obtain ⟨N, D, M, E, k, hS, hI⟩ := sb_both f l c
  have HS := Lib.hid hS
  have HI := Lib.hid hI
  clear hS hI
  go_enter Try.func4, Try.ntmps4
  go_wp2_with fail
  refine (HS.out _).mono ?_; rintro e w1 ⟨rfl, b1⟩
  have HB1 := Lib.hid b1
  clear b1
  go_wp2_with fail
  refine (HI.out _).mono ?_; rintro e w2 ⟨rfl, b2⟩
  have A1 := ((At2.new w1 (.int .i64 N) (.int .i64 D) 23).alloc (.cells #[.int .i64 M, .int .i64 E] 23)).below b2 (by simp; omega)
  have A2 := (At2.new (w1.alloc (.cells #[.int .i64 N, .int .i64 D] 23)) (.int .i64 M) (.int .i64 E) 23).below b2 (by simp)
  simp only [World.size_alloc] at A2
  have hb2 : Below w1.heap.size w1 w2 := (((Below.refl w1.heap.size w1).alloc (Nat.le_refl _) (.cells #[.int .i64 N, .int .i64 D] 23)).alloc (by simp) (.cells #[.int .i64 M, .int .i64 E] 23)).trans (b2.mono (by simp; omega))
  have hs2 : w1.heap.size + 1 < w2.heap.size := by have := b2.size; simp at this; omega
  have HB2 := Lib.hid (HB1.out.trans (hb2.mono HB1.out.size))
  obtain ⟨p0, p1, p2, p3⟩ := A1
  obtain ⟨q0, q1, q2, q3⟩ := A2
  have hs3 : w1.heap.size < w2.heap.size := by omega
  have hs4 : w1.heap.size < w2.heap.size + 1 := by omega
  have hs5 : w1.heap.size + 1 < w2.heap.size + 1 := by omega
  have HQ : Hid (w2.cell? ⟨w1.heap.size + 1, 0, none⟩ = some (.int .i64 M) ∧ w2.cell? ⟨w1.heap.size + 1, 1, none⟩ = some (.int .i64 E)) := ⟨q0, q1⟩
  clear b2 hb2 p2 p3 q2 q3
  go_wp2_with fail
  refine (eqFraction_same N D _).mono ?_; rintro e w3 ⟨rfl, b3⟩
  have Y2 := (At2.new (w2.alloc (.cells #[.int .i64 N, .int .i64 D] 23)) (.int .i64 M) (.int .i64 E) 23).below b3 (by simp)
  simp only [World.size_alloc] at Y2
  obtain ⟨y0, y1, y2, y3⟩ := Y2
  have hc0 : w3.cell? ⟨w1.heap.size + 1, 0, none⟩ = some (.int .i64 M) := (b3.cell (p := ⟨w1.heap.size + 1, 0, none⟩) (by simp; omega)).trans (cell_two_alloc hs2 HQ.out.1)
  have hc1 : w3.cell? ⟨w1.heap.size + 1, 1, none⟩ = some (.int .i64 E) := (b3.cell (p := ⟨w1.heap.size + 1, 1, none⟩) (by simp; omega)).trans (cell_two_alloc hs2 HQ.out.2)
  have HB3 : Hid (Below w.heap.size w w3) := by
    have hx : Below w2.heap.size w2 w3 := (((Below.refl w2.heap.size w2).alloc (Nat.le_refl _) (.cells #[.int .i64 N, .int .i64 D] 23)).alloc (by simp) (.cells #[.int .i64 M, .int .i64 E] 23)).trans (b3.mono (by simp; omega))
    exact HB2.out.trans (hx.mono HB2.out.size)
  clear b3 p0 p1 q0 q1 HQ hs3 hs4 hs5
  go_wp2_with fail
  refine (eqFraction_same M E _).mono ?_; rintro e w4 ⟨rfl, b4⟩
  have HB4 : Hid (Below w.heap.size w w4) := HB3.out.trans (b4.mono HB3.out.size)
  clear b4
  go_wp2
  go_ret
  exact ⟨rfl, HB4.out⟩
end Go.Proofs.Ytfekdmnhlbjmaaa
