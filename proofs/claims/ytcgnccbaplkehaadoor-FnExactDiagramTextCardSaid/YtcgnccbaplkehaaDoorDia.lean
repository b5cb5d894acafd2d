/- Contracts: the copy of a diagram that came in, how great it is, and that it is the same; is a diagram valid, on both sides. -/
import Derived.Test.YtcgnccbaplkehaaDoorRecsB
import Derived.Test.YtcgnccbaplkehaaDoorIn64
import Derived.BigQuiet
import Derived.Deep.QuietTactic
import Derived.IntWalk
namespace Go.Proofs.YtcgnccbaplkehaaDoor
open Go.RowKit
set_option linter.unusedVariables false

theorem bwD {B : Nat} {a w : World} (h : Below B a w) (n : Nat) : Below B a (w.drewN n) := ⟨h.os, h.tape, h.output, h.size, h.block⟩

set_option maxHeartbeats 1000000 in
theorem toDiagram_any (m : Int) (a : Option Addr) (n cap : Nat) (F : List Int) (w : World) (hn : F.length = n * 3) (h : ArgRow w a F) (hl : n ≤ 1048576) :
    Calls Tryd.prog 11 #[.agg #[.int .i64 m, .slice a n cap]] w fun e w' => ∃ v, e = .returned (.agg #[.int .i64 m, v]) ∧ Recs w' w.heap.size v n F ∧ Below w.heap.size w w' := by
  have HN := Lib.hid hn
  have HA := Lib.hid h
  clear hn h
  go_enter Tryd.func11, Tryd.ntmps11
  go_wp2_with fail
  refine (toBoundS_any a n cap F _ HN.out (HA.out.keep ((((Below.refl w.heap.size w).alloc (Nat.le_refl _) (.cells #[.int .i64 m, .slice a n cap] 30)).alloc (by simp) (.cells #[.int .i64 0, .slice none 0 0] 35)).alloc (by simp; omega) (.cells #[.int .i64 m, .slice none 0 0] 35)) (Nat.le_refl _)) hl).mono ?_
  rintro e w1 ⟨v, rfl, hi, hb⟩
  obtain ⟨av, cv, rfl, -, -⟩ := hi.form
  have hA := ((At2.new (w.alloc (.cells #[.int .i64 m, .slice a n cap] 30)) (.int .i64 0) (.slice none 0 0) 35).alloc (.cells #[.int .i64 m, .slice none 0 0] 35)).below hb (by simp)
  have hB := (At2.new ((w.alloc (.cells #[.int .i64 m, .slice a n cap] 30)).alloc (.cells #[.int .i64 0, .slice none 0 0] 35)) (.int .i64 m) (.slice none 0 0) 35).below hb (by simp)
  simp only [World.size_alloc] at hA hB
  have hB2 := hB.set1 (.slice av n cv)
  have hA1 := hA.set_ne (g' := w.heap.size + 1 + 1) (by omega) 1 (.slice av n cv)
  have hA2 := hA1.set0 (.int .i64 m)
  have hA3 := hA2.set1 (.slice av n cv)
  have hlt : ∀ g, av = some ⟨g, 0, none⟩ → w.heap.size + 1 + 1 + 1 ≤ g := fun g e => by
    have := (World.ownsRow.lt hi.2 g (by rw [e]; rfl)).1
    simp at this; omega
  have HI := Lib.hid hi
  have HB := Lib.hid hb
  have HL := Lib.hid hlt
  obtain ⟨p0, p1, p2, p3⟩ := hB
  obtain ⟨q0, q1, q2, q3⟩ := hB2
  obtain ⟨r0, r1, r2, r3⟩ := hA1
  obtain ⟨s0, s1, s2, s3⟩ := hA2
  obtain ⟨t0, t1, t2, t3⟩ := hA3
  clear hi hb hA hlt
  go_wp2
  refine bodyPost_ret (v := .agg #[.int .i64 m, .slice av n cv]) (by simp [results, Tryd.results11, go_sem, t0, t1]) rfl ⟨_, rfl, ?_, ?_⟩
  · have hw := HI.out.weak (C := w.heap.size) (by simp; omega)
    have HL' := HL.out
    rcases hw with ⟨f1, f2, ⟨f3, f4⟩ | ⟨g, cp, cur, hv, hg, hh, rest⟩⟩
    · exact ⟨f1, f2, .inl ⟨f3, f4⟩⟩
    · have hgl : w.heap.size + 1 + 1 + 1 ≤ g := HL' g (by simp only [Value.slice.injEq] at hv; exact hv.1)
      refine ⟨f1, f2, .inr ⟨g, cp, cur, hv, hg, ?_, rest⟩⟩
      exact (Below.heap_setCell _ _ _ _ (by dsimp only; omega)).trans ((Below.heap_setCell _ _ _ _ (by dsimp only; omega)).trans ((Below.heap_setCell _ _ _ _ (by dsimp only; omega)).trans hh))
  · exact (((((((Below.refl w.heap.size w).alloc (Nat.le_refl _) _).alloc (by simp) _).alloc (by simp; omega) _).trans (HB.out.mono (by simp; omega))).setCell (by simp; omega) _).setCell (by simp) _).setCell (by simp) _

theorem szBoundS_any (a : Option Addr) (n cap : Nat) (c : Int) (w : World) (hc : 0 ≤ c) (hc2 : c ≤ 1048576) (hn : n ≤ 9223372036854775807) :
    Calls Tryd.prog 19 #[.slice a n cap, .int .i64 c] w fun e w' => e = .returned (.int .i64 (if (n : Int) ≤ c then c - n else -1)) ∧ w = w' := by
  have wr : IntKind.i64.wrap (c - (n : Int)) = c - (n : Int) := IntWalk.i64_in _ (by omega)
  by_cases h : (n : Int) ≤ c
  · rw [if_pos h]
    go_enter Tryd.func19, Tryd.ntmps19
    go_wp2
    go_ret
    exact ⟨by simp, rfl⟩
  · rw [if_neg h]
    go_enter Tryd.func19, Tryd.ntmps19
    go_wp2
    go_ret
    exact ⟨by simp, rfl⟩
theorem szDiagram_any (m : Int) (a : Option Addr) (n cap : Nat) (c : Int) (w : World) (hc : 0 ≤ c) (hc2 : c ≤ 1048576) (hn : n ≤ 9223372036854775807) :
    Calls Tryd.prog 9 #[.agg #[.int .i64 m, .slice a n cap], .int .i64 c] w fun e w' => e = .returned (.int .i64 (if (n : Int) ≤ c then c - n else -1)) ∧ Below w.heap.size w w' := by
  have HS := Lib.hid (szBoundS_any a n cap c (w.alloc (.cells #[.int .i64 m, .slice a n cap] 30)) hc hc2 hn)
  obtain ⟨r, hr⟩ : ∃ r, (if (n : Int) ≤ c then c - n else -1) = r := ⟨_, rfl⟩
  have hrr : r = c - n ∧ 0 ≤ r ∨ r = -1 := by
    by_cases h : (n : Int) ≤ c
    · rw [if_pos h] at hr; left; omega
    · rw [if_neg h] at hr; right; omega
  rw [hr]
  have HR := Lib.hid hr
  clear hr
  go_enter Tryd.func9, Tryd.ntmps9
  go_wp2_with fail
  refine HS.out.mono ?_
  rw [HR.out]
  rintro e w1 ⟨rfl, rfl⟩
  rcases hrr with ⟨rfl, h0⟩ | rfl
  · go_wp2
    go_ret
    exact ⟨rfl, (Below.refl _ _).alloc (Nat.le_refl _) _⟩
  · go_wp2
    go_ret
    exact ⟨rfl, (Below.refl _ _).alloc (Nat.le_refl _) _⟩
theorem eqDiagram_same (B1 B2 : Nat) (m : Int) (v1 v2 : Value) (n : Nat) (F : List Int) (w : World) (h1 : Recs w B1 v1 n F) (h2 : Recs w B2 v2 n F) :
    Calls Tryd.prog 13 #[.agg #[.int .i64 m, v1], .agg #[.int .i64 m, v2]] w fun e w' => e = .returned (.bool true) ∧ Below w.heap.size w w' := by
  have H1 := Lib.hid h1
  have H2 := Lib.hid h2
  clear h1 h2
  have hb0 : Below w.heap.size w ((w.alloc (.cells #[.int .i64 m, v1] 35)).alloc (.cells #[.int .i64 m, v2] 35)) := ((Below.refl _ _).alloc (Nat.le_refl _) _).alloc (by simp) _
  go_enter Tryd.func13, Tryd.ntmps13
  go_wp2_with fail
  refine (eqBoundS_same B1 B2 n v1 v2 F _ (H1.out.keep hb0 (Nat.le_refl _)) (H2.out.keep hb0 (Nat.le_refl _))).mono ?_; rintro e w' ⟨rfl, hb⟩
  go_wp2
  go_ret
  exact ⟨rfl, hb0.trans (hb.mono (by simp; omega))⟩

/-- is it a bound between so many events -/
def BOk (e x y z : Int) : Prop := x ≠ y ∧ 0 ≤ x ∧ x ≤ e - 1 ∧ 0 ≤ y ∧ y ≤ e - 1 ∧ -1000 ≤ z ∧ z ≤ 1000
instance (e x y z : Int) : Decidable (BOk e x y z) := by unfold BOk; exact inferInstance

theorem isValid_t (e x y z : Int) (w : World) (h1 : 1 ≤ e) (h2 : e ≤ 10) (h : BOk e x y z) :
    Calls Tryd.prog 34 #[.agg #[.int .i64 x, .int .i64 y, .int .i64 z], .int .i64 e] w fun r w' => r = .returned (.bool true) ∧ Below w.heap.size w w' := by
  obtain ⟨k1, k2, k3, k4, k5, k6, k7⟩ := h
  have wr : IntKind.i64.wrap (e - 1) = e - 1 := IntWalk.i64_in _ (by omega)
  have hne : (x != y) = true := by simp [k1]
  go_enter Tryd.func34, Tryd.ntmps34
  go_wp2_with fail
  refine (within_i64_t _ _ _ _ k2 k3).mono ?_; rintro e w' ⟨rfl, rfl⟩
  go_wp2_with fail
  refine (within_i64_t _ _ _ _ k4 k5).mono ?_; rintro e w' ⟨rfl, rfl⟩
  go_wp2_with fail
  refine (within_i64_t _ _ _ _ k6 k7).mono ?_; rintro e w' ⟨rfl, rfl⟩
  go_wp2
  go_ret
  exact ⟨rfl, (Below.refl _ _).alloc (Nat.le_refl _) _⟩
theorem isValid_f (e x y z : Int) (w : World) (h1 : 1 ≤ e) (h2 : e ≤ 10) (h : ¬ BOk e x y z) :
    Calls Tryd.prog 34 #[.agg #[.int .i64 x, .int .i64 y, .int .i64 z], .int .i64 e] w fun r w' => r = .returned (.bool false) ∧ Below w.heap.size w w' := by
  have wr : IntKind.i64.wrap (e - 1) = e - 1 := IntWalk.i64_in _ (by omega)
  by_cases k1 : x = y
  · have hne : (x != y) = false := by simp [k1]
    clear k1 h
    go_enter Tryd.func34, Tryd.ntmps34
    go_wp2
    go_ret
    exact ⟨rfl, (Below.refl _ _).alloc (Nat.le_refl _) _⟩
  · have hne : (x != y) = true := by simp [k1]
    by_cases k2 : 0 ≤ x ∧ x ≤ e - 1
    · by_cases k3 : 0 ≤ y ∧ y ≤ e - 1
      · have k4 : z < -1000 ∨ 1000 < z := by
          by_cases k5 : -1000 ≤ z ∧ z ≤ 1000
          · exact absurd ⟨k1, k2.1, k2.2, k3.1, k3.2, k5.1, k5.2⟩ h
          · omega
        clear h
        go_enter Tryd.func34, Tryd.ntmps34
        go_wp2_with fail
        refine (within_i64_t _ _ _ _ k2.1 k2.2).mono ?_; rintro e w' ⟨rfl, rfl⟩
        go_wp2_with fail
        refine (within_i64_t _ _ _ _ k3.1 k3.2).mono ?_; rintro e w' ⟨rfl, rfl⟩
        go_wp2_with fail
        refine (within_i64_f _ _ _ _ k4).mono ?_; rintro e w' ⟨rfl, rfl⟩
        go_wp2
        go_ret
        exact ⟨rfl, (Below.refl _ _).alloc (Nat.le_refl _) _⟩
      · clear h
        go_enter Tryd.func34, Tryd.ntmps34
        go_wp2_with fail
        refine (within_i64_t _ _ _ _ k2.1 k2.2).mono ?_; rintro e w' ⟨rfl, rfl⟩
        go_wp2_with fail
        refine (within_i64_f _ _ _ _ (by omega)).mono ?_; rintro e w' ⟨rfl, rfl⟩
        go_wp2
        go_ret
        exact ⟨rfl, (Below.refl _ _).alloc (Nat.le_refl _) _⟩
    · clear h
      go_enter Tryd.func34, Tryd.ntmps34
      go_wp2_with fail
      refine (within_i64_f _ _ _ _ (by omega)).mono ?_; rintro e w' ⟨rfl, rfl⟩
      go_wp2
      go_ret
      exact ⟨rfl, (Below.refl _ _).alloc (Nat.le_refl _) _⟩
theorem l04Bound_t (e x y z : Int) (w : World) (h1 : 1 ≤ e) (h2 : e ≤ 10) (h : BOk e x y z) :
    Calls Tryd.prog 32 #[.int .i64 e, .agg #[.int .i64 x, .int .i64 y, .int .i64 z]] w fun r w' => r = .returned (.bool true) ∧ Below w.heap.size w w' := by
  obtain ⟨k1, k2, k3, k4, k5, k6, k7⟩ := h
  have wr : IntKind.i64.wrap (e - 1) = e - 1 := IntWalk.i64_in _ (by omega)
  have hne : (x != y) = true := by simp [k1]
  go_enter Tryd.func32, Tryd.ntmps32
  go_wp2_with fail
  refine (l00In_t _ _ _ _ k2 k3).mono ?_; rintro e w' ⟨rfl, rfl⟩
  go_wp2_with fail
  refine (l00In_t _ _ _ _ k4 k5).mono ?_; rintro e w' ⟨rfl, rfl⟩
  go_wp2_with fail
  refine (l00In_t _ _ _ _ k6 k7).mono ?_; rintro e w' ⟨rfl, rfl⟩
  go_wp2
  go_ret
  exact ⟨rfl, (Below.refl _ _).alloc (Nat.le_refl _) _⟩
theorem l04Bound_f (e x y z : Int) (w : World) (h1 : 1 ≤ e) (h2 : e ≤ 10) (h : ¬ BOk e x y z) :
    Calls Tryd.prog 32 #[.int .i64 e, .agg #[.int .i64 x, .int .i64 y, .int .i64 z]] w fun r w' => r = .returned (.bool false) ∧ Below w.heap.size w w' := by
  have wr : IntKind.i64.wrap (e - 1) = e - 1 := IntWalk.i64_in _ (by omega)
  by_cases k2 : 0 ≤ x ∧ x ≤ e - 1
  · by_cases k3 : 0 ≤ y ∧ y ≤ e - 1
    · by_cases k1 : x = y
      · have hne : (x != y) = false := by simp [k1]
        clear h k1
        go_enter Tryd.func32, Tryd.ntmps32
        go_wp2_with fail
        refine (l00In_t _ _ _ _ k2.1 k2.2).mono ?_; rintro e w' ⟨rfl, rfl⟩
        go_wp2_with fail
        refine (l00In_t _ _ _ _ k3.1 k3.2).mono ?_; rintro e w' ⟨rfl, rfl⟩
        go_wp2
        go_ret
        exact ⟨rfl, (Below.refl _ _).alloc (Nat.le_refl _) _⟩
      · have hne : (x != y) = true := by simp [k1]
        have k4 : z < -1000 ∨ 1000 < z := by
          by_cases k5 : -1000 ≤ z ∧ z ≤ 1000
          · exact absurd ⟨k1, k2.1, k2.2, k3.1, k3.2, k5.1, k5.2⟩ h
          · omega
        clear h
        go_enter Tryd.func32, Tryd.ntmps32
        go_wp2_with fail
        refine (l00In_t _ _ _ _ k2.1 k2.2).mono ?_; rintro e w' ⟨rfl, rfl⟩
        go_wp2_with fail
        refine (l00In_t _ _ _ _ k3.1 k3.2).mono ?_; rintro e w' ⟨rfl, rfl⟩
        go_wp2_with fail
        refine (l00In_f _ _ _ _ k4).mono ?_; rintro e w' ⟨rfl, rfl⟩
        go_wp2
        go_ret
        exact ⟨rfl, (Below.refl _ _).alloc (Nat.le_refl _) _⟩
    · clear h
      go_enter Tryd.func32, Tryd.ntmps32
      go_wp2_with fail
      refine (l00In_t _ _ _ _ k2.1 k2.2).mono ?_; rintro e w' ⟨rfl, rfl⟩
      go_wp2_with fail
      refine (l00In_f _ _ _ _ (by omega)).mono ?_; rintro e w' ⟨rfl, rfl⟩
      go_wp2
      go_ret
      exact ⟨rfl, (Below.refl _ _).alloc (Nat.le_refl _) _⟩
  · clear h
    go_enter Tryd.func32, Tryd.ntmps32
    go_wp2_with fail
    refine (l00In_f _ _ _ _ (by omega)).mono ?_; rintro e w' ⟨rfl, rfl⟩
    go_wp2
    go_ret
    exact ⟨rfl, (Below.refl _ _).alloc (Nat.le_refl _) _⟩
end Go.Proofs.YtcgnccbaplkehaaDoor
