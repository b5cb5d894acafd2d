/- Contracts: the copy of a diagram that came in, how great it is, and that it is the same; is a diagram valid, on both sides. -/
import Derived.Test.YtemjohkieehojaaDoorRecsB
import Derived.Test.YtemjohkieehojaaDoorIn64
import Derived.BigQuiet
import Derived.Deep.QuietTactic
import Derived.IntWalk
namespace Go.Proofs.YtemjohkieehojaaDoor
open Go.RowKit
set_option linter.unusedVariables false

theorem bwD {B : Nat} {a w : World} (h : Below B a w) (n : Nat) : Below B a (w.drewN n) := ⟨h.os, h.tape, h.output, h.size, h.block⟩

theorem eqDiagram_same (B1 B2 : Nat) (m : Int) (v1 v2 : Value) (n : Nat) (F : List Int) (w : World) (h1 : Recs w B1 v1 n F) (h2 : Recs w B2 v2 n F) :
    Calls Tryd.prog 15 #[.agg #[.int .i64 m, v1], .agg #[.int .i64 m, v2]] w fun e w' => e = .returned (.bool true) ∧ Below w.heap.size w w' := by
  have H1 := Lib.hid h1
  have H2 := Lib.hid h2
  clear h1 h2
  have hb0 : Below w.heap.size w ((w.alloc (.cells #[.int .i64 m, v1] 32)).alloc (.cells #[.int .i64 m, v2] 32)) := ((Below.refl _ _).alloc (Nat.le_refl _) _).alloc (by simp) _
  go_enter Tryd.func15, Tryd.ntmps15
  go_wp2_with fail
  refine (eqBoundS_same B1 B2 n v1 v2 F _ (H1.out.keep hb0 (Nat.le_refl _)) (H2.out.keep hb0 (Nat.le_refl _))).mono ?_; rintro e w' ⟨rfl, hb⟩
  go_wp2
  go_ret
  exact ⟨rfl, hb0.trans (hb.mono (by simp; omega))⟩

/-- is it a bound between so many events -/
def BOk (e x y z : Int) : Prop := x ≠ y ∧ 0 ≤ x ∧ x ≤ e - 1 ∧ 0 ≤ y ∧ y ≤ e - 1 ∧ -1000 ≤ z ∧ z ≤ 1000
instance (e x y z : Int) : Decidable (BOk e x y z) := by unfold BOk; exact inferInstance

theorem isValid_t (e x y z : Int) (w : World) (h1 : 1 ≤ e) (h2 : e ≤ 10) (h : BOk e x y z) :
    Calls Tryd.prog 55 #[.agg #[.int .i64 x, .int .i64 y, .int .i64 z], .int .i64 e] w fun r w' => r = .returned (.bool true) ∧ Below w.heap.size w w' := by
  obtain ⟨k1, k2, k3, k4, k5, k6, k7⟩ := h
  have wr : IntKind.i64.wrap (e - 1) = e - 1 := IntWalk.i64_in _ (by omega)
  have hne : (x != y) = true := by simp [k1]
  go_enter Tryd.func55, Tryd.ntmps55
  go_wp2_with fail
  refine (within_i64_t _ _ _ _ k2 k3).mono ?_; rintro e w' ⟨rfl, rfl⟩
  go_wp2_with fail
  refine (within_i64_t _ _ _ _ k4 k5).mono ?_; rintro e w' ⟨rfl, rfl⟩
  go_wp2_with fail
  refine (within_i64_t _ _ _ _ k6 k7).mono ?_; rintro e w' ⟨rfl, rfl⟩
  go_wp2
  go_ret
  exact ⟨rfl, (Below.refl _ _).alloc (Nat.le_refl _) _⟩
theorem isValid_f (e x y z : Int) (w : World) (h1 : 1 ≤ e) (h2 : e ≤ 10) (h : ¬ BOk e x y z) :
    Calls Tryd.prog 55 #[.agg #[.int .i64 x, .int .i64 y, .int .i64 z], .int .i64 e] w fun r w' => r = .returned (.bool false) ∧ Below w.heap.size w w' := by
  have wr : IntKind.i64.wrap (e - 1) = e - 1 := IntWalk.i64_in _ (by omega)
  by_cases k1 : x = y
  · have hne : (x != y) = false := by simp [k1]
    clear k1 h
    go_enter Tryd.func55, Tryd.ntmps55
    go_wp2
    go_ret
    exact ⟨rfl, (Below.refl _ _).alloc (Nat.le_refl _) _⟩
  · have hne : (x != y) = true := by simp [k1]
    by_cases k2 : 0 ≤ x ∧ x ≤ e - 1
    · by_cases k3 : 0 ≤ y ∧ y ≤ e - 1
      · have k4 : z < -1000 ∨ 1000 < z := by
          by_cases k5 : -1000 ≤ z ∧ z ≤ 1000
          · exact absurd ⟨k1, k2.1, k2.2, k3.1, k3.2, k5.1, k5.2⟩ h
          · omega
        clear h
        go_enter Tryd.func55, Tryd.ntmps55
        go_wp2_with fail
        refine (within_i64_t _ _ _ _ k2.1 k2.2).mono ?_; rintro e w' ⟨rfl, rfl⟩
        go_wp2_with fail
        refine (within_i64_t _ _ _ _ k3.1 k3.2).mono ?_; rintro e w' ⟨rfl, rfl⟩
        go_wp2_with fail
        refine (within_i64_f _ _ _ _ k4).mono ?_; rintro e w' ⟨rfl, rfl⟩
        go_wp2
        go_ret
        exact ⟨rfl, (Below.refl _ _).alloc (Nat.le_refl _) _⟩
      · clear h
        go_enter Tryd.func55, Tryd.ntmps55
        go_wp2_with fail
        refine (within_i64_t _ _ _ _ k2.1 k2.2).mono ?_; rintro e w' ⟨rfl, rfl⟩
        go_wp2_with fail
        refine (within_i64_f _ _ _ _ (by omega)).mono ?_; rintro e w' ⟨rfl, rfl⟩
        go_wp2
        go_ret
        exact ⟨rfl, (Below.refl _ _).alloc (Nat.le_refl _) _⟩
    · clear h
      go_enter Tryd.func55, Tryd.ntmps55
      go_wp2_with fail
      refine (within_i64_f _ _ _ _ (by omega)).mono ?_; rintro e w' ⟨rfl, rfl⟩
      go_wp2
      go_ret
      exact ⟨rfl, (Below.refl _ _).alloc (Nat.le_refl _) _⟩
theorem l04Bound_t (e x y z : Int) (w : World) (h1 : 1 ≤ e) (h2 : e ≤ 10) (h : BOk e x y z) :
    Calls Tryd.prog 52 #[.int .i64 e, .agg #[.int .i64 x, .int .i64 y, .int .i64 z]] w fun r w' => r = .returned (.bool true) ∧ Below w.heap.size w w' := by
  obtain ⟨k1, k2, k3, k4, k5, k6, k7⟩ := h
  have wr : IntKind.i64.wrap (e - 1) = e - 1 := IntWalk.i64_in _ (by omega)
  have hne : (x != y) = true := by simp [k1]
  go_enter Tryd.func52, Tryd.ntmps52
  go_wp2_with fail
  refine (l00In_t _ _ _ _ k2 k3).mono ?_; rintro e w' ⟨rfl, rfl⟩
  go_wp2_with fail
  refine (l00In_t _ _ _ _ k4 k5).mono ?_; rintro e w' ⟨rfl, rfl⟩
  go_wp2_with fail
  refine (l00In_t _ _ _ _ k6 k7).mono ?_; rintro e w' ⟨rfl, rfl⟩
  go_wp2
  go_ret
  exact ⟨rfl, (Below.refl _ _).alloc (Nat.le_refl _) _⟩
theorem l04Bound_f (e x y z : Int) (w : World) (h1 : 1 ≤ e) (h2 : e ≤ 10) (h : ¬ BOk e x y z) :
    Calls Tryd.prog 52 #[.int .i64 e, .agg #[.int .i64 x, .int .i64 y, .int .i64 z]] w fun r w' => r = .returned (.bool false) ∧ Below w.heap.size w w' := by
  have wr : IntKind.i64.wrap (e - 1) = e - 1 := IntWalk.i64_in _ (by omega)
  by_cases k2 : 0 ≤ x ∧ x ≤ e - 1
  · by_cases k3 : 0 ≤ y ∧ y ≤ e - 1
    · by_cases k1 : x = y
      · have hne : (x != y) = false := by simp [k1]
        clear h k1
        go_enter Tryd.func52, Tryd.ntmps52
        go_wp2_with fail
        refine (l00In_t _ _ _ _ k2.1 k2.2).mono ?_; rintro e w' ⟨rfl, rfl⟩
        go_wp2_with fail
        refine (l00In_t _ _ _ _ k3.1 k3.2).mono ?_; rintro e w' ⟨rfl, rfl⟩
        go_wp2
        go_ret
        exact ⟨rfl, (Below.refl _ _).alloc (Nat.le_refl _) _⟩
      · have hne : (x != y) = true := by simp [k1]
        have k4 : z < -1000 ∨ 1000 < z := by
          by_cases k5 : -1000 ≤ z ∧ z ≤ 1000
          · exact absurd ⟨k1, k2.1, k2.2, k3.1, k3.2, k5.1, k5.2⟩ h
          · omega
        clear h
        go_enter Tryd.func52, Tryd.ntmps52
        go_wp2_with fail
        refine (l00In_t _ _ _ _ k2.1 k2.2).mono ?_; rintro e w' ⟨rfl, rfl⟩
        go_wp2_with fail
        refine (l00In_t _ _ _ _ k3.1 k3.2).mono ?_; rintro e w' ⟨rfl, rfl⟩
        go_wp2_with fail
        refine (l00In_f _ _ _ _ k4).mono ?_; rintro e w' ⟨rfl, rfl⟩
        go_wp2
        go_ret
        exact ⟨rfl, (Below.refl _ _).alloc (Nat.le_refl _) _⟩
    · clear h
      go_enter Tryd.func52, Tryd.ntmps52
      go_wp2_with fail
      refine (l00In_t _ _ _ _ k2.1 k2.2).mono ?_; rintro e w' ⟨rfl, rfl⟩
      go_wp2_with fail
      refine (l00In_f _ _ _ _ (by omega)).mono ?_; rintro e w' ⟨rfl, rfl⟩
      go_wp2
      go_ret
      exact ⟨rfl, (Below.refl _ _).alloc (Nat.le_refl _) _⟩
  · clear h
    go_enter Tryd.func52, Tryd.ntmps52
    go_wp2_with fail
    refine (l00In_f _ _ _ _ (by omega)).mono ?_; rintro e w' ⟨rfl, rfl⟩
    go_wp2
    go_ret
    exact ⟨rfl, (Below.refl _ _).alloc (Nat.le_refl _) _⟩
end Go.Proofs.YtemjohkieehojaaDoor
