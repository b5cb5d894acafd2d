/- The model's GapOf. -/
import Derived.Test.YtkipgeecibimoaaTight
import Derived.Test.YtkipgeecibimoaaDiaIs
import Derived.Test.YtkipgeecibimoaaIniMath
namespace Go.Proofs.Ytkipgeecibimoaa
open Go.RowKit
set_option linter.unusedVariables false

theorem diaB_okG {e : Int} {n : Nat} {F : List Int} (h : diaB e n F = true) : 1 ≤ e ∧ e ≤ 10 ∧ n ≤ 24 ∧ ∀ k, k < n → BOk e (F.getD (k * 3) 0) (F.getD (k * 3 + 1) 0) (F.getD (k * 3 + 2) 0) := by
  unfold diaB at h
  simp only [Bool.and_eq_true, decide_eq_true_eq] at h
  exact ⟨h.1.1.1, h.1.1.2, h.1.2, fun k hk => by have := List.all_eq_true.1 h.2 k (List.mem_range.2 hk); unfold bokK at this; simpa using this⟩
theorem dia_fs {n nb : Nat} {F : List Int} (h : diaB (n : Int) nb F = true) : FsIn F n nb := fun k hk => by
  obtain ⟨_, q1, q2, q3, q4, q5, q6⟩ := (diaB_okG h).2.2.2 k hk
  omega
/-- the two events have a least and a greatest difference -/
def GapP (e : Int) (nb : Nat) (F : List Int) (M : Nat → Nat → Int) (f t : Int) : Prop :=
  diaB e nb F = true ∧ (0 ≤ f ∧ f ≤ e - 1) ∧ (0 ≤ t ∧ t ≤ e - 1) ∧ (∀ a, a < e.toNat → 0 ≤ M a a) ∧ M f.toNat t.toNat ≠ 1000000 ∧ M t.toNat f.toNat ≠ 1000000
def GapIs (e : Int) (nb : Nat) (F : List Int) (M : Nat → Nat → Int) (f t x y : Int) (ok : Bool) : Prop :=
  (GapP e nb F M f t → x = wrap64 (-(M t.toNat f.toNat)) ∧ y = M f.toNat t.toNat ∧ ok = true) ∧ (¬ GapP e nb F M f t → x = 0 ∧ y = 0 ∧ ok = false)
theorem GapIs.one {e : Int} {nb : Nat} {F : List Int} {M : Nat → Nat → Int} {f t x y x' y' : Int} {ok ok' : Bool} (h : GapIs e nb F M f t x y ok) (h' : GapIs e nb F M f t x' y' ok') : x' = x ∧ y' = y ∧ ok' = ok := by
  by_cases hp : GapP e nb F M f t
  · obtain ⟨rfl, rfl, rfl⟩ := h.1 hp
    exact h'.1 hp
  · obtain ⟨rfl, rfl, rfl⟩ := h.2 hp
    exact h'.2 hp
/-- the matrix is the one of the bounds -/
def GapM (e : Int) (nb : Nat) (F : List Int) (f t : Int) (M : Nat → Nat → Int) : Prop :=
  diaB e nb F = true → (0 ≤ f ∧ f ≤ e - 1) → (0 ≤ t ∧ t ≤ e - 1) → Sound (keptB F [] nb) e.toNat M ∧ Comp (keptB F [] nb) e.toNat e.toNat M
def GapR (e : Int) (nb : Nat) (F : List Int) (f t : Int) (w : World) (r : Ending) (w' : World) : Prop :=
  Below w.heap.size w w' ∧ ∃ (M : Nat → Nat → Int) (x y : Int) (ok : Bool), r = .returned (.tuple #[.int .i64 x, .int .i64 y, .bool ok]) ∧ GapM e nb F f t M ∧ GapIs e nb F M f t x y ok

end Go.Proofs.Ytkipgeecibimoaa
