/- RegistersOf on both sides. -/
import Derived.Test.YtlobloaabghceaaFlowV
namespace Go.Proofs.Ytlobloaabghceaa
open Go.RowKit
set_option linter.unusedVariables false
set_option linter.unusedSimpArgs false

def rgS (F : List Int) : Nat → Int
  | 0 => 0
  | k + 1 => rgS F k + F.getD (k * 3 + 2) 0
theorem rgS_bnd {F : List Int} {n : Nat} (h : ∀ k, k < n → 0 ≤ F.getD (k * 3 + 2) 0 ∧ F.getD (k * 3 + 2) 0 ≤ 20) : ∀ k, k ≤ n → 0 ≤ rgS F k ∧ rgS F k ≤ 20 * (k : Int)
  | 0, _ => by simp [rgS]
  | k + 1, hk => by
    have := rgS_bnd h k (by omega)
    have := h k (by omega)
    simp only [rgS]
    omega
def RgR (ds : List Int) (wn : Nat) (F : List Int) (w : World) (r : Ending) (w' : World) : Prop := Below w.heap.size w w' ∧ ∃ (x : Int) (ok : Bool), r = .returned (.tuple #[.int .i64 x, .bool ok]) ∧ (ok = true ↔ FlowOk ds wn F) ∧ x = (if ok then rgS F wn else 0)
theorem RgR.one {ds : List Int} {wn : Nat} {F : List Int} {x x' : Int} {ok ok' : Bool} (h1 : ok = true ↔ FlowOk ds wn F) (h2 : x = (if ok then rgS F wn else 0)) (g1 : ok' = true ↔ FlowOk ds wn F) (g2 : x' = (if ok' then rgS F wn else 0)) : ok' = ok ∧ x' = x := by
  have e : ok' = ok := by
    have h := g1.trans h1.symm
    cases ok <;> cases ok' <;> simp_all
  subst e
  exact ⟨rfl, g2.trans h2.symm⟩
end Go.Proofs.Ytlobloaabghceaa
