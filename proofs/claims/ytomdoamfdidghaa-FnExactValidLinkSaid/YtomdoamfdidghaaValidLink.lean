/- FnExactValidLink: the given statement, out of the walk of the law's own text (LinkIs). No condition: every argument, whatever memory. -/
import Derived.Test.YtomdoamfdidghaaLinkIs
import Derived.WalkKit
import Derived.ProofKit
import Derived.OpenShut
import Derived.ShutString
import Derived.ChangeOld
import Derived.Below
import Derived.Lib.SmallJoins
namespace Go.Proofs.Ytomdoamfdidghaa.fnExactValidLink
open Go.Joins
open Go.ChangeShapes Go.WideShapes Go.ChangeAt Go.RowKit
open Go.ChangeMaps (open_string shut_string)
set_option linter.unusedVariables false
theorem own : ownKnob Try.prog.godebug = none := by kernel_rfl
theorem cellsLi : Try.prog.cellsOf 40 = 4 := by kernel_rfl
set_option maxRecDepth 100000 in
theorem lifted (os : Os) (started : os.Started) (H : Type) (enc : TypeId × Value → H) :
    ReturnsInHanded {} Try.checked os 7 .any (Rows.fnExactValidLinkSpec.pre6 enc Try.prog Try.f7 Rows.fnExactValidLinkRow.domain false) (Rows.fnExactValidLinkSpec.post enc Try.prog Try.f7 false true false false) := by
  refine returnsInHanded_of_change (C := Try.checked) own started (by kernel_rfl) Try.func7
    (ChangeSpec.witness6 (enc := enc) (C := Try.checked) false ⟨#[], #[.agg #[.int .i64 0, .int .i64 0, .int .i64 0, .int .i64 0]], []⟩ 8 (by kernel_rfl) (by kernel_rfl) (by kernel_rfl) (by kernel_rfl)) ?_
  intro W base args ds gs before hval0 hW hcnd _
  have hval : ∀ (j : Nat) t v, Try.f7.params[j]? = some t → args[j]? = some v → Value.okWide Try.prog W .any base t v := hval0
  have hW' := hW
  obtain ⟨p, q, hA0, hV, rfl, hfz, hnd⟩ := hW
  have hA : DataW.TrodAll enc Try.prog W 0 (fun _ => true) true Try.f7.params.toList args.toList ds p := hA0
  rw [Try.params7] at hA hval
  obtain ⟨v0, vs0, d0, ds0, p0, q0, hargs, rfl, rfl, h0, r0⟩ := trodAll_cons hA
  obtain ⟨rfl, rfl, rfl⟩ := trodAll_nil r0
  obtain rfl : args = #[v0] := by cases args; simp_all
  obtain ⟨rfl, rfl⟩ := trodVars_none hV
  obtain ⟨c00, c10, c20, c30, y00, y10, y20, y30, fm0, rfl, rfl, rfl, hy00, hy10, hy20, hy30⟩ := open_agg4 Try.underlying40 (by kernel_rfl) cellsLi (hval 0 40 v0 rfl rfl) h0
  obtain ⟨n0, e00, rfl, wn0⟩ := DataW.trod_int Try.underlying2 hy00
  obtain ⟨m0, e10, rfl, wm0⟩ := DataW.trod_int Try.underlying2 hy10
  obtain ⟨k0, e20, rfl, wk0⟩ := DataW.trod_int Try.underlying2 hy20
  obtain ⟨j0, e30, rfl, wj0⟩ := DataW.trod_int Try.underlying2 hy30
  simp at e00 e10 e20 e30
  subst e00 e10 e20 e30
  clear hA0 hval0
  have sf0 : ∀ (W' : World) (sp : Nat → Bool), DataW.Trod enc Try.prog W' 0 sp true 40 (.agg #[.int .i64 n0, .int .i64 m0, .int .i64 k0, .int .i64 j0]) (.agg [.lit (.int .i64 n0), .lit (.int .i64 m0), .lit (.int .i64 k0), .lit (.int .i64 j0)]) [] := fun W' sp =>
    shut_agg4 (y0 := (.lit (.int .i64 n0), [])) (y1 := (.lit (.int .i64 m0), [])) (y2 := (.lit (.int .i64 k0), [])) (y3 := (.lit (.int .i64 j0), [])) Try.underlying40 (by kernel_rfl) cellsLi ⟨1, by simp [DataW.trod, Try.underlying2, wn0]⟩ ⟨1, by simp [DataW.trod, Try.underlying2, wm0]⟩ ⟨1, by simp [DataW.trod, Try.underlying2, wk0]⟩ ⟨1, by simp [DataW.trod, Try.underlying2, wj0]⟩
  simp only [List.append_nil] at hW'
  refine (walk_FnExactValidLink n0 m0 k0 j0 W wn0 wm0 wk0 wj0).mono fun e W' ⟨he, bel⟩ => ?_
  subst he
  exact ⟨_, rfl, _, _, _, [], _, [], hW', trodAll_mk1 (shut_bool Try.underlying4 _), (trodAll_cons_mk (sf0 _ _) trodAll_mk0), rfl, bel.frame _, fun h => by cases h⟩

theorem over : Rows.fnExactValidLinkRow.holds Try.pinned (OpenSpec.ofChange Rows.fnExactValidLinkSpec) :=
  OpenClaim.holds_of_wide 7 Try.f7 rfl rfl rfl rfl rfl rfl rfl ⟨rfl, rfl, rfl, rfl, rfl⟩ rfl rfl rfl rfl rfl (by kernel_rfl) Try.func7 (by kernel_rfl)
    (of_decide_eq_true (by kernel_rfl)) (by unfold Func.isWrapper; first | (rw [if_pos (by decide +kernel)]; kernel_rfl) | (rw [if_neg (by decide +kernel)]; exact ⟨rfl, rfl⟩))
    (fun os started H enc _ => lifted os started H enc)
theorem proved : Rows.FnExactValidLinkSaid := over
end Go.Proofs.Ytomdoamfdidghaa.fnExactValidLink
