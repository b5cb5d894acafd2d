/- FnExactDiagramText: the given statement, out of the walk of the law's own text (DTLaw). No condition: every argument, whatever memory. -/
import Derived.Test.YtcgnccbaplkehaaDoorDTLaw
import Derived.Test.YtcgnccbaplkehaaDoorRecOpenB
import Derived.WalkKit
import Derived.Test.YtcgnccbaplkehaaDoorDoor
import Derived.Test.YtcgnccbaplkehaaDoorDoorW
import Derived.Lay
import Derived.LaidMore
import Derived.LaidOnce
import Derived.Stop.Joined
import Derived.SevenTiedAt
import Derived.Test.YtcgnccbaplkehaaDoorTie
import Derived.Test.YtcgnccbaplkehaaDoorCards
import Derived.ProofKit
import Derived.OpenShut
import Derived.ShutString
import Derived.ChangeOld
import Derived.Below
import Derived.Lib.SmallJoins
import Derived.Carry
namespace Go.Proofs.YtcgnccbaplkehaaDoor.fnExactDiagramText
open Go.Joins
open Go.ChangeShapes Go.WideShapes Go.ChangeAt Go.RowKit
open Go.ChangeMaps (open_string shut_string)
set_option linter.unusedVariables false
theorem own : ownKnob Tryd.prog.godebug = none := by kernel_rfl
theorem cellsDi : Tryd.prog.cellsOf 30 = 2 := by kernel_rfl
theorem laidOut : laidOutB Tryd.prog = true := by kernel_rfl
set_option maxRecDepth 100000 in
theorem lifted (os : Os) (started : os.Started) (H : Type) (enc : TypeId × Value → H) :
    ReturnsInHanded {} Tryd.checked os 4 .any (fun w args => (Rows.fnExactDiagramTextSpec.pre enc Tryd.prog Tryd.f4 [] false w args ∧ laidMetH Tryd.prog Rows.fnExactDiagramTextRow.laid w) ∧ sizedMet enc Tryd.prog Tryd.f4 (OpenSpec.ofChange Rows.fnExactDiagramTextSpec) false w args) (Rows.fnExactDiagramTextSpec.post enc Tryd.prog Tryd.f4 false true false false) := by
  refine door_wrap (C := Tryd.checked) (laid := Rows.fnExactDiagramTextRow.laid) own started (by kernel_rfl) Tryd.func4
    (ChangeSpec.witness_shaped (enc := enc) (C := Tryd.checked) (os := os) (X := fun w _ => laidMetH Tryd.prog Rows.fnExactDiagramTextRow.laid w) false (World.laidAll Tryd.prog os Rows.fnExactDiagramTextRow.laid) #[.agg #[.int .i64 0, .slice none 0 0]] 8 (World.laidAll_os _ _ _)
      (World.shaped_of_ZipB (by kernel_rfl) (by kernel_rfl)) (by kernel_rfl) (by kernel_rfl) (by kernel_rfl)
      (by rw [MakeChecks.laidMetH_plain _ _ _ (by kernel_rfl)]; exact laidMet_laidAll _ (by kernel_rfl) (by kernel_rfl))) ?_
  intro W base args ds gs before hval0 hW hL hsh
  rw [MakeChecks.laidMetH_plain _ _ _ (by kernel_rfl)] at hL
  have hval : ∀ (j : Nat) t v, Tryd.f4.params[j]? = some t → args[j]? = some v → Value.okWide Tryd.prog W .any base t v := hval0
  have hW' := hW
  obtain ⟨p, q, hA0, hV, rfl, hfz, hnd⟩ := hW
  have hA : DataW.TrodAll enc Tryd.prog W 0 (fun _ => true) true Tryd.f4.params.toList args.toList ds p := hA0
  rw [Tryd.params4] at hA hval
  obtain ⟨v0, vs0, d0, ds0, p0, q0, hargs, rfl, rfl, h0, r0⟩ := trodAll_cons hA
  obtain ⟨rfl, rfl, rfl⟩ := trodAll_nil r0
  obtain rfl : args = #[v0] := by cases args; simp_all
  obtain ⟨rfl, rfl⟩ := trodVars_none hV
  have k0 := h0
  have lt0 : ∀ x ∈ p0, x.block < W.heap.size := by obtain ⟨m, hm⟩ := k0; exact DataW.trod_lt m _ _ _ hm
  obtain ⟨u0, c0, y0, z0, fm0, hv0, -, -, hy0, hz0⟩ := open_agg2 Tryd.underlying30 (by kernel_rfl) cellsDi (hval 0 30 v0 rfl rfl) h0
  obtain ⟨n0, e0, -, wn0⟩ := DataW.trod_int Tryd.underlying2 hy0
  simp at e0
  subst e0
  obtain ⟨a0, len0, cap0, l0, hc0, hl0, hr0, hm0⟩ := open_recs hz0
  subst hc0
  subst hv0
  clear hA0 hval0
  have hdoor := doorW_of hL
  refine (walk_FnExactDiagramText n0 a0 len0 cap0 l0 W hl0 hr0 hm0 hdoor).mono fun e W' ⟨he, bel⟩ => ?_
  subst he
  exact ⟨_, rfl, _, _, _, [], _, [], hW', trodAll_mk1 (shut_bool Tryd.underlying4 _), (trodAll_cons_mk (Below.trod laidOut (by kernel_rfl) (of_decide_eq_true (by kernel_rfl)) k0 bel lt0) trodAll_mk0), rfl, bel.frame _, fun h => by cases h⟩

theorem over : Rows.fnExactDiagramTextRow.holds Tryd.pinned (OpenSpec.ofChange Rows.fnExactDiagramTextSpec) :=
  OpenClaim.holds_of_wide 4 Tryd.f4 rfl rfl rfl rfl rfl rfl rfl ⟨rfl, rfl, rfl, rfl, rfl⟩ rfl rfl rfl rfl rfl (by kernel_rfl) Tryd.func4 (by kernel_rfl)
    (of_decide_eq_true (by kernel_rfl)) (by unfold Func.isWrapper; first | (rw [if_pos (by decide +kernel)]; kernel_rfl) | (rw [if_neg (by decide +kernel)]; exact ⟨rfl, rfl⟩))
    (fun os started H enc _ => lifted os started H enc)
theorem rowSaid : Rows.FnExactDiagramTextSaid := over
theorem proved : Rows.FnExactDiagramTextCardSaid :=
  Claim7.holds_tied_plain_at .later [] Rows.fnExactDiagramTextCard.laidKinds true Rows.fnExactDiagramTextCard.stood.harness Rows.fnExactDiagramTextCard.stood.looks rowSaid (fun _ h => by cases h) (by kernel_rfl) (fun _ h => by cases h) fnExactDiagramText_row_tie rfl ⟨rfl, rfl⟩ (by kernel_rfl) rfl
    (fun f fn hf hfn => by
      obtain rfl : f = 4 := Option.some.inj ((show Tryd.prog.funcNamed "loop.example/g01153/laws.FnExactDiagramText" = some 4 by kernel_rfl).symm.trans hf) |>.symm
      obtain rfl : fn = Tryd.f4 := (Option.some.inj (Tryd.func4.symm.trans hfn)).symm
      exact ⟨by kernel_rfl, fun j t ht => by
        rw [Tryd.params4] at ht
        have hm : t ∈ [30] := by simpa using Array.mem_of_getElem? ht
        have hall : ([30].all fun u => !Tryd.prog.wantsStandIn u) = true := by kernel_rfl
        exact (show Tryd.prog.wantsStandIn t = false by simpa using List.all_eq_true.1 hall t hm)⟩)
    (by kernel_rfl)
end Go.Proofs.YtcgnccbaplkehaaDoor.fnExactDiagramText

