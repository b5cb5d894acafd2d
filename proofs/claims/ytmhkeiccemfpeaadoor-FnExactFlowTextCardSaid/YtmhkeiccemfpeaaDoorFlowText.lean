/- FnExactFlowText: the given statement, out of the walk of the law's own text (FTLaw). No condition: every argument, whatever memory. -/
import Derived.Test.YtmhkeiccemfpeaaDoorFTLaw
import Derived.Test.YtmhkeiccemfpeaaDoorRecOpenW
import Derived.WalkKit
import Derived.Test.YtmhkeiccemfpeaaDoorDoor
import Derived.Test.YtmhkeiccemfpeaaDoorDoorW
import Derived.Lay
import Derived.LaidMore
import Derived.LaidOnce
import Derived.Stop.Joined
import Derived.SevenTiedAt
import Derived.Test.YtmhkeiccemfpeaaDoorTie
import Derived.Test.YtmhkeiccemfpeaaDoorCards
import Derived.ProofKit
import Derived.OpenShut
import Derived.ShutString
import Derived.ChangeOld
import Derived.Below
import Derived.Lib.SmallJoins
import Derived.Carry
namespace Go.Proofs.YtmhkeiccemfpeaaDoor.fnExactFlowText
open Go.Joins
open Go.ChangeShapes Go.WideShapes Go.ChangeAt Go.RowKit
open Go.ChangeMaps (open_string shut_string)
set_option linter.unusedVariables false
theorem own : ownKnob Tryd.prog.godebug = none := by kernel_rfl
theorem cellsFl : Tryd.prog.cellsOf 25 = 2 := by kernel_rfl
theorem laidOut : laidOutB Tryd.prog = true := by kernel_rfl
set_option maxRecDepth 100000 in
theorem lifted (os : Os) (started : os.Started) (H : Type) (enc : TypeId × Value → H) :
    ReturnsInHanded {} Tryd.checked os 3 .any (fun w args => (Rows.fnExactFlowTextSpec.pre enc Tryd.prog Tryd.f3 [] false w args ∧ laidMetH Tryd.prog Rows.fnExactFlowTextRow.laid w) ∧ sizedMet enc Tryd.prog Tryd.f3 (OpenSpec.ofChange Rows.fnExactFlowTextSpec) false w args) (Rows.fnExactFlowTextSpec.post enc Tryd.prog Tryd.f3 false true false false) := by
  refine door_wrap (C := Tryd.checked) (laid := Rows.fnExactFlowTextRow.laid) own started (by kernel_rfl) Tryd.func3
    (ChangeSpec.witness_shaped (enc := enc) (C := Tryd.checked) (os := os) (X := fun w _ => laidMetH Tryd.prog Rows.fnExactFlowTextRow.laid w) false (World.laidAll Tryd.prog os Rows.fnExactFlowTextRow.laid) #[.agg #[.slice none 0 0, .slice none 0 0]] 8 (World.laidAll_os _ _ _)
      (World.shaped_of_ZipB (by kernel_rfl) (by kernel_rfl)) (by kernel_rfl) (by kernel_rfl) (by kernel_rfl)
      (by rw [MakeChecks.laidMetH_plain _ _ _ (by kernel_rfl)]; exact laidMet_laidAll _ (by kernel_rfl) (by kernel_rfl))) ?_
  intro W base args ds gs before hval0 hW hL hsh
  rw [MakeChecks.laidMetH_plain _ _ _ (by kernel_rfl)] at hL
  have hval : ∀ (j : Nat) t v, Tryd.f3.params[j]? = some t → args[j]? = some v → Value.okWide Tryd.prog W .any base t v := hval0
  have hW' := hW
  obtain ⟨p, q, hA0, hV, rfl, hfz, hnd⟩ := hW
  have hA : DataW.TrodAll enc Tryd.prog W 0 (fun _ => true) true Tryd.f3.params.toList args.toList ds p := hA0
  rw [Tryd.params3] at hA hval
  obtain ⟨v0, vs0, d0, ds0, p0, q0, hargs, rfl, rfl, h0, r0⟩ := trodAll_cons hA
  obtain ⟨rfl, rfl, rfl⟩ := trodAll_nil r0
  obtain rfl : args = #[v0] := by cases args; simp_all
  obtain ⟨rfl, rfl⟩ := trodVars_none hV
  have k0 := h0
  have lt0 : ∀ x ∈ p0, x.block < W.heap.size := by obtain ⟨m, hm⟩ := k0; exact DataW.trod_lt m _ _ _ hm
  obtain ⟨u0, c0, y0, z0, fm0, hv0, -, -, hy0, hz0⟩ := open_agg2 Tryd.underlying25 (by kernel_rfl) cellsFl (hval 0 25 v0 rfl rfl) h0
  obtain ⟨da0, dn0, dc0, dl0, hu0, hd0, hda0, hdm0⟩ : ∃ a len cap l, u0 = .slice a len cap ∧ len = l.length ∧ ArgRow W a l ∧ len ≤ maxLen := by
    rcases open_ints Tryd.underlying22 Tryd.underlying2 (by kernel_rfl) hy0 with ⟨hcs, _⟩ | ⟨x, l, c, zs, hcs, _, hl, hm, hz, _, hcell, hwz⟩
    · simp at hcs
      exact ⟨none, 0, 0, [], hcs, rfl, .inl rfl, Nat.zero_le _⟩
    · simp at hcs
      refine ⟨some x, l, c, zs.take l, hcs, by simp at hz; simp; omega, ?_, Nat.le_trans hl hm⟩
      by_cases h0 : zs.take l = []
      · exact .inl h0
      · right
        have hzp : 0 < zs.length := by cases zs with | nil => simp at h0 | cons z zs => simp
        obtain ⟨b, off, rfl, hc⟩ := ints_at hcell hzp
        refine ⟨b, off, rfl, World.block_lt_of_cell? W _ (hc 0 hzp), fun k hk => ?_⟩
        have hk2 : k < zs.length := by simp at hk; omega
        rw [hc k hk2, List.getElem_take, List.getD_eq_getElem?_getD, List.getElem?_eq_getElem hk2]; rfl
  subst hu0
  obtain ⟨a0, len0, cap0, l0, hc0, hl0, hr0, hm0⟩ := open_recs hz0
  subst hc0
  subst hv0
  clear hA0 hval0
  have hdoor := doorW_of hL
  refine (walk_FnExactFlowText da0 dn0 dc0 dl0 a0 len0 cap0 l0 W hd0 hda0 hdm0 hl0 hr0 hm0 hdoor).mono fun e W' ⟨he, bel⟩ => ?_
  subst he
  exact ⟨_, rfl, _, _, _, [], _, [], hW', trodAll_mk1 (shut_bool Tryd.underlying4 _), (trodAll_cons_mk (Below.trod laidOut (by kernel_rfl) (of_decide_eq_true (by kernel_rfl)) k0 bel lt0) trodAll_mk0), rfl, bel.frame _, fun h => by cases h⟩

theorem over : Rows.fnExactFlowTextRow.holds Tryd.pinned (OpenSpec.ofChange Rows.fnExactFlowTextSpec) :=
  OpenClaim.holds_of_wide 3 Tryd.f3 rfl rfl rfl rfl rfl rfl rfl ⟨rfl, rfl, rfl, rfl, rfl⟩ rfl rfl rfl rfl rfl (by kernel_rfl) Tryd.func3 (by kernel_rfl)
    (of_decide_eq_true (by kernel_rfl)) (by unfold Func.isWrapper; first | (rw [if_pos (by decide +kernel)]; kernel_rfl) | (rw [if_neg (by decide +kernel)]; exact ⟨rfl, rfl⟩))
    (fun os started H enc _ => lifted os started H enc)
theorem rowSaid : Rows.FnExactFlowTextSaid := over
theorem proved : Rows.FnExactFlowTextCardSaid :=
  Claim7.holds_tied_plain_at .later [] Rows.fnExactFlowTextCard.laidKinds true Rows.fnExactFlowTextCard.stood.harness Rows.fnExactFlowTextCard.stood.looks rowSaid (fun _ h => by cases h) (by kernel_rfl) (fun _ h => by cases h) fnExactFlowText_row_tie rfl ⟨rfl, rfl⟩ (by kernel_rfl) rfl
    (fun f fn hf hfn => by
      obtain rfl : f = 3 := Option.some.inj ((show Tryd.prog.funcNamed "loop.example/g01153/laws.FnExactFlowText" = some 3 by kernel_rfl).symm.trans hf) |>.symm
      obtain rfl : fn = Tryd.f3 := (Option.some.inj (Tryd.func3.symm.trans hfn)).symm
      exact ⟨by kernel_rfl, fun j t ht => by
        rw [Tryd.params3] at ht
        have hm : t ∈ [25] := by simpa using Array.mem_of_getElem? ht
        have hall : ([25].all fun u => !Tryd.prog.wantsStandIn u) = true := by kernel_rfl
        exact (show Tryd.prog.wantsStandIn t = false by simpa using List.all_eq_true.1 hall t hm)⟩)
    (by kernel_rfl)
end Go.Proofs.YtmhkeiccemfpeaaDoor.fnExactFlowText

