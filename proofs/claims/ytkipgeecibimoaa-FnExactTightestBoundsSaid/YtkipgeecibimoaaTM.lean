/- A map from two events to a trail, that the call has made. -/
import Derived.Test.YtkipgeecibimoaaKept
import Derived.Test.YtkipgeecibimoaaRelMath
import Derived.Test.YtkipgeecibimoaaRows
import Derived.Maps.Own
import Derived.Maps.OwnOps
import Derived.Maps.OwnSet
import Derived.Maps.Views
import Derived.DeepKeys4
import Derived.OwnWalk
namespace Go.Proofs.Ytkipgeecibimoaa
open Go.RowKit Go.Maps
set_option linter.unusedVariables false

theorem pr_laid : laidOutB Try.prog = true := by kernel_rfl
theorem pr_key : Keyed Try.prog 222 := Keyed.of_law (deep_law_laid pr_laid (m := 2) (by omega) (of_decide_eq_true (by kernel_rfl)) (by kernel_rfl) (by rw [Try.underlying222]))
theorem pr_cells : Try.prog.cellsOf 222 = 2 := by kernel_rfl
theorem i64_cells : Try.prog.cellsOf 2 = 1 := by kernel_rfl
theorem pr_is : Try.prog.keyType 222 = true := by kernel_rfl
theorem pr_of (a c : Int) (wa : (Lit.int .i64 a).wf = true) (wc : (Lit.int .i64 c).wf = true) : ∃ l, keyOf Try.prog 222 (.agg #[.int .i64 a, .int .i64 c]) = some l := by
  obtain ⟨d, hd⟩ : ∃ d, Try.prog.types.size = d + 1 := ⟨Try.prog.types.size - 1, by have : 0 < Try.prog.types.size := of_decide_eq_true (by kernel_rfl); omega⟩
  have hf : (Value.agg #[.int .i64 a, .int .i64 c]).formed Try.prog 222 = true := by simp [Value.formed, Try.underlying222, pr_cells]
  unfold keyOf
  rw [Try.underlying222]
  simp only [pr_is, hf, Bool.and_self, if_true]
  rw [hd]
  simp [Program.keyLits, Try.underlying222, Try.underlying2, pr_cells, i64_cells, Value.cells, wa, wc]
theorem tr_zero (w : World) : (zeroValue 219).run Try.prog w = .ok (.agg #[.int .i64 0, .int .i64 0]) w := by kernel_rfl
/-- how a trail reads -/
def trR (v : Value) : Option (DataW Unit × List MemPlace) := match v with
  | .agg cs => match cs.toList with
    | [.int .i64 a, .int .i64 b] => some (.agg [.lit (.int .i64 a), .lit (.int .i64 b)], [])
    | _ => none
  | _ => none
theorem trR_mk (a b : Int) : trR (.agg #[.int .i64 a, .int .i64 b]) = some (.agg [.lit (.int .i64 a), .lit (.int .i64 b)], []) := rfl
theorem trR_inv {v : Value} {a b : Int} {ps : List MemPlace} (h : trR v = some (.agg [.lit (.int .i64 a), .lit (.int .i64 b)], ps)) : v = .agg #[.int .i64 a, .int .i64 b] := by
  unfold trR at h
  split at h
  · rename_i cs
    split at h
    · rename_i x y hxy
      simp only [Option.some.injEq, Prod.mk.injEq, DataW.agg.injEq, List.cons.injEq, DataW.lit.injEq, Lit.int.injEq, true_and, and_true] at h
      obtain ⟨⟨rfl, rfl⟩, _⟩ := h
      congr 1
      exact Array.toList_inj.1 hxy
    · cases h
  · cases h
/-- the tables of all events, asked with numbers -/
def GI (D : Nat → Trails) (i v : Int) : Option (Int × Int) := if 0 ≤ i ∧ 0 ≤ v then (D i.toNat v.toNat).map (fun x => ((x.1 : Int), x.2)) else none
theorem GI_nat (D : Nat → Trails) (i v : Nat) : GI D (i : Int) (v : Int) = (D i v).map (fun x => ((x.1 : Int), x.2)) := by
  unfold GI; rw [if_pos (by omega)]; simp
def updT (D : Nat → Trails) (i v : Nat) (x : Nat × Int) : Nat → Trails := fun j => if j = i then setT (D i) v x else D j
/-- block b is a map of at most n entries that tells D -/
def TM (w : World) (b n : Nat) (D : Nat → Trails) : Prop :=
  ∃ Dt : DataW Unit, IsMap Dt ∧ w.ownsMap Try.prog 222 trR b n Dt ∧ ∀ (i v : Int) (l : Lit), keyOf Try.prog 222 (.agg #[.int .i64 i, .int .i64 v]) = some l → ∀ z, Dt.atKey l z = match GI D i v with
    | none => z
    | some x => .agg [.lit (.int .i64 x.1), .lit (.int .i64 x.2)]
theorem TM.made (w : World) : TM (w.alloc (.map #[] 0)) w.heap.size 0 (fun _ _ => none) :=
  ⟨.map [], isMap_empty, World.ownsMap_made _ _ _ _, fun i v l _ z => by
    have : GI (fun _ _ => none) i v = none := by unfold GI; split <;> rfl
    rw [this]; rfl⟩
theorem TM.lt {w : World} {b n : Nat} {D : Nat → Trails} (h : TM w b n D) : b < w.heap.size := by
  obtain ⟨Dt, _, h, _⟩ := h; exact h.lt
theorem TM.mono {w : World} {b n m : Nat} {D : Nat → Trails} (h : TM w b n D) (hn : n ≤ m) : TM w b m D := by
  obtain ⟨Dt, h1, h, h2⟩ := h; exact ⟨Dt, h1, h.mono hn, h2⟩
theorem TM.below {w w' : World} {b n N : Nat} {D : Nat → Trails} (h : TM w b n D) (hb : Below N w w') (hN : b < N) : TM w' b n D := by
  obtain ⟨Dt, hD, h, ha⟩ := h
  refine ⟨Dt, hD, ?_, ha⟩
  obtain ⟨es, clock, h1, F, h2, h3⟩ := h
  exact ⟨es, clock, (hb.block b hN).trans h1, F, h2, h3⟩
theorem TM.grown {w w' : World} {b n : Nat} {D : Nat → Trails} {row : Option Nat} (h : TM w b n D) (hg : w.grownBy w' row) (hne : some b ≠ row) : TM w' b n D := by
  obtain ⟨Dt, hD, h, ha⟩ := h
  exact ⟨Dt, hD, h.kept hg hne, ha⟩
theorem TM.setNe {w : World} {b n g : Nat} {D : Nat → Trails} (h : TM w b n D) (hne : g ≠ b) (k : Nat) (x : Value) : TM (w.setCell ⟨g, k, none⟩ x) b n D := by
  obtain ⟨Dt, hD, h, ha⟩ := h
  exact ⟨Dt, hD, h.setCell (a := ⟨g, k, none⟩) (fun e => hne e.symm) x, ha⟩
theorem TM.look {w : World} {b n : Nat} {D : Nat → Trails} (h : TM w b n D) (i v : Int) (wi : (Lit.int .i64 i).wf = true) (wv : (Lit.int .i64 v).wf = true) :
    (Instr.lookup 150 (.map (some b)) (.agg #[.int .i64 i, .int .i64 v]) false).run Try.prog w = .ok (.agg #[.int .i64 ((GI D i v).getD (0, 0)).1, .int .i64 ((GI D i v).getD (0, 0)).2]) w := by
  obtain ⟨Dt, hD, h, ha⟩ := h
  obtain ⟨l, hl⟩ := pr_of i v wi wv
  obtain ⟨u, ps, hrun, hv⟩ := h.lookup pr_key Try.underlying150 (tr_zero w) (trR_mk 0 0) hl
  rw [ha i v l hl] at hv
  cases hg : GI D i v with
  | none => rw [hg] at hv; rw [hrun, trR_inv hv]; rfl
  | some x => rw [hg] at hv; rw [hrun, trR_inv hv]; rfl
theorem TM.lookOk {w : World} {b n : Nat} {D : Nat → Trails} (h : TM w b n D) (i v : Int) (wi : (Lit.int .i64 i).wf = true) (wv : (Lit.int .i64 v).wf = true) :
    (Instr.lookup 150 (.map (some b)) (.agg #[.int .i64 i, .int .i64 v]) true).run Try.prog w = .ok (.tuple #[.agg #[.int .i64 ((GI D i v).getD (0, 0)).1, .int .i64 ((GI D i v).getD (0, 0)).2], .bool (GI D i v).isSome]) w := by
  obtain ⟨Dt, hD, h, ha⟩ := h
  obtain ⟨l, hl⟩ := pr_of i v wi wv
  obtain ⟨u, ps, hrun, hv⟩ := h.look_ok pr_key Try.underlying150 (tr_zero w) (trR_mk 0 0) hl
  have ha2 := ha i v l hl
  rw [ha2] at hv
  cases hg : GI D i v with
  | none =>
    rw [hg] at hv
    rw [hrun, trR_inv hv, has_false_of_atKey (fun z => by rw [ha2 z, hg])]; rfl
  | some x =>
    rw [hg] at hv
    rw [hrun, trR_inv hv, has_true_of_atKey (fun z => by rw [ha2 z, hg])]; rfl
theorem TM.put {w : World} {b n : Nat} {D : Nat → Trails} (h : TM w b n D) (i v : Nat) (c : Nat) (s : Int) (wi : (Lit.int .i64 (i : Int)).wf = true) (wv : (Lit.int .i64 (v : Int)).wf = true) (hn : n < maxLen) :
    ∃ w', (Instr.mapUpdate 150 (.map (some b)) (.agg #[.int .i64 (i : Int), .int .i64 (v : Int)]) (.agg #[.int .i64 (c : Int), .int .i64 s])).run Try.prog w = .ok () w' ∧ TM w' b (n + 1) (updT D i v (c, s)) ∧ w.grownBy w' (some b) := by
  obtain ⟨Dt, hD, h, ha⟩ := h
  obtain ⟨l, hl⟩ := pr_of i v wi wv
  obtain ⟨w', hrun, h1, h2⟩ := h.update pr_key Try.underlying150 hn hl (trR_mk (c : Int) s)
  refine ⟨w', hrun, ⟨_, hD.put _ _, h1, fun i2 v2 l2 hl2 z => ?_⟩, h2⟩
  by_cases he : l2 = l
  · subst he
    have := pr_key.inj hl hl2
    simp only [Value.agg.injEq] at this
    have e1 : (i : Int) = i2 ∧ (v : Int) = v2 := by simpa using this
    obtain ⟨rfl, rfl⟩ := e1
    rw [atKey_put_same hD (pr_key.key hl), GI_nat]
    simp [updT, setT]
  · rw [atKey_put_other he, ha i2 v2 l2 hl2]
    have hG : GI (updT D i v (c, s)) i2 v2 = GI D i2 v2 := by
      unfold GI
      by_cases h0 : 0 ≤ i2 ∧ 0 ≤ v2
      · rw [if_pos h0, if_pos h0]
        have hne : ¬ (i2.toNat = i ∧ v2.toNat = v) := by
          rintro ⟨rfl, rfl⟩
          have e1 : ((i2.toNat : Nat) : Int) = i2 := by omega
          have e2 : ((v2.toNat : Nat) : Int) = v2 := by omega
          rw [e1, e2] at hl
          rw [hl] at hl2
          exact he (Option.some.inj hl2).symm
        unfold updT setT
        by_cases hi : i2.toNat = i
        · rw [if_pos hi]
          have hv : ¬ v2.toNat = v := fun e => hne ⟨hi, e⟩
          simp only [if_neg hv, hi]
        · rw [if_neg hi]
      · rw [if_neg h0, if_neg h0]
    rw [hG]
end Go.Proofs.Ytkipgeecibimoaa
