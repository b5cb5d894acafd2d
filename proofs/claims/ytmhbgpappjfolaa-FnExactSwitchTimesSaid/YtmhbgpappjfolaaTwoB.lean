/- Two strings.Builders in one array of the call's own. -/
import Derived.Test.YtmhbgpappjfolaaJoinAny
import Derived.Lib.OwnKind
import Derived.RangeFuncBox
import Derived.Deep.AppendLies
import Derived.RegionTactic
import Derived.ChangeAlike
namespace Go.Proofs.Ytmhbgpappjfolaa
open Go.RowKit Go.Shelf
set_option linter.unusedVariables false

abbrev TA2 : Nat := 82
theorem liesB0 : liesAt Try.prog Try.prog.depth TA2 (4 / Try.prog.cellsOf TA2) 0 68 1 = true := by kernel_rfl
theorem liesB2 : liesAt Try.prog Try.prog.depth TA2 (4 / Try.prog.cellsOf TA2) 2 68 1 = true := by kernel_rfl
/-- a builder's row, nil exactly if nothing has been written -/
def RowB (w : World) (B : Nat) (v : Value) (l : List UInt8) : Prop := w.ownsRow B TU 1 v l.length (Lib.byteCells l) ∧ (l = [] → v = .slice none 0 0)
theorem RowB.kept {w w' : World} {B r : Nat} {v : Value} {l : List UInt8} (h : RowB w B v l) (hg : w.grownBy w' (some r)) (hne : v.ownBlock ≠ some r) : RowB w' B v l := ⟨h.1.kept hg (Or.inr hne), h.2⟩
theorem RowB.kept2 {w w' : World} {B : Nat} {v : Value} {l : List UInt8} {r : Option Nat} (h : RowB w B v l) (hg : w.grownBy w' r) (hne : ∀ g, v.ownBlock = some g → r ≠ some g) : RowB w' B v l :=
  ⟨h.1.kept hg (by cases hv : v.ownBlock with
    | none => exact Or.inl rfl
    | some g => exact Or.inr (fun e => hne g hv e.symm)), h.2⟩
theorem RowB.form {w : World} {B : Nat} {v : Value} {l : List UInt8} (h : RowB w B v l) : ∃ a cap, v = .slice a l.length cap := by
  rcases h.1.2 with ⟨hv, h0⟩ | ⟨g, cap, cur, hv, _⟩
  · exact ⟨none, 0, by rw [hv, h0]⟩
  · exact ⟨_, _, hv⟩
/-- both builders -/
def Bld2 (B q : Nat) (l0 l1 : List UInt8) (w : World) : Prop :=
  B ≤ q ∧ ∃ p0 v0 p1 v1, w.heap[q]? = some (.cells #[p0, v0, p1, v1] TA2 (0, 0)) ∧ (p0 = .pointer none ∨ p0 = .pointer (some ⟨q, 0, none⟩)) ∧ (p1 = .pointer none ∨ p1 = .pointer (some ⟨q, 2, none⟩)) ∧
    RowB w B v0 l0 ∧ RowB w B v1 l1 ∧ (∀ g, v0.ownBlock = some g → g ≠ q ∧ v1.ownBlock ≠ some g) ∧ (∀ g, v1.ownBlock = some g → g ≠ q)
theorem Bld2.lt {B q : Nat} {l0 l1 : List UInt8} {w : World} (h : Bld2 B q l0 l1 w) : q < w.heap.size := by
  obtain ⟨_, p0, v0, p1, v1, hq, _⟩ := h
  exact (Array.getElem?_eq_some_iff.1 hq).1
theorem Bld2.grown {B q p : Nat} {l0 l1 : List UInt8} {w w' : World} (h : Bld2 B q l0 l1 w) (hg : w.grownBy w' (some p)) (hp : p < B) : Bld2 B q l0 l1 w' := by
  have hlt := h.lt
  obtain ⟨hB, p0, v0, p1, v1, hq, a, b, r0, r1, d0, d1⟩ := h
  refine ⟨hB, p0, v0, p1, v1, (hg.block q hlt (fun e => by injection e with e; omega)).trans hq, a, b, r0.kept hg ?_, r1.kept hg ?_, d0, d1⟩
  · intro e; have := (r0.1.lt p e).1; omega
  · intro e; have := (r1.1.lt p e).1; omega
theorem Bld2.new (w : World) : Bld2 w.heap.size w.heap.size [] [] (w.alloc (.cells #[.pointer none, .slice none 0 0, .pointer none, .slice none 0 0] TA2)) :=
  ⟨Nat.le_refl _, _, _, _, _, World.alloc_heap_new w _, .inl rfl, .inl rfl, ⟨⟨rfl, .inl ⟨rfl, rfl⟩⟩, fun _ => rfl⟩, ⟨⟨rfl, .inl ⟨rfl, rfl⟩⟩, fun _ => rfl⟩, fun g e => by simp [Value.ownBlock] at e, fun g e => by simp [Value.ownBlock] at e⟩
theorem set_grown (w : World) (q i : Nat) (u : Value) : w.grownBy (w.setCell ⟨q, i, none⟩ u) (some q) :=
  ⟨rfl, rfl, rfl, by simp, fun k hk hne => Below.heap_setCell _ _ _ _ (by show k ≠ q; intro e; exact hne (by rw [e]))⟩

set_option maxRecDepth 100000 in
theorem copyCheckA_used (q o : Nat) (w : World) (h0 : w.cell? ⟨q, o, none⟩ = some (.pointer (some ⟨q, o, none⟩))) :
    Calls Try.prog 84 #[.pointer (some ⟨q, o, none⟩)] w fun e w' => e = .returned (.tuple #[]) ∧ w' = w := by
  obtain ⟨j, hj, _⟩ := Option.map_eq_some_iff.1 sizeBuilder
  go_enter Try.func84, Try.ntmps84
  go_wp2
  rw [Lib.run_neq_ptr_same w _ Try.underlying66 hj]
  go_wp2
  go_end0
  exact ⟨rfl, rfl⟩
set_option maxHeartbeats 1000000 in
set_option maxRecDepth 100000 in
theorem copyCheckA_fresh (q o : Nat) (ho : o < 4) (w : World) (h0 : w.cell? ⟨q, o, none⟩ = some (.pointer none)) (hsh : w.shape? q = some (TA2, 4)) (hfz : w.frozen? ⟨q, o, none⟩ = false) (hlies : liesAt Try.prog Try.prog.depth TA2 (4 / Try.prog.cellsOf TA2) o 68 1 = true) :
    Calls Try.prog 84 #[.pointer (some ⟨q, o, none⟩)] w fun e w' => e = .returned (.tuple #[]) ∧ w' = w.setCell ⟨q, o, none⟩ (.pointer (some ⟨q, o, none⟩)) := by
  obtain ⟨j, hj, hjs⟩ := Option.map_eq_some_iff.1 sizeBuilder
  go_enter Try.func84, Try.ntmps84
  go_wp2
  rw [Lib.run_to_unsafe w ⟨q, o, none⟩ Try.underlying66 Try.underlying143 hj (by rw [hjs]; decide) hsh ho]
  simp only [Result.andThen]
  rw [Oper.upon_value]
  go_wp2
  rw [run_callFunc_extern Try.func102 (by kernel_rfl) (by kernel_rfl) (by kernel_rfl) (e := Extern.AbiNoEscape.same) (by kernel_rfl)]
  rw [Lib.run_noEscape]
  simp only [Result.andThen]
  rw [Oper.upon_value]
  go_wp2
  rw [Lib.run_from_unsafe w ⟨q, o, none⟩ Try.underlying143 Try.underlying66 hj hsh hlies]
  simp only [Result.andThen]
  rw [Oper.upon_value]
  go_wp2
  go_end0
  exact ⟨rfl, rfl⟩
set_option maxHeartbeats 1000000 in
set_option maxRecDepth 100000 in
theorem appendRune_at (B : Nat) (v : Value) (n : Nat) (bs : List Value) (c : Int) (w : World) (hc0 : 0 ≤ c) (hc1 : c ≤ 127) (hown : w.ownsRow B TU 1 v n bs) (hlen : n + 1 ≤ 1000000) (hBw : B ≤ w.heap.size) :
    Calls Try.prog 85 #[v, .int .i32 c] w fun e w' => ∃ v', e = .returned v' ∧ w'.ownsRow B TU 1 v' (n + 1) (bs ++ [.int .u8 c]) ∧ (w.alloc (.cells #[.int .u8 c] TU)).grownBy w' v.ownBlock ∧ (v'.ownBlock = v.ownBlock ∨ v'.ownBlock = some (w.heap.size + 1)) := by
  obtain ⟨i0, hi, hz0, hz1, hz2⟩ := info_parts info_by
  go_enter Try.func85, Try.ntmps85
  go_wp2_with (at_builtin; refine wpList_append_own_at _ rfl _ _ 25 rfl B TU i0 (.int .u8 0) 1 1 Try.underlying25 hi hz0 hz1 hz2 rfl (by decide) _ _ _ rfl (hown.alloc _) ⟨w.heap.size, 0, none⟩ 1 1 [.int .u8 c] rfl rfl ?c1 ?c2 ?c3 ?c4 ?c5 ?_)
  case c1 => exact cell_one_new _ _ _
  case c2 => simp [Value.oneCell']
  case c3 => unfold maxLen; omega
  case c4 => omega
  case c5 => simp; omega
  intro v' w2 hown' hgrow _ hat
  have hat2 : v'.ownBlock = v.ownBlock ∨ v'.ownBlock = some (w.heap.size + 1) := by simpa using hat
  have HA := Lib.hid hat2
  clear hat hat2
  go_wp2
  go_ret
  exact ⟨v', rfl, hown', hgrow, HA.out⟩

/-- the builder's pointer is its own address behind copyCheck -/
theorem copyCheck2_0 (B q : Nat) (l0 l1 : List UInt8) (w : World) (h : Bld2 B q l0 l1 w) :
    Calls Try.prog 84 #[.pointer (some ⟨q, 0, none⟩)] w fun e w' => e = .returned (.tuple #[]) ∧ w.grownBy w' (some q) ∧ w'.heap.size = w.heap.size ∧ Lib.OthersKept TU (some q) w w' ∧
      ∃ p1 v0 v1, w'.heap[q]? = some (.cells #[.pointer (some ⟨q, 0, none⟩), v0, p1, v1] TA2 (0, 0)) ∧ (p1 = .pointer none ∨ p1 = .pointer (some ⟨q, 2, none⟩)) ∧ RowB w' B v0 l0 ∧ RowB w' B v1 l1 ∧ (∀ g, v0.ownBlock = some g → g ≠ q ∧ v1.ownBlock ≠ some g) ∧ (∀ g, v1.ownBlock = some g → g ≠ q) := by
  obtain ⟨hB, p0, v0, p1, v1, hq, a, b, r0, r1, d0, d1⟩ := h
  rcases a with rfl | rfl
  · refine (copyCheckA_fresh q 0 (by omega) w (by rw [Lib.cell_of_heap hq]; rfl) (by simp [World.shape?, hq]) (Lib.frozen_of_heap hq 0) liesB0).mono ?_
    rintro e w' ⟨he, rfl⟩
    have hg := set_grown w q 0 (.pointer (some ⟨q, 0, none⟩))
    refine ⟨he, hg, by simp, (Lib.OthersKept.refl _ _ w).setCell ⟨q, 0, none⟩ rfl _, _, v0, v1, ?_, b, r0.kept hg (fun e => (d0 q e).1 rfl), r1.kept hg (fun e => d1 q e rfl), d0, d1⟩
    rw [heap_setCell_same w q 0 _ _ _ hq]
    rfl
  · refine (copyCheckA_used q 0 w (by rw [Lib.cell_of_heap hq]; rfl)).mono ?_
    rintro e w' ⟨he, rfl⟩
    exact ⟨he, ⟨rfl, rfl, rfl, Nat.le_refl _, fun _ _ _ => rfl⟩, rfl, Lib.OthersKept.refl _ _ _, _, v0, v1, hq, b, r0, r1, d0, d1⟩
set_option maxHeartbeats 1000000 in
set_option maxRecDepth 100000 in
theorem writeRune2_0 (B q : Nat) (l0 l1 : List UInt8) (b : Bool) (w : World) (h : Bld2 B q l0 l1 w) (hlen : l0.length ≤ 1000) :
    Calls Try.prog 60 #[.pointer (some ⟨q, 0, none⟩), .int .i32 (lvOf b)] w fun e w' => e = .returned (.tuple #[.int .i64 1, .nilIface]) ∧ Bld2 B q (l0 ++ [lvU b]) l1 w' ∧ Below B w w' ∧ Lib.OthersKept TU (some q) w w' := by
  have hB := h.1
  have hqw := h.lt
  go_enter Try.func60, Try.ntmps60
  go_wp2_with fail
  refine (copyCheck2_0 B q l0 l1 w h).mono ?_
  rintro e w1 ⟨rfl, hg1, hs1, hk1, p1, v0, v1, hbk, hpo, r0, r1, d0, d1⟩
  have hq1 : q < w1.heap.size := by omega
  obtain ⟨ao, cap, hv⟩ := r0.form
  have c0 : w1.cell? ⟨q, 0, none⟩ = some (.pointer (some ⟨q, 0, none⟩)) := by rw [Lib.cell_of_heap hbk]; rfl
  have c1 : w1.cell? ⟨q, 0 + 1, none⟩ = some (.slice ao l0.length cap) := by rw [Lib.cell_of_heap hbk, ← hv]; rfl
  simp only [Nat.reduceAdd] at c1
  have HV := Lib.hid hv
  have HAP := Lib.hid (appendRune_at B v0 l0.length (Lib.byteCells l0) (lvOf b) w1 (lvOf_bd b).1 (lvOf_bd b).2 r0.1 (by omega) (by omega))
  have HD := Lib.hid (And.intro d0 d1)
  have HR := Lib.hid (And.intro r0 r1)
  have HBK := Lib.hid hbk
  have HPO := Lib.hid hpo
  rw [HV.out] at HAP
  clear d0 d1 r0 r1 hbk hpo hv h
  go_wp2_with fail
  refine HAP.out.mono ?_
  rintro e w2 ⟨v', rfl, hown', hgrow, hat⟩
  rw [← HV.out] at hgrow hat
  have hne : some q ≠ v0.ownBlock := fun e => by first | exact (HD.out.1 q e.symm).1 rfl | exact HD.out.2 q e.symm rfl
  have hb2 : w2.heap[q]? = some (.cells #[.pointer (some ⟨q, 0, none⟩), v0, p1, v1] TA2 (0, 0)) := by
    rw [hgrow.block q (by simp; omega) hne, Lib.alloc_old w1 _ q hq1]
    exact HBK.out
  have e0 : w2.cell? ⟨q, 0, none⟩ = some (.pointer (some ⟨q, 0, none⟩)) := by rw [Lib.cell_of_heap hb2]; rfl
  have e1 : w2.cell? ⟨q, 0 + 1, none⟩ = some (.slice ao l0.length cap) := by rw [Lib.cell_of_heap hb2, ← HV.out]; rfl
  have f1 : w2.frozen? ⟨q, 0 + 1, none⟩ = false := Lib.frozen_of_heap hb2 _
  simp only [Nat.reduceAdd] at e1 f1
  obtain ⟨g, cap', rfl⟩ : ∃ g cap', v' = .slice (some ⟨g, 0, none⟩) (l0.length + 1) cap' := by
    rcases hown'.2 with ⟨_, h0⟩ | ⟨g, cap', cur, hv, _⟩
    · omega
    · exact ⟨g, cap', hv⟩
  have hgq : g ≠ q := by
    intro e
    subst e
    rcases hat with hat | hat
    · exact hne hat
    · simp [Value.ownBlock] at hat; omega
  have hgo : ∀ g2, v1.ownBlock = some g2 → g2 ≠ g := by
    rintro g2 h2 rfl
    rcases hat with hat | hat
    · exact (HD.out.1 g2 (hat.symm.trans rfl |>.trans rfl)).2 h2
    · have := (HR.out.2.1.lt g2 h2).2
      simp [Value.ownBlock] at hat; omega
  have hO2 : RowB w2 B v1 l1 := by
    refine (RowB.kept2 (r := none) HR.out.2 (World.grownBy_alloc w1 _ none) (fun _ _ => by simp)).kept2 hgrow (fun g2 h2 e => ?_)
    exact (HD.out.1 g2 e).2 h2
  have HFIN : Hid (Bld2 B q (l0 ++ [lvU b]) l1 (w2.setCell ⟨q, 0 + 1, none⟩ (.slice (some ⟨g, 0, none⟩) (l0.length + 1) cap'))) := by
    have hg3 := set_grown w2 q (0 + 1) (.slice (some ⟨g, 0, none⟩) (l0.length + 1) cap')
    have hT3 : RowB (w2.setCell ⟨q, 0 + 1, none⟩ (.slice (some ⟨g, 0, none⟩) (l0.length + 1) cap')) B (.slice (some ⟨g, 0, none⟩) (l0.length + 1) cap') (l0 ++ [lvU b]) := by
      refine ⟨?_, fun e => by simp at e⟩
      have e2 : Lib.byteCells (l0 ++ [lvU b]) = Lib.byteCells l0 ++ [.int .u8 (lvOf b)] := by
        have e3 : ((lvU b).toNat : Int) = lvOf b := by cases b <;> rfl
        simp [Lib.byteCells, e3]
      rw [e2, List.length_append]
      exact hown'.kept hg3 (Or.inr (by simpa [Value.ownBlock] using hgq))
    have hO3 : RowB (w2.setCell ⟨q, 0 + 1, none⟩ (.slice (some ⟨g, 0, none⟩) (l0.length + 1) cap')) B v1 l1 := hO2.kept hg3 (fun e => by first | exact HD.out.2 q e rfl | exact (HD.out.1 q e).1 rfl)
    refine ⟨hB, _, _, p1, v1, ?_, .inr rfl, HPO.out, hT3, hO3, ?_, ?_⟩
    · rw [heap_setCell_same w2 q (0 + 1) _ _ _ hb2]; rfl
    · intro g2 e; simp [Value.ownBlock] at e; subst e; exact ⟨hgq, fun e => hgo _ e rfl⟩
    · exact fun g2 e => HD.out.2 g2 e
  have HBEL : Hid (Below B w (w2.setCell ⟨q, 0 + 1, none⟩ (.slice (some ⟨g, 0, none⟩) (l0.length + 1) cap'))) := by
    have hb1 : Below B w w1 := ⟨hg1.os, hg1.tape, hg1.output, hg1.size, fun k hk => hg1.block k (by omega) (fun e => by injection e with e; omega)⟩
    exact ((hb1.alloc (by omega) _).grown hgrow (by simp; omega) (fun k hk => (HR.out.1.1.lt k hk).1)).setCell (p := ⟨q, 0 + 1, none⟩) hB _
  have HOK : Hid (Lib.OthersKept TU (some q) w (w2.setCell ⟨q, 0 + 1, none⟩ (.slice (some ⟨g, 0, none⟩) (l0.length + 1) cap'))) :=
    ((hk1.alloc _).grown hgrow (Lib.ownsRow_kind (HR.out.1.1.alloc _))).setCell ⟨q, 0 + 1, none⟩ rfl _
  simp only [Nat.reduceAdd] at HFIN HBEL HOK
  clear hgo hO2 hgrow hat hown' hg1 hk1
  go_wp2
  go_ret2
  exact ⟨by simp; omega, HFIN.out, HBEL.out, HOK.out⟩

/-- the builder's pointer is its own address behind copyCheck -/
theorem copyCheck2_2 (B q : Nat) (l0 l1 : List UInt8) (w : World) (h : Bld2 B q l0 l1 w) :
    Calls Try.prog 84 #[.pointer (some ⟨q, 2, none⟩)] w fun e w' => e = .returned (.tuple #[]) ∧ w.grownBy w' (some q) ∧ w'.heap.size = w.heap.size ∧ Lib.OthersKept TU (some q) w w' ∧
      ∃ p0 v0 v1, w'.heap[q]? = some (.cells #[p0, v0, .pointer (some ⟨q, 2, none⟩), v1] TA2 (0, 0)) ∧ (p0 = .pointer none ∨ p0 = .pointer (some ⟨q, 0, none⟩)) ∧ RowB w' B v0 l0 ∧ RowB w' B v1 l1 ∧ (∀ g, v0.ownBlock = some g → g ≠ q ∧ v1.ownBlock ≠ some g) ∧ (∀ g, v1.ownBlock = some g → g ≠ q) := by
  obtain ⟨hB, p0, v0, p1, v1, hq, a, b, r0, r1, d0, d1⟩ := h
  rcases b with rfl | rfl
  · refine (copyCheckA_fresh q 2 (by omega) w (by rw [Lib.cell_of_heap hq]; rfl) (by simp [World.shape?, hq]) (Lib.frozen_of_heap hq 2) liesB2).mono ?_
    rintro e w' ⟨he, rfl⟩
    have hg := set_grown w q 2 (.pointer (some ⟨q, 2, none⟩))
    refine ⟨he, hg, by simp, (Lib.OthersKept.refl _ _ w).setCell ⟨q, 2, none⟩ rfl _, _, v0, v1, ?_, a, r0.kept hg (fun e => (d0 q e).1 rfl), r1.kept hg (fun e => d1 q e rfl), d0, d1⟩
    rw [heap_setCell_same w q 2 _ _ _ hq]
    rfl
  · refine (copyCheckA_used q 2 w (by rw [Lib.cell_of_heap hq]; rfl)).mono ?_
    rintro e w' ⟨he, rfl⟩
    exact ⟨he, ⟨rfl, rfl, rfl, Nat.le_refl _, fun _ _ _ => rfl⟩, rfl, Lib.OthersKept.refl _ _ _, _, v0, v1, hq, a, r0, r1, d0, d1⟩
set_option maxHeartbeats 1000000 in
set_option maxRecDepth 100000 in
theorem writeRune2_2 (B q : Nat) (l0 l1 : List UInt8) (b : Bool) (w : World) (h : Bld2 B q l0 l1 w) (hlen : l1.length ≤ 1000) :
    Calls Try.prog 60 #[.pointer (some ⟨q, 2, none⟩), .int .i32 (lvOf b)] w fun e w' => e = .returned (.tuple #[.int .i64 1, .nilIface]) ∧ Bld2 B q l0 (l1 ++ [lvU b]) w' ∧ Below B w w' ∧ Lib.OthersKept TU (some q) w w' := by
  have hB := h.1
  have hqw := h.lt
  go_enter Try.func60, Try.ntmps60
  go_wp2_with fail
  refine (copyCheck2_2 B q l0 l1 w h).mono ?_
  rintro e w1 ⟨rfl, hg1, hs1, hk1, p0, v0, v1, hbk, hpo, r0, r1, d0, d1⟩
  have hq1 : q < w1.heap.size := by omega
  obtain ⟨ao, cap, hv⟩ := r1.form
  have c0 : w1.cell? ⟨q, 2, none⟩ = some (.pointer (some ⟨q, 2, none⟩)) := by rw [Lib.cell_of_heap hbk]; rfl
  have c1 : w1.cell? ⟨q, 2 + 1, none⟩ = some (.slice ao l1.length cap) := by rw [Lib.cell_of_heap hbk, ← hv]; rfl
  simp only [Nat.reduceAdd] at c1
  have HV := Lib.hid hv
  have HAP := Lib.hid (appendRune_at B v1 l1.length (Lib.byteCells l1) (lvOf b) w1 (lvOf_bd b).1 (lvOf_bd b).2 r1.1 (by omega) (by omega))
  have HD := Lib.hid (And.intro d0 d1)
  have HR := Lib.hid (And.intro r0 r1)
  have HBK := Lib.hid hbk
  have HPO := Lib.hid hpo
  rw [HV.out] at HAP
  clear d0 d1 r0 r1 hbk hpo hv h
  go_wp2_with fail
  refine HAP.out.mono ?_
  rintro e w2 ⟨v', rfl, hown', hgrow, hat⟩
  rw [← HV.out] at hgrow hat
  have hne : some q ≠ v1.ownBlock := fun e => by first | exact (HD.out.1 q e.symm).1 rfl | exact HD.out.2 q e.symm rfl
  have hb2 : w2.heap[q]? = some (.cells #[p0, v0, .pointer (some ⟨q, 2, none⟩), v1] TA2 (0, 0)) := by
    rw [hgrow.block q (by simp; omega) hne, Lib.alloc_old w1 _ q hq1]
    exact HBK.out
  have e0 : w2.cell? ⟨q, 2, none⟩ = some (.pointer (some ⟨q, 2, none⟩)) := by rw [Lib.cell_of_heap hb2]; rfl
  have e1 : w2.cell? ⟨q, 2 + 1, none⟩ = some (.slice ao l1.length cap) := by rw [Lib.cell_of_heap hb2, ← HV.out]; rfl
  have f1 : w2.frozen? ⟨q, 2 + 1, none⟩ = false := Lib.frozen_of_heap hb2 _
  simp only [Nat.reduceAdd] at e1 f1
  obtain ⟨g, cap', rfl⟩ : ∃ g cap', v' = .slice (some ⟨g, 0, none⟩) (l1.length + 1) cap' := by
    rcases hown'.2 with ⟨_, h0⟩ | ⟨g, cap', cur, hv, _⟩
    · omega
    · exact ⟨g, cap', hv⟩
  have hgq : g ≠ q := by
    intro e
    subst e
    rcases hat with hat | hat
    · exact hne hat
    · simp [Value.ownBlock] at hat; omega
  have hgo : ∀ g2, v0.ownBlock = some g2 → g2 ≠ g := by
    rintro g2 h2 rfl
    rcases hat with hat | hat
    · exact (HD.out.1 g2 h2).2 (hat.symm.trans rfl)
    · have := (HR.out.1.1.lt g2 h2).2
      simp [Value.ownBlock] at hat; omega
  have hO2 : RowB w2 B v0 l0 := by
    refine (RowB.kept2 (r := none) HR.out.1 (World.grownBy_alloc w1 _ none) (fun _ _ => by simp)).kept2 hgrow (fun g2 h2 e => ?_)
    exact (HD.out.1 g2 h2).2 e
  have HFIN : Hid (Bld2 B q l0 (l1 ++ [lvU b]) (w2.setCell ⟨q, 2 + 1, none⟩ (.slice (some ⟨g, 0, none⟩) (l1.length + 1) cap'))) := by
    have hg3 := set_grown w2 q (2 + 1) (.slice (some ⟨g, 0, none⟩) (l1.length + 1) cap')
    have hT3 : RowB (w2.setCell ⟨q, 2 + 1, none⟩ (.slice (some ⟨g, 0, none⟩) (l1.length + 1) cap')) B (.slice (some ⟨g, 0, none⟩) (l1.length + 1) cap') (l1 ++ [lvU b]) := by
      refine ⟨?_, fun e => by simp at e⟩
      have e2 : Lib.byteCells (l1 ++ [lvU b]) = Lib.byteCells l1 ++ [.int .u8 (lvOf b)] := by
        have e3 : ((lvU b).toNat : Int) = lvOf b := by cases b <;> rfl
        simp [Lib.byteCells, e3]
      rw [e2, List.length_append]
      exact hown'.kept hg3 (Or.inr (by simpa [Value.ownBlock] using hgq))
    have hO3 : RowB (w2.setCell ⟨q, 2 + 1, none⟩ (.slice (some ⟨g, 0, none⟩) (l1.length + 1) cap')) B v0 l0 := hO2.kept hg3 (fun e => by first | exact HD.out.2 q e rfl | exact (HD.out.1 q e).1 rfl)
    refine ⟨hB, p0, v0, _, _, ?_, HPO.out, .inr rfl, hO3, hT3, ?_, ?_⟩
    · rw [heap_setCell_same w2 q (2 + 1) _ _ _ hb2]; rfl
    · intro g2 e; refine ⟨(HD.out.1 g2 e).1, fun e2 => ?_⟩; simp [Value.ownBlock] at e2; exact hgo g2 e e2.symm
    · intro g2 e; simp [Value.ownBlock] at e; subst e; exact hgq
  have HBEL : Hid (Below B w (w2.setCell ⟨q, 2 + 1, none⟩ (.slice (some ⟨g, 0, none⟩) (l1.length + 1) cap'))) := by
    have hb1 : Below B w w1 := ⟨hg1.os, hg1.tape, hg1.output, hg1.size, fun k hk => hg1.block k (by omega) (fun e => by injection e with e; omega)⟩
    exact ((hb1.alloc (by omega) _).grown hgrow (by simp; omega) (fun k hk => (HR.out.2.1.lt k hk).1)).setCell (p := ⟨q, 2 + 1, none⟩) hB _
  have HOK : Hid (Lib.OthersKept TU (some q) w (w2.setCell ⟨q, 2 + 1, none⟩ (.slice (some ⟨g, 0, none⟩) (l1.length + 1) cap'))) :=
    ((hk1.alloc _).grown hgrow (Lib.ownsRow_kind (HR.out.2.1.alloc _))).setCell ⟨q, 2 + 1, none⟩ rfl _
  simp only [Nat.reduceAdd] at HFIN HBEL HOK
  clear hgo hO2 hgrow hat hown' hg1 hk1
  go_wp2
  go_ret2
  exact ⟨by simp; omega, HFIN.out, HBEL.out, HOK.out⟩

theorem freeze_grown (w : World) (g n : Nat) : w.grownBy (w.drew.freeze ⟨g, 0, none⟩ n) (some g) := by
  unfold World.freeze
  split
  · exact ⟨rfl, rfl, rfl, Nat.le_refl _, fun _ _ _ => rfl⟩
  · refine ⟨rfl, rfl, rfl, by simp, fun k hk hne => ?_⟩
    have hk2 : g ≠ k := fun e => hne (by rw [e])
    simp only [Array.getElem?_modify]
    rw [if_neg hk2]
    rfl

set_option maxHeartbeats 2000000 in
set_option maxRecDepth 100000 in
theorem string2_0 (B q : Nat) (l0 l1 : List UInt8) (w : World) (v v1 : Value) (hc : w.cell? ⟨q, 1, none⟩ = some v) (hr : RowB w B v l0) (hc1 : w.cell? ⟨q, 3, none⟩ = some v1) (hr1 : RowB w B v1 l1) (hqg : ∀ g, v.ownBlock = some g → g ≠ q ∧ v1.ownBlock ≠ some g) :
    Calls Try.prog 62 #[.pointer (some ⟨q, 0, none⟩)] w fun e w' => e = .returned (.string ⟨l0.toArray⟩) ∧ Below B w w' ∧ w'.cell? ⟨q, 3, none⟩ = some v1 ∧ RowB w' B v1 l1 := by
  cases hl : l0 with
  | nil =>
    obtain rfl : v = .slice none 0 0 := hr.2 hl
    have hUS : ∀ W (p : Option Addr), (Builtin.unsafeString_ #[115, 3] 9 #[.pointer p, .int .i64 0]).run Try.prog W = .ok (.string .empty) W := fun W p => Lib.run_unsafeString_none W _ _ _ p
    have c1 : w.drew.cell? ⟨q, 1, none⟩ = some (.slice none 0 0) := hc
    have hSD : (Builtin.unsafeSliceData_ #[25] 115 #[.slice none 0 0]).run Try.prog w.drew = .ok (.pointer none) w.drew := rfl
    clear hr hl
    go_enter Try.func62, Try.ntmps62
    go_wp2
    go_region
    all_goals (go_wp2; go_ret; exact ⟨rfl, (Below.refl B w).drew, hc1, ⟨hr1.1, hr1.2⟩⟩)
  | cons x xs =>
    have h0 : l0 ≠ [] := by rw [hl]; simp
    rw [← hl]
    clear hl
    obtain ⟨g, cap, cur, rfl, hbg, hg, hnc, hcm, hcs, htake⟩ : ∃ g cap cur, v = .slice (some ⟨g, 0, none⟩) l0.length cap ∧ B ≤ g ∧ w.heap[g]? = some (.cells cur TU (0, 0)) ∧ l0.length ≤ cap ∧ cap ≤ maxLen ∧ cur.size = cap * 1 ∧ cur.toList.take (l0.length * 1) = Lib.byteCells l0 := by
      rcases hr.1.2 with ⟨_, hz⟩ | ⟨g, cap, cur, hv, r⟩
      · exact absurd (List.length_eq_zero_iff.1 hz) h0
      · exact ⟨g, cap, cur, hv, r⟩
    have hl0 : l0.length ≠ 0 := fun e => h0 (List.length_eq_zero_iff.1 e)
    have c1 : w.drew.cell? ⟨q, 1, none⟩ = some (.slice (some ⟨g, 0, none⟩) l0.length cap) := hc
    have hSD : (Builtin.unsafeSliceData_ #[25] 115 #[.slice (some ⟨g, 0, none⟩) l0.length cap]).run Try.prog w.drew = .ok (.pointer (some ⟨g, 0, none⟩)) w.drew :=
      Lib.run_unsafeSliceData_row _ _ _ _ _ _ (by omega)
    have hUS : (Builtin.unsafeString_ #[115, 3] 9 #[.pointer (some ⟨g, 0, none⟩), .int .i64 l0.length]).run Try.prog w.drew = .ok (.string ⟨l0.toArray⟩) (w.drew.freeze ⟨g, 0, none⟩ l0.length) := by
      refine Lib.run_unsafeString_row w.drew _ _ _ TU Try.underlying115 (by kernel_rfl) g cur.size (by have hg' : w.drew.heap[g]? = some (.cells cur TU (0, 0)) := hg; simp [World.shape?, hg']) l0 h0 (by omega) (by unfold maxLen at hcm; omega) ?_
      intro j x hx
      exact hr.1.cells (g := g) rfl j (.int .u8 x.toNat) (by simp [Lib.byteCells, hx])
    have HB : Hid (Below B w (w.drew.freeze ⟨g, 0, none⟩ l0.length)) := Lib.below_freeze ((Below.refl B w).drew) (p := ⟨g, 0, none⟩) hbg _
    have HO : Hid ((w.drew.freeze ⟨g, 0, none⟩ l0.length).cell? ⟨q, 3, none⟩ = some v1 ∧ RowB (w.drew.freeze ⟨g, 0, none⟩ l0.length) B v1 l1) := by
      have hq := hqg g (by simp [Value.ownBlock])
      have hgr : w.grownBy (w.drew.freeze ⟨g, 0, none⟩ l0.length) (some g) := freeze_grown w g _
      refine ⟨?_, hr1.kept hgr (fun e => hq.2 e)⟩
      rw [← hc1]
      exact hgr.cell_far ⟨q, 3, none⟩ (World.block_lt_of_cell? w _ hc1) (fun e => by injection e with e; exact hq.1 e.symm)
    clear hr hcs htake hg
    go_enter Try.func62, Try.ntmps62
    go_wp2
    go_region
    all_goals (go_wp2; go_ret; exact ⟨rfl, HB.out, HO.out.1, HO.out.2⟩)

set_option maxHeartbeats 2000000 in
set_option maxRecDepth 100000 in
theorem string2_2 (B q : Nat) (l1 : List UInt8) (w : World) (v : Value) (hc : w.cell? ⟨q, 3, none⟩ = some v) (hr : RowB w B v l1) :
    Calls Try.prog 62 #[.pointer (some ⟨q, 2, none⟩)] w fun e w' => e = .returned (.string ⟨l1.toArray⟩) ∧ Below B w w' := by
  cases hl : l1 with
  | nil =>
    obtain rfl : v = .slice none 0 0 := hr.2 hl
    have hUS : ∀ W (p : Option Addr), (Builtin.unsafeString_ #[115, 3] 9 #[.pointer p, .int .i64 0]).run Try.prog W = .ok (.string .empty) W := fun W p => Lib.run_unsafeString_none W _ _ _ p
    have c1 : w.drew.cell? ⟨q, 3, none⟩ = some (.slice none 0 0) := hc
    have hSD : (Builtin.unsafeSliceData_ #[25] 115 #[.slice none 0 0]).run Try.prog w.drew = .ok (.pointer none) w.drew := rfl
    clear hr hl
    go_enter Try.func62, Try.ntmps62
    go_wp2
    go_region
    all_goals (go_wp2; go_ret; exact ⟨rfl, (Below.refl B w).drew⟩)
  | cons x xs =>
    have h0 : l1 ≠ [] := by rw [hl]; simp
    rw [← hl]
    clear hl
    obtain ⟨g, cap, cur, rfl, hbg, hg, hnc, hcm, hcs, htake⟩ : ∃ g cap cur, v = .slice (some ⟨g, 0, none⟩) l1.length cap ∧ B ≤ g ∧ w.heap[g]? = some (.cells cur TU (0, 0)) ∧ l1.length ≤ cap ∧ cap ≤ maxLen ∧ cur.size = cap * 1 ∧ cur.toList.take (l1.length * 1) = Lib.byteCells l1 := by
      rcases hr.1.2 with ⟨_, hz⟩ | ⟨g, cap, cur, hv, r⟩
      · exact absurd (List.length_eq_zero_iff.1 hz) h0
      · exact ⟨g, cap, cur, hv, r⟩
    have hl0 : l1.length ≠ 0 := fun e => h0 (List.length_eq_zero_iff.1 e)
    have c1 : w.drew.cell? ⟨q, 3, none⟩ = some (.slice (some ⟨g, 0, none⟩) l1.length cap) := hc
    have hSD : (Builtin.unsafeSliceData_ #[25] 115 #[.slice (some ⟨g, 0, none⟩) l1.length cap]).run Try.prog w.drew = .ok (.pointer (some ⟨g, 0, none⟩)) w.drew :=
      Lib.run_unsafeSliceData_row _ _ _ _ _ _ (by omega)
    have hUS : (Builtin.unsafeString_ #[115, 3] 9 #[.pointer (some ⟨g, 0, none⟩), .int .i64 l1.length]).run Try.prog w.drew = .ok (.string ⟨l1.toArray⟩) (w.drew.freeze ⟨g, 0, none⟩ l1.length) := by
      refine Lib.run_unsafeString_row w.drew _ _ _ TU Try.underlying115 (by kernel_rfl) g cur.size (by have hg' : w.drew.heap[g]? = some (.cells cur TU (0, 0)) := hg; simp [World.shape?, hg']) l1 h0 (by omega) (by unfold maxLen at hcm; omega) ?_
      intro j x hx
      exact hr.1.cells (g := g) rfl j (.int .u8 x.toNat) (by simp [Lib.byteCells, hx])
    have HB : Hid (Below B w (w.drew.freeze ⟨g, 0, none⟩ l1.length)) := Lib.below_freeze ((Below.refl B w).drew) (p := ⟨g, 0, none⟩) hbg _
    have HO : Hid True := trivial
    clear hr hcs htake hg
    go_enter Try.func62, Try.ntmps62
    go_wp2
    go_region
    all_goals (go_wp2; go_ret; exact ⟨rfl, HB.out⟩)
end Go.Proofs.Ytmhbgpappjfolaa
