/- The lengths of pulses: the program's side. -/
import Derived.Test.YtafecdmcbpnniabDoorRunsP
import Derived.Test.YtafecdmcbpnniabDoorInts
import Derived.Test.YtafecdmcbpnniabDoorEdgeSpec
import Derived.Test.YtafecdmcbpnniabDoorWaveStr
import Derived.Deep.Onto
namespace Go.Proofs.YtafecdmcbpnniabDoor
open Go.RowKit Go.Shelf
set_option linter.unusedVariables false
set_option linter.unusedSimpArgs false
attribute [local go_sem] Oper.semAt_some

/-- the lengths of the parts with the level 1 -/
def plsL (xs : List (Int × Int)) : List Int := (xs.filter (fun x => x.1 == 49)).map (·.2)
theorem plsL_hit (xs : List (Int × Int)) (x : Int × Int) (h : x.1 = 49) : plsL (xs ++ [x]) = plsL xs ++ [x.2] := by simp [plsL, h]
theorem plsL_miss (xs : List (Int × Int)) (x : Int × Int) (h : ¬ x.1 = 49) : plsL (xs ++ [x]) = plsL xs := by simp [plsL, h]
theorem plsL_len (xs : List (Int × Int)) : (plsL xs).length ≤ xs.length := by
  simp only [plsL, List.length_map]; exact List.length_filter_le _ _
theorem runFold_len : ∀ (l : List (Int × Int)) (a : List (Int × Int) × Int × Int), (l.foldl runStep a).1.length ≤ a.1.length + l.length := by
  intro l
  induction l with
  | nil => intro a; simp
  | cons x t ih =>
    intro a
    have h := ih (runStep a x)
    have h2 : (runStep a x).1.length ≤ a.1.length + 1 := by unfold runStep; dsimp only; split <;> simp
    simp only [List.foldl_cons, List.length_cons]; omega
theorem runsL_len (s : ByteArray) : (runsL s).length ≤ s.size + 1 := by
  have h := runFold_len (chgsL s.data.toList s.size) ([], 0, 48)
  have h2 := chgsL_len s.data.toList s.size
  have h3 : (runsF (chgsL s.data.toList s.size)).1.length ≤ s.size := by unfold runsF; simp at h; omega
  unfold runsL
  split <;> simp <;> omega

/-- the variable in block Lb holds the lengths so far, and the wave lies in the next block -/
def PlsI (Lb : Nat) (s : ByteArray) (w1 : World) (pre : List (Int × Int)) (W : World) : Prop :=
  (∃ v, Boxed W Lb 28 v ∧ Ints W (Lb + 8) v (plsL pre)) ∧ W.heap[Lb + 1]? = some (.cells #[.string s] 9 (0, 0)) ∧ Below Lb w1 W
theorem row_at {W : World} {B : Nat} {v : Value} {l : List Int} {r : Nat} (h : Ints W B v l) (e : v.ownBlock = some r) : B ≤ r ∧ ∃ c t p, W.heap[r]? = some (.cells c t p) := by
  rcases h.2 with ⟨rfl, _⟩ | ⟨g, cap, cur, rfl, hg, hgb, _⟩
  · simp [Value.ownBlock] at e
  · obtain rfl : g = r := by simpa [Value.ownBlock] using e
    exact ⟨hg, _, _, _, hgb⟩
theorem PlsI.own (Lb : Nat) (s : ByteArray) (w1 : World) : OwnFromP (Lb + 2) (Lb + 2 + 2) 4 (PlsI Lb s w1) := by
  intro pre W W' row h hg hr
  have hne : ∀ k, k < Lb + 2 → some k ≠ row := fun k hk e => by have := (hr k e.symm).1; omega
  obtain ⟨⟨v, hv, hi⟩, hfix, hb⟩ := h
  refine ⟨⟨v, hv.kept hg (hne _ (by omega)), World.ownsRow.kept hi hg ?_⟩, (hg.block _ (Array.getElem?_eq_some_iff.1 hfix).1 (hne _ (by omega))).trans hfix, ?_⟩
  · cases row with
    | none => cases q : v.ownBlock with
      | none => exact .inl rfl
      | some g => exact .inr (by simp)
    | some r =>
      obtain ⟨-, o, ho, hm⟩ := hr r rfl
      refine .inr (fun e => ?_)
      obtain ⟨h1, c, t, p, h2⟩ := row_at hi e
      rw [h2] at ho; cases ho
      simp only [hisAt, Obj.isCells] at hm
      simp at hm
      omega
  · exact ⟨hg.os.trans hb.os, hg.tape.trans hb.tape, hg.output.trans hb.output, Nat.le_trans hb.size hg.size, fun k hk => (hg.block k (Nat.lt_of_lt_of_le (Nat.lt_of_lt_of_le hk (by have := (Array.getElem?_eq_some_iff.1 hfix).1; omega)) (Nat.le_refl W.heap.size)) (hne k (by omega))).trans (hb.block k hk)⟩
theorem pls_append {Lb : Nat} {s : ByteArray} {w1 W w3 : World} {pre : List (Int × Int)} {x : Int × Int} {v v' : Value} {tmp : Obj} {y : Int}
    (hv : Boxed W Lb 28 v) (hi : Ints W (Lb + 8) v (plsL pre)) (hfix : W.heap[Lb + 1]? = some (.cells #[.string s] 9 (0, 0))) (hb : Below Lb w1 W) (hBW : Lb + 8 ≤ W.heap.size)
    (hown' : w3.ownsRow (Lb + 8) 2 1 v' ((plsL pre).length + 1) ((plsL pre).map (Value.int .i64) ++ [.int .i64 y])) (hgrow : (W.alloc tmp).grownBy w3 v.ownBlock) (hf : plsL (pre ++ [x]) = plsL pre ++ [y]) (a : Act) :
    toldPostP (Lb + 2) 4 (PlsI Lb s w1) (pre ++ [x]) W .normal a (w3.setCell ⟨Lb, 0, none⟩ v') := by
  have hwz : (W.alloc tmp).heap.size = W.heap.size + 1 := by simp
  have hv1 : Boxed w3 Lb 28 v := (hv.alloc tmp).kept hgrow (hv.not_row (by decide) hi)
  have hko : KeepsOthers W (w3.setCell ⟨Lb, 0, none⟩ v') := ((KeepsOthers.alloc W tmp).trans (KeepsOthers.of_grownBy hgrow fun j o ej hj => by
    obtain ⟨h1, c, t, p, h2⟩ := row_at hi ej
    have h3 : (W.alloc tmp).heap[j]? = some _ := (Below.heap_alloc W tmp j (Array.getElem?_eq_some_iff.1 h2).1).trans h2
    rw [h3] at hj; cases hj; rfl)).trans (KeepsOthers.setCell _ _ _)
  have hm1 : KeepsAt (Lb + 2 + 2) 4 (W.alloc tmp) w3 := KeepsAt.of_grownBy hgrow fun j o ej hj => by
    obtain ⟨h1, c, t, p, h2⟩ := row_at hi ej
    have h3 : (W.alloc tmp).heap[j]? = some _ := (Below.heap_alloc W tmp j (Array.getElem?_eq_some_iff.1 h2).1).trans h2
    rw [h3] at hj; cases hj
    simp [hisAt, Obj.isCells]; omega
  have hm2 : KeepsAt (Lb + 2 + 2) 4 w3 (w3.setCell ⟨Lb, 0, none⟩ v') := KeepsAt.of_grownBy (grownBy_setCell' w3 Lb v') fun j o ej hj => by
    cases ej
    rw [show w3.heap[Lb]? = _ from hv1] at hj; cases hj
    simp [hisAt, Obj.isCells]; try omega
  have hown3 : Ints w3 (Lb + 8) v' (plsL (pre ++ [x])) := by rw [hf]; exact Ints.snoc hown'
  have hnb : some (Lb + 1) ≠ v.ownBlock := fun e => by have := (row_at hi e.symm).1; omega
  refine ⟨hko.from _, ((KeepsAt.alloc _ _ _ _).trans hm1).trans hm2, ⟨v', hv1.set v', World.ownsRow.kept hown3 (grownBy_setCell' w3 Lb v') (.inr (hv1.not_row (by decide) hown3).symm)⟩, ?_, ?_⟩
  · exact ((heap_set_other (by omega) _).trans ((hgrow.block _ (by omega) hnb).trans (Below.heap_alloc W tmp _ (by omega)))).trans hfix
  · have h1 : Below Lb w1 (W.alloc tmp) := hb.alloc (by omega) _
    have h2 : Below Lb w1 w3 := h1.grown hgrow (by omega) (fun k e => by have := (row_at hi e).1; omega)
    exact h2.setCell (by simp) _
theorem pls_skip {Lb : Nat} {s : ByteArray} {w1 W : World} {pre : List (Int × Int)} {x : Int × Int} (h : PlsI Lb s w1 pre W) (hf : plsL (pre ++ [x]) = plsL pre) (a : Act) :
    toldPostP (Lb + 2) 4 (PlsI Lb s w1) (pre ++ [x]) W .normal a W := by
  refine ⟨KeepsFrom.refl _ _, KeepsAt.refl _ _ _, ?_⟩
  unfold PlsI at h ⊢
  rw [hf]; exact h

set_option maxRecDepth 100000 in
set_option maxHeartbeats 4000000 in
theorem implPls_in (n : Nat) (hn : 8 ≤ n) (s : ByteArray) (w : World) (hs : s.size ≤ maxLen) (hw : waveB s.data.toList = true) :
    CallsIn Fence.wide n Tryd.prog 14 #[.string s] w fun e W' => ∃ v, e = .returned (.tuple #[v, .bool true]) ∧ Ints W' w.heap.size v (plsL (runsL s)) ∧ Below w.heap.size w W' := by
  have h1 : 1 ≤ n := by omega
  have hz : s.size ≤ 400 := by
    unfold waveB at hw; simp only [Bool.and_eq_true, decide_eq_true_eq, size_toList] at hw; omega
  have hall : s.data.toList.all lvlB = true := by
    unfold waveB at hw; simp only [Bool.and_eq_true] at hw; exact hw.1
  have HALL := Lib.hid hall
  have HC := Lib.hid (fun w => implIsWave s w hs)
  rw [hw] at HC
  obtain ⟨i0, hi, hz0, hz1, hz2⟩ := info_parts info_i64
  clear hw hall
  refine callsIn_of_wp_marks Tryd.func14 rfl trivial ?_ rfl
  simp only [Tryd.ntmps14, List.size_toArray, List.length_cons, List.length_nil, Nat.reduceAdd, Nat.reduceSub, Array.replicate_succ, Array.replicate_zero, List.push_toArray, List.append_toArray, List.nil_append, List.cons_append]
  gi_wp2_with fail
  refine ⟨trivial, ?_⟩
  refine (callsIn_wide (n := n - 1).2 (HC.out _)).mono ?_
  rintro e w1 ⟨rfl, b1⟩
  have hb1 := b1
  have HKK : Hid (w.heap.size ≤ w1.heap.size) := b1.size
  have bO := Boxed.new w1 28 (.slice none 0 0)
  clear b1
  gi_wp2_with fail
  refine ⟨trivial, ?_⟩
  refine (runsOf_told (n - 1) s _).mono ?_
  rintro e w2 ⟨rfl, rfl⟩
  gi_wp2_with fail
  have bO2 := bO.alloc (.cells #[.string s] 9)
  have e1 := heap_alloc_last (w1.alloc (.cells #[.slice none 0 0] 28)) (.cells #[.string s] 9)
  rw [World.size_alloc] at e1
  have hb3 : Below w1.heap.size w1 ((w1.alloc (.cells #[.slice none 0 0] 28)).alloc (.cells #[.string s] 9)) := ((Below.refl _ w1).alloc (Nat.le_refl _) _).alloc (by simp) _
  obtain ⟨W4, hW4⟩ : ∃ W4, (w1.alloc (.cells #[.slice none 0 0] 28)).alloc (.cells #[.string s] 9) = W4 := ⟨_, rfl⟩
  have hs4 : W4.heap.size = w1.heap.size + 2 := by rw [← hW4]; simp
  rw [hW4] at bO2 e1 hb3
  try rw [World.size_alloc]
  rw [hW4]
  have hI0 : PlsI w1.heap.size s w1 [] W4 := ⟨⟨_, bO2, Ints.nil _ _⟩, e1, hb3⟩
  have HI0 := Lib.hid hI0
  have HB1 := Lib.hid hb1
  have HE1 := Lib.hid e1
  have hOwn := PlsI.own w1.heap.size s w1
  rw [← hs4] at hOwn
  have HOwn := Lib.hid hOwn
  clear hW4 bO bO2 hb1 hb3 hI0 e1 hOwn
  refine loop_toldP (K := 4) (Z := fun V => V.heap[w1.heap.size + 1]? = some (.cells #[.string s] 9 (0, 0))) rfl h1 (gf := 49) (lb := #[.pointer (some ⟨w1.heap.size + 1, 0, none⟩)]) rfl trivial (enters_of Tryd.func49 (by kernel_rfl) rfl) (runsL s)
    (runs_told (n - 1) (by omega) (w1.heap.size + 1) s HALL.out (by omega) W4 (by omega) HE1.out) (fun _ => rfl) (PlsI w1.heap.size s w1) HOwn.out (fun pre W h => h.2.1) HI0.out
    (fun x => { tmps := #[.string s, undef, .slice none 0 0, .bool false, .pointer (some ⟨w1.heap.size, 0, none⟩), .int .i32 x.1, .int .i64 x.2, .string s, .bool true, .bool false, .string s, .func (.func 49) #[] #[.pointer (some ⟨w1.heap.size + 1, 0, none⟩)], .int .i32 x.1, .int .i64 x.2, undef, undef, undef, undef, undef, undef, undef], defers := [] }) ?assign ?body ?done
  case assign =>
    intro l x W K hK
    gi_wp2
    exact hK
  case body =>
    rintro l pre ⟨a, c⟩ post W hpx hsW hIW
    have hlen : (plsL pre).length ≤ 401 := by
      have e := congrArg List.length hpx
      simp only [List.length_append, List.length_cons] at e
      have := runsL_len s
      have := plsL_len pre
      omega
    have HIW := Lib.hid hIW
    obtain ⟨⟨v, hv, hrow⟩, hfix, hB⟩ := hIW
    have HV := Lib.hid hv
    have HF := Lib.hid hfix
    have HB := Lib.hid hB
    have hc := hv.cell
    have hf := hv.frozen
    rw [hs4] at hsW ⊢
    clear hpx hfix hB
    by_cases ha : a = 49
    · have HS := Lib.hid (plsL_hit pre (a, c) ha)
      subst ha
      gi_wp2_with (gi_at_builtin; refine wpListIn_append_own _ rfl _ _ 28 rfl (w1.heap.size + 8) 2 i0 (.int .i64 0) 1 8 Tryd.underlying28 hi hz0 hz1 hz2 rfl (by decide) _ _ _ rfl (hrow.alloc _) ⟨W.heap.size, 0, none⟩ 1 1 [.int .i64 c] rfl rfl (cell_one_new _ _ _) (by simp [Value.oneCell']) (by unfold maxLen; omega) (by omega) (by simp; omega) ?_; intro v' w3 hown' hgrow _; obtain ⟨g', cap', rfl⟩ := ownsRow_succ hown'; have hv1 := (hv.alloc (.cells #[.int .i64 c] 2)).kept hgrow (hv.not_row (by decide) hrow); have hc1 := hv1.cell; have hf1 := hv1.frozen; have HOW := Lib.hid hown'; have HGR := Lib.hid hgrow)

      exact pls_append HV.out hrow HF.out HB.out (by omega) (by simpa using HOW.out) HGR.out HS.out _
    · have HS := Lib.hid (plsL_miss pre (a, c) ha)
      have e1 : (a == 49) = false := by simp [ha]
      gi_wp2
      exact pls_skip HIW.out HS.out _
  case done =>
    rintro D W hD ⟨⟨v, hv, hrow⟩, hfix, hB⟩ hK
    have hc := hv.cell
    gi_wp2
    refine ⟨by simp, .inl ⟨_, _, rfl, run_takeDeferred hK, ?_⟩⟩
    have hsz := HKK.out
    have hb2 : Below w.heap.size w (W.putObj D (.deferred none)) := by
      have h5 := HB1.out.trans (hB.mono hsz)
      exact ⟨h5.os, h5.tape, h5.output, by have := h5.size; simpa using this, fun k hk => (World.putObj_heap_other (by omega)).trans (h5.block k hk)⟩
    exact ⟨.tuple #[v, .bool true], by simp [results, Tryd.f14, go_sem], v, rfl, (ownsRow_putObj hrow _ hK rfl).mono (by omega), hb2⟩
end Go.Proofs.YtafecdmcbpnniabDoor
