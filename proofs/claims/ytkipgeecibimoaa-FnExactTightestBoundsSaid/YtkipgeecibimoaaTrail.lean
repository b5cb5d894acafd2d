/- Trails and their map: one is lengthened, asked for, and put in if it is shorter. -/
import Derived.Test.YtkipgeecibimoaaTM
import Derived.Test.YtkipgeecibimoaaPair
import Derived.IntWalk
namespace Go.Proofs.Ytkipgeecibimoaa
open Go.RowKit
set_option linter.unusedVariables false

theorem wfI {n : Int} (h1 : -9223372036854775808 ≤ n) (h2 : n ≤ 9223372036854775807) : (Lit.int .i64 n).wf = true := by
  have e1 : IntKind.i64.min = -9223372036854775808 := rfl
  have e2 : IntKind.i64.max = 9223372036854775807 := rfl
  simp [Lit.wf, e1, e2]; omega
theorem grown_below {w w1 : World} {b : Nat} (h : Below w.heap.size w w1) : w.grownBy w1 (some b) := ⟨h.os, h.tape, h.output, h.size, fun k hk _ => h.block k hk⟩
theorem grown_trans {w w1 w2 : World} {b : Nat} (h1 : w.grownBy w1 (some b)) (h2 : w1.grownBy w2 (some b)) : w.grownBy w2 (some b) :=
  ⟨h2.os.trans h1.os, h2.tape.trans h1.tape, h2.output.trans h1.output, Nat.le_trans h1.size h2.size, fun k hk hne => (h2.block k (Nat.lt_of_lt_of_le hk h1.size) hne).trans (h1.block k hk hne)⟩
theorem below_of_grown {w w1 : World} {b B : Nat} (h : w.grownBy w1 (some b)) (hb : B ≤ b) (hB : B ≤ w.heap.size) : Below B w w1 :=
  ⟨h.os, h.tape, h.output, h.size, fun k hk => h.block k (by omega) (fun e => by injection e with e; omega)⟩
set_option maxRecDepth 100000 in
theorem over_any (c : Int) (s f t m : Int) (w : World) (h1 : 0 ≤ c) (h2 : c ≤ 1000000) (h3 : -1000000000000 ≤ s) (h4 : s ≤ 1000000000000) (h5 : -1000000000 ≤ m) (h6 : m ≤ 1000000000) :
    Calls Try.prog 204 #[.agg #[.int .i64 c, .int .i64 s], .agg #[.int .i64 f, .int .i64 t, .int .i64 m]] w fun e w' => e = .returned (.agg #[.int .i64 (c + 1), .int .i64 (s + m)]) ∧ Below w.heap.size w w' := by
  have w1 : IntKind.i64.wrap (c + 1) = c + 1 := IntWalk.i64_in _ (by omega)
  have w2 : IntKind.i64.wrap (s + m) = s + m := IntWalk.i64_in _ (by omega)
  have e1 : -9223372036854775808 ≤ s + m := by omega
  have e2 : s + m ≤ 9223372036854775807 := by omega
  go_enter Try.func204, Try.ntmps204
  go_wp2
  refine bodyPost_ret (v := .agg #[.int .i64 (c + 1), .int .i64 (s + m)]) (by simp [results, Try.results204, go_sem]) rfl ⟨rfl, ?_⟩
  repeat' (first | exact Below.refl _ _ | (refine Below.setCell ?_ ?_ _) | (refine Below.alloc ?_ ?_ _))
  all_goals (first | (simp; done) | (simp; omega))

set_option maxRecDepth 100000 in
theorem most_any (b n : Nat) (D : Nat → Trails) (i v : Int) (w : World) (h : TM w b n D) (wi : (Lit.int .i64 i).wf = true) (wv : (Lit.int .i64 v).wf = true) :
    Calls Try.prog 103 #[.map (some b), .int .i64 i, .int .i64 v] w fun e w' => e = .returned (.tuple #[.int .i64 ((GI D i v).getD (0, 0)).2, .bool (GI D i v).isSome]) ∧ Below w.heap.size w w' := by
  have hl := h.lookOk i v wi wv
  obtain ⟨c, s, hcs⟩ : ∃ c s, (GI D i v).getD (0, 0) = (c, s) := ⟨_, _, rfl⟩
  obtain ⟨o, ho⟩ : ∃ o, (GI D i v).isSome = o := ⟨_, rfl⟩
  rw [hcs, ho] at hl ⊢
  dsimp only at hl ⊢
  clear h hcs ho
  go_enter Try.func103, Try.ntmps103
  go_wp2
  go_ret2
  exact ⟨rfl, (Below.refl _ _).alloc (Nat.le_refl _) _⟩
set_option maxRecDepth 100000 in
theorem shorten_no (b n : Nat) (D : Nat → Trails) (i v c : Nat) (s : Int) (w : World) (h : TM w b n D) (wi : (Lit.int .i64 (i : Int)).wf = true) (wv : (Lit.int .i64 (v : Int)).wf = true) (c0 : Nat) (y : Int) (hk : D i v = some (c0, y)) (hy : y ≤ s) :
    Calls Try.prog 205 #[.map (some b), .agg #[.int .i64 (i : Int), .int .i64 (v : Int)], .agg #[.int .i64 (c : Int), .int .i64 s]] w fun e w' => e = .returned (.bool false) ∧ Below w.heap.size w w' := by
  have hb : Below w.heap.size w ((w.alloc (.cells #[.int .i64 (i : Int), .int .i64 (v : Int)] 222)).alloc (.cells #[.int .i64 (c : Int), .int .i64 s] 219)) := ((Below.refl _ w).alloc (Nat.le_refl _) _).alloc (by simp) _
  have hl := (h.below hb h.lt).lookOk (i : Int) (v : Int) wi wv
  rw [GI_nat, hk] at hl
  dsimp only [Option.map_some, Option.getD_some, Option.isSome_some] at hl
  have hd : decide (y ≤ s) = true := decide_eq_true hy
  have HB := Lib.hid hb
  clear h hk hb
  go_enter Try.func205, Try.ntmps205
  go_wp2
  go_ret
  exact ⟨rfl, HB.out.alloc (by simp; omega) _⟩
set_option maxRecDepth 100000 in
theorem shorten_yes (b n : Nat) (D : Nat → Trails) (i v c : Nat) (s : Int) (w : World) (h : TM w b n D) (wi : (Lit.int .i64 (i : Int)).wf = true) (wv : (Lit.int .i64 (v : Int)).wf = true) (hs : Short (D i) v s) (hn : n < maxLen) :
    Calls Try.prog 205 #[.map (some b), .agg #[.int .i64 (i : Int), .int .i64 (v : Int)], .agg #[.int .i64 (c : Int), .int .i64 s]] w fun e w' => e = .returned (.bool true) ∧ TM w' b (n + 1) (updT D i v (c, s)) ∧ w.grownBy w' (some b) := by
  have hb : Below w.heap.size w ((w.alloc (.cells #[.int .i64 (i : Int), .int .i64 (v : Int)] 222)).alloc (.cells #[.int .i64 (c : Int), .int .i64 s] 219)) := ((Below.refl _ w).alloc (Nat.le_refl _) _).alloc (by simp) _
  have hl := (h.below hb h.lt).lookOk (i : Int) (v : Int) wi wv
  rw [GI_nat] at hl
  cases hk : D i v with
  | none =>
    rw [hk] at hl
    dsimp only [Option.map_none, Option.getD_none, Option.isSome_none] at hl
    have hb2 := hb.alloc (by simp; omega) (.cells #[.int .i64 0, .int .i64 0] 219)
    obtain ⟨w', hu, ht, hg⟩ := (h.below hb2 h.lt).put i v c s wi wv hn
    have HT := Lib.hid ht
    have HG := Lib.hid (grown_trans (grown_below hb2) hg)
    clear h hb hb2 ht hg hs
    go_enter Try.func205, Try.ntmps205
    go_wp2
    go_ret
    exact ⟨rfl, HT.out, HG.out⟩
  | some x =>
    obtain ⟨c0, y⟩ := x
    rw [hk] at hl
    dsimp only [Option.map_some, Option.getD_some, Option.isSome_some] at hl
    have hd : decide (y ≤ s) = false := decide_eq_false (by have := hs c0 y hk; omega)
    have hb2 := hb.alloc (by simp; omega) (.cells #[.int .i64 (c0 : Int), .int .i64 y] 219)
    obtain ⟨w', hu, ht, hg⟩ := (h.below hb2 h.lt).put i v c s wi wv hn
    have HT := Lib.hid ht
    have HG := Lib.hid (grown_trans (grown_below hb2) hg)
    clear h hb hb2 ht hg hs hk
    go_enter Try.func205, Try.ntmps205
    go_wp2
    go_ret
    exact ⟨rfl, HT.out, HG.out⟩
end Go.Proofs.Ytkipgeecibimoaa
