/- What a send and a receive keep. -/
import Derived.Test.YtkfakoodejpjmaaChanW
import Derived.Test.YtkfakoodejpjmaaBuilder
import Derived.Test.YtkfakoodejpjmaaCkLaw
import Derived.Test.YtkfakoodejpjmaaWvM
namespace Go.Proofs.Ytkfakoodejpjmaa
open Go.RowKit Go.Conc
set_option linter.unusedVariables false
theorem sc_heap (w : World) (c cap : Nat) (q : Array Value) (d : Bool) (s r : Nat) (tm : Bool) (h : c < w.heap.size) : (w.setChan c cap q d s r tm).heap[c]? = some (.chan cap q d s r tm) := by
  simp [World.setChan, h]
theorem sc_other (w : World) (c j cap : Nat) (q : Array Value) (d : Bool) (s r : Nat) (tm : Bool) (h : j ≠ c) : (w.setChan c cap q d s r tm).heap[j]? = w.heap[j]? := by
  simp [World.setChan, Array.getElem?_setIfInBounds_ne (Ne.symm h)]
theorem sc_size (w : World) (c cap : Nat) (q : Array Value) (d : Bool) (s r : Nat) (tm : Bool) : (w.setChan c cap q d s r tm).heap.size = w.heap.size := by simp [World.setChan]
theorem bel_sc {B : Nat} {a w : World} (h : Below B a w) (c cap : Nat) (hk : B ≤ c) (q : Array Value) (d : Bool) (s r : Nat) (tm : Bool) : Below B a (w.setChan c cap q d s r tm) :=
  h.trans ⟨rfl, rfl, rfl, by rw [sc_size]; exact Nat.le_refl _, fun i hi => sc_other w c i cap q d s r tm (by omega)⟩
theorem bldAt_sc {T e : TypeId} {B b : Nat} {p : Value} {bs : List Value} {w : World} (h : Lib.BuilderAtF T e B b p bs w) {c cap : Nat} {q0 q : Array Value} {d d' : Bool} {s r s' r' : Nat} {tm tm' : Bool} (hc : w.heap[c]? = some (.chan cap q0 d s r tm)) :
    Lib.BuilderAtF T e B b p bs (w.setChan c cap q d' s' r' tm') := by
  obtain ⟨hB, v, hb, hown, hne⟩ := h
  have n1 : b ≠ c := by rintro rfl; rw [hc] at hb; cases hb
  refine ⟨hB, v, (sc_other w c b cap q d' s' r' tm' n1).trans hb, ⟨hown.1, ?_⟩, hne⟩
  rcases hown.2 with hn | ⟨g, n, cur, fz, hv, hbg, hg, rest⟩
  · exact .inl hn
  · have n2 : g ≠ c := by rintro rfl; rw [hc] at hg; cases hg
    exact .inr ⟨g, n, cur, fz, hv, hbg, (sc_other w c g cap q d' s' r' tm' n2).trans hg, rest⟩
theorem bld_sc {T e : TypeId} {B b : Nat} {bs : List Value} {w : World} (h : Lib.IsBuilderF T e B b bs w) {c cap : Nat} {q0 : Array Value} (q : Array Value) {d : Bool} (d' : Bool) {s r : Nat} (s' r' : Nat) {tm : Bool} (tm' : Bool) (hc : w.heap[c]? = some (.chan cap q0 d s r tm)) :
    Lib.IsBuilderF T e B b bs (w.setChan c cap q d' s' r' tm') :=
  h.elim (fun x => .inl (bldAt_sc x hc)) (fun x => .inr (bldAt_sc x hc))
theorem bldAt_call {T e : TypeId} {B b : Nat} {p : Value} {bs : List Value} {w w' : World} (h : Lib.BuilderAtF T e B b p bs w) (hw : Below w.heap.size w w') : Lib.BuilderAtF T e B b p bs w' := by
  obtain ⟨hB, v, hb, hown, hne⟩ := h
  have kept : ∀ (j : Nat) (o : Obj), w.heap[j]? = some o → w'.heap[j]? = some o := fun j o hj => (hw.block j (Array.getElem?_eq_some_iff.1 hj).1).trans hj
  refine ⟨hB, v, kept _ _ hb, ⟨hown.1, ?_⟩, hne⟩
  rcases hown.2 with hn | ⟨g, n, cur, fz, hv, hbg, hg, rest⟩
  · exact .inl hn
  · exact .inr ⟨g, n, cur, fz, hv, hbg, kept _ _ hg, rest⟩
theorem bld_call {T e : TypeId} {B b : Nat} {bs : List Value} {w w' : World} (h : Lib.IsBuilderF T e B b bs w) (hw : Below w.heap.size w w') : Lib.IsBuilderF T e B b bs w' :=
  h.elim (fun x => .inl (bldAt_call x hw)) (fun x => .inr (bldAt_call x hw))
theorem ck_sc {w : World} {g : Nat} {p o : Int} (h : CkAt w g p o) (c cap : Nat) (hg : g < c) (q : Array Value) (d : Bool) (s r : Nat) (tm : Bool) : CkAt (w.setChan c cap q d s r tm) g p o := by
  have hb : Below c w (w.setChan c cap q d s r tm) := bel_sc (Below.refl _ _) c cap (Nat.le_refl _) q d s r tm
  exact ⟨Nat.lt_of_lt_of_le h.1 hb.size, (hb.cell (p := ⟨g, 0, none⟩) hg).trans h.2.1, (hb.cell (p := ⟨g, 1, none⟩) hg).trans h.2.2⟩
theorem oth_chan {e : TypeId} {b : Nat} {w w' : World} (h : Lib.OthersKept e (some b) w w') {c cap s r : Nat} {q : Array Value} {d tm : Bool} (hc : w.heap[c]? = some (.chan cap q d s r tm)) (hb : c ≠ b) : w'.heap[c]? = some (.chan cap q d s r tm) :=
  h c _ hc (fun e1 => hb (Option.some.inj e1)) (fun _ _ e1 => by cases e1)
theorem calls_args {P : Program} {f : FuncId} {args args' : Array Value} {w : World} {R : Ending → World → Prop} (h : args' = args) (hc : Calls P f args w R) : Calls P f args' w R := h ▸ hc
theorem ops12 {P : Program} {o0 o1 o2 : Oper} {Q : Exit → Act → World → Prop} {a a' : Act} {w : World} (h : a = a') (hw : wpList P #[o0, o1, o2] Q [o1, o2] a' w) : wpOps P #[o0, o1, o2] Q [1, 2] a w := by
  subst h
  have e : wpOps P #[o0, o1, o2] Q (List.range' 1 [o1, o2].length) = wpList P #[o0, o1, o2] Q [o1, o2] := wpOps_eq_wpList [o1, o2] 1 (by
    intro j
    match j with
    | 0 => rfl
    | 1 => rfl
    | n + 2 => simp; omega)
  have e2 : wpOps P #[o0, o1, o2] Q [1, 2] = wpList P #[o0, o1, o2] Q [o1, o2] := e
  rw [e2]; exact hw
theorem ck_bel {w w' : World} {g B : Nat} {p o : Int} (h : CkAt w g p o) (hb : Below B w w') (hg : g < B) : CkAt w' g p o :=
  ⟨Nat.lt_of_lt_of_le h.1 hb.size, (hb.cell (p := ⟨g, 0, none⟩) hg).trans h.2.1, (hb.cell (p := ⟨g, 1, none⟩) hg).trans h.2.2⟩
theorem bel_le {B B' : Nat} {a b : World} (h : Below B a b) (hle : B' ≤ B) : Below B' a b := ⟨h.os, h.tape, h.output, h.size, fun k hk => h.block k (by omega)⟩
theorem cells_one (p o : Int) (high t : Nat) (b : UInt8) (h : bitW p o high t = b) : Lib.byteCells (outW p o high (t + 1)) = Lib.byteCells (outW p o high t) ++ [.int .u8 (b.toNat : Int)] := by
  rw [outW_succ, h]; simp [Lib.byteCells]
theorem cells_len (p o : Int) (high t : Nat) : (Lib.byteCells (outW p o high t)).length = t := by simp [Lib.byteCells, outW]
theorem levelOfW (b : Bool) (w : World) :
    Calls Try.prog 46 #[.bool b] w fun e w' => e = .returned (.int .i32 (if b then 49 else 48)) ∧ w' = w := by
  go_enter Try.func46, Try.ntmps46
  cases b
  · go_wp2
    go_ret
    exact ⟨rfl, rfl⟩
  · go_wp2
    go_ret
    exact ⟨rfl, rfl⟩
end Go.Proofs.Ytkfakoodejpjmaa
