/- A loop over an iterator that is known to yield one given list, where the iterator runs loops over iterators itself: its objects are all that is no cells, and the cells that it lays before its first round. -/
import Derived.RangeFuncBox
import Derived.RangeFuncLeaves
import Derived.RangeFuncNested
namespace Go.Proofs.YtemjohkieehojaaDoor
open Go.RowKit

/-- what is the iterator's: all that is no cells, and K blocks from C on -/
def hisAt (C K r : Nat) (o : Obj) : Bool := !o.isCells || (decide (C ≤ r) && decide (r < C + K))
theorem hisAt_nc (C K r : Nat) {o : Obj} (h : o.isCells = false) : hisAt C K r o = true := by simp [hisAt, h]
theorem hisAt_in {C K r : Nat} (o : Obj) (h : C ≤ r) (h2 : r < C + K) : hisAt C K r o = true := by simp [hisAt, h, h2]
structure KeepsAt (C K : Nat) (W W' : World) : Prop where
  size : W.heap.size ≤ W'.heap.size
  same : ∀ (k : Nat) (o : Obj), W.heap[k]? = some o → hisAt C K k o = true → W'.heap[k]? = some o
theorem KeepsAt.refl (C K : Nat) (W : World) : KeepsAt C K W W := ⟨Nat.le_refl _, fun _ _ h _ => h⟩
theorem KeepsAt.trans {C K : Nat} {X Y Z : World} (h : KeepsAt C K X Y) (k : KeepsAt C K Y Z) : KeepsAt C K X Z :=
  ⟨Nat.le_trans h.size k.size, fun i o hi ho => k.same i o (h.same i o hi ho) ho⟩
theorem KeepsAt.alloc (C K : Nat) (W : World) (o : Obj) : KeepsAt C K W (W.alloc o) :=
  ⟨by simp, fun k o' hk _ => (Below.heap_alloc W o k (Array.getElem?_eq_some_iff.1 hk).1).trans hk⟩
theorem KeepsAt.of_grownBy {C K : Nat} {W W' : World} {row : Option Nat} (hg : W.grownBy W' row) (hrow : ∀ (j : Nat) (o : Obj), row = some j → W.heap[j]? = some o → hisAt C K j o = false) : KeepsAt C K W W' :=
  ⟨hg.size, fun k o hk ho => by
    refine (hg.block k (Array.getElem?_eq_some_iff.1 hk).1 ?_).trans hk
    intro e
    rw [hrow k o e.symm hk] at ho; cases ho⟩
theorem KeepsAt.walks {C K : Nat} {W W' : World} (h : KeepsAt C K W W') : KeepsWalks W W' := ⟨h.size, fun k o hk ho => h.same k o hk (hisAt_nc _ _ _ (Obj.not_cells_of_walk ho))⟩
theorem KeepsAt.from {C K : Nat} {W W' : World} (h : KeepsAt C K W W') (B : Nat) : KeepsFrom B W W' :=
  ⟨h.size, fun k o _ hk ho => h.same k o hk (hisAt_nc _ _ _ ho)⟩
/-- what a caller's invariant abides: steps that turn what is the iterator's -/
def OwnFromP {β : Type} (B C K : Nat) (I : β → World → Prop) : Prop :=
  ∀ s W W' row, I s W → W.grownBy W' row → (∀ r, row = some r → B ≤ r ∧ ∃ o : Obj, W.heap[r]? = some o ∧ hisAt C K r o = true) → I s W'
theorem OwnFromP.putObj {β : Type} {B C K : Nat} {I : β → World → Prop} (h : OwnFromP B C K I) {s : β} {W : World} {l : Nat} {o : Obj} (o' : Obj) (hs : I s W) (hB : B ≤ l) (hl : W.heap[l]? = some o) (ho : hisAt C K l o = true) : I s (W.putObj l o') :=
  h s W _ (some l) hs (grownBy_putObj' W l o') (fun r e => by cases e; exact ⟨hB, o, hl, ho⟩)
theorem OwnFromP.alloc {β : Type} {B C K : Nat} {I : β → World → Prop} (h : OwnFromP B C K I) {s : β} {W : World} (o : Obj) (hs : I s W) : I s (W.alloc o) :=
  h s W _ none hs (World.grownBy_alloc W o none) (fun r e => by cases e)
theorem KeepsAt.round {C K : Nat} {W W3 : World} {l : Nat} {o o1 : Obj} (hl : W.heap[l]? = some o) (hk : KeepsAt C K (W.putObj l o1) W3) : KeepsAt C K W (W3.putObj l o) :=
  ⟨by have := hk.size; simp at this; simpa using this, fun k o' hk' ho' => by
    have hlt : l < W.heap.size := (Array.getElem?_eq_some_iff.1 hl).1
    have h3 := hk.size
    simp at h3
    by_cases e : k = l
    · subst e; rw [hl] at hk'; cases hk'; exact World.putObj_heap_same (by omega)
    · exact (World.putObj_heap_other e).trans (hk.same k o' ((World.putObj_heap_other e).trans hk') ho')⟩
/-- a round's end, where the body is always left at its end -/
def toldPostP {α : Type} (B K : Nat) (I : List α → World → Prop) (pre : List α) (W : World) : Exit → Act → World → Prop :=
  ownPostG B (KeepsAt (B + 2) K) I (fun _ _ _ => False) pre W
/-- the iterator's word: xs, one after another -/
def TellsP {α : Type} (K : Nat) (Z : World → Prop) (F : Fence) (n : Nat) (P : Program) (g : Nat) (lb : Array Value) (encs : α → Array Value) (xs : List α) (w : World) : Prop :=
  ∀ (l : Nat) (J : List α → World → Prop) (W : World), Below w.heap.size w W → OwnFromP W.heap.size W.heap.size K J → (∀ pre W1, J pre W1 → Z W1) →
    (∀ pre x post W1, pre ++ x :: post = xs → W.heap.size + K ≤ W1.heap.size → J pre W1 → YieldAt F (n - 1) P l (encs x) W1 fun e W' => e = .returned (.bool true) ∧ J (pre ++ [x]) W' ∧ KeepsAt W.heap.size K W1 W') →
    J [] W → CallsIn F n P g (#[.func (.yield l) #[] #[]] ++ lb) W fun e W' => (∃ v, e = .returned v) ∧ J xs W'
theorem loop_toldP {α : Type} {K : Nat} {Z : World → Prop} {F : Fence} {n : Nat} {P : Program} {g : Operand} {ps : Array Tmp} {assign body : Code} {Q : Exit → Act → World → Prop} {a : Act} {w : World}
    (hro : F.round = none) (h1 : 1 ≤ n) {gf : Nat} {lb : Array Value} (hg : a.eval g = .func (.func gf) #[] lb) (hFg : F.fn gf) (eg : ∀ args w, (callFunc gf args).run P w = .ok (.enter gf args) w)
    {encs : α → Array Value} (xs : List α) (hseq : TellsP K Z F (n - 1) P gf lb encs xs w) (hps : ∀ x, (encs x).size = ps.size)
    (I : List α → World → Prop) (hI : OwnFromP w.heap.size (w.heap.size + 2) K I) (hIZ : ∀ pre W1, I pre W1 → Z W1) (h0 : I [] w) (a₁ : α → Act)
    (hassign : ∀ (l : Nat) (x : α) (W : World) (K : Act → World → Prop), K (a₁ x) W →
      assign.wpIn (F.inRound l) (n - 1 - 1) P (Exit.then K (fun _ _ _ => False)) { tmps := (ps.zip (encs x)).foldl (fun t (p, v) => t.setIfInBounds p v) a.tmps, defers := [] } W)
    (hbody : ∀ (l : Nat) (pre : List α) (x : α) (post : List α) (W : World), pre ++ x :: post = xs → w.heap.size + 2 + K ≤ W.heap.size → I pre W → body.wpIn (F.inRound l) (n - 1 - 1) P (toldPostP w.heap.size K I (pre ++ [x]) W) (a₁ x) W)
    (hdone : ∀ (D : Nat) (W : World), w.heap.size ≤ D → I xs W → W.heap[D]? = some (.deferred (some [])) → Q .normal { a with defers := { target := .collected D, args := #[] } :: a.defers } W) :
    (Code.rangeFunc g ps assign body).wpIn F n P Q a w := by
  refine wpIn_rangeFunc (fun fn hfn => ?_)
  rw [hro]
  have hent := run_enterLoop_outer (P := P) (w := w) fn a.tmps ps assign body
  generalize hR : (fun st : LoopState => ({ state := st, pending := none, fn := fn, tmps := a.tmps, params := ps, assign := assign, body := body, defers := w.heap.size } : Loop)) = R at hent
  have hent' : (Instr.enterLoop fn a.tmps ps assign body none).run P w = .ok (w.heap.size + 1, [{ target := .collected w.heap.size, args := #[] }]) ((w.alloc (.deferred (some []))).alloc (.loop (R .ready))) := by rw [hent, ← hR]
  have hst : ∀ st, (R st).state = st := fun st => by rw [← hR]
  have hpe : ∀ st, (R st).pending = none := fun st => by rw [← hR]
  have hw : ∀ st st', { R st with state := st' } = R st' := fun st st' => by rw [← hR]
  have hpar : ∀ st, (R st).params = ps := fun st => by rw [← hR]
  have hfnR : ∀ st, (R st).fn = fn := fun st => by rw [← hR]
  have htm : ∀ st, (R st).tmps = a.tmps := fun st => by rw [← hR]
  have hasg : ∀ st, (R st).assign = assign := fun st => by rw [← hR]
  have hbod : ∀ st, (R st).body = body := fun st => by rw [← hR]
  clear hR hent
  obtain ⟨V, hV⟩ : ∃ V, (w.alloc (.deferred (some []))).alloc (.loop (R .ready)) = V := ⟨_, rfl⟩
  rw [hV] at hent'
  have hVl : V.heap[w.heap.size + 1]? = some (.loop (R .ready)) := by
    rw [← hV, ← World.size_alloc w (.deferred (some []))]; exact World.alloc_heap_new _ _
  have hVd : V.heap[w.heap.size]? = some (.deferred (some [])) := by
    rw [← hV]; exact (Below.heap_alloc _ _ _ (by simp)).trans (World.alloc_heap_new w _)
  have hVI : I [] V := by rw [← hV]; exact hI.alloc _ (hI.alloc _ h0)
  have hVb : Below w.heap.size w V := by
    rw [← hV]; exact ((Below.refl _ w).alloc (Nat.le_refl _) _).alloc (by simp) _
  have hVs : V.heap.size = w.heap.size + 2 := by rw [← hV]; simp
  refine ⟨w.heap.size + 1, _, V, { target := .fn (.func gf) lb, args := #[.func (.yield (w.heap.size + 1)) #[] #[]] }, V, gf, #[.func (.yield (w.heap.size + 1)) #[] #[]] ++ lb, V, hent', ?_, ?_, ?_, fun _ => h1, ?_⟩
  · simp only [resolve, hg]; simp [go_sem]
  · intro f' hf'; simp [Target.leads] at hf'; subst hf'; exact hFg
  · simp [invoke, go_sem, eg]
  -- the caller's invariant beside the loop's own two blocks
  refine (hseq (w.heap.size + 1) (fun pre W => I pre W ∧ W.heap[w.heap.size + 1]? = some (.loop (R .ready)) ∧ W.heap[w.heap.size]? = some (.deferred (some []))) V hVb ?_ (fun pre W1 h => hIZ pre W1 h.1) ?_ ⟨hVI, hVl, hVd⟩).mono ?_
  · intro pre A B row hA hgr hrow
    have hne : ∀ k, k < V.heap.size → some k ≠ row := fun k hk e => by have := (hrow k e.symm).1; omega
    have hA2 : w.heap.size + 1 < A.heap.size := (Array.getElem?_eq_some_iff.1 hA.2.1).1
    exact ⟨hI pre A B row hA.1 hgr (fun r e => ⟨by have := (hrow r e).1; omega, by rw [← hVs]; exact (hrow r e).2⟩), (hgr.block _ hA2 (hne _ (by omega))).trans hA.2.1, (hgr.block _ (by omega) (hne _ (by omega))).trans hA.2.2⟩
  · intro pre x post W he hsK hJ
    obtain ⟨hi, hl, hd⟩ := hJ
    rw [hVs] at hsK ⊢
    have hy := run_yield (P := P) (args := encs x) hl (by rw [hpar]; exact hps x)
    rw [hfnR, hpar, htm, hasg, hbod] at hy
    refine ⟨fn, _, assign, body, hy, roundIn_of_wpIn hfn (hassign _ x W _ ⟨_, run_beginRound hl (hst _), ?_⟩)⟩
    rw [hw]
    have hlt : w.heap.size + 1 < W.heap.size := (Array.getElem?_eq_some_iff.1 hl).1
    have hlb : (W.putObj (w.heap.size + 1) (.loop (R .busy))).heap[w.heap.size + 1]? = some (.loop (R .busy)) := World.putObj_heap_same hlt
    have hdb : (W.putObj (w.heap.size + 1) (.loop (R .busy))).heap[w.heap.size]? = some (.deferred (some [])) := (World.putObj_heap_other (by omega)).trans hd
    refine wpIn_mono (hbody (w.heap.size + 1) pre x post _ he (by simpa using hsK) (hI.putObj _ hi (by omega) hl rfl)) ?_
    intro e a3 W3 hp
    cases e with
    | normal =>
      obtain ⟨hkf, hkw, hi3⟩ := hp
      have hl3 := hkf.same _ _ (by omega) hlb rfl
      have hd3 := hkf.same _ _ (Nat.le_refl _) hdb rfl
      have hend := run_endRound (P := P) none hl3
      have hrr : ({ R .busy with state := if (none : Option Code).isNone then .ready else .done, pending := none } : Loop) = R .ready := by
        have h2 : ({ R .busy with state := LoopState.ready, pending := none } : Loop) = { R .busy with state := LoopState.ready } := by rw [← hpe .busy]
        exact h2.trans (hw _ _)
      rw [hrr] at hend
      exact ⟨_, _, hend, rfl, ⟨hI.putObj _ hi3 (by omega) hl3 rfl, World.putObj_heap_same (Array.getElem?_eq_some_iff.1 hl3).1, (World.putObj_heap_other (by omega)).trans hd3⟩, KeepsAt.round hl hkw⟩
    | ret => exact hp.2.elim
    | exit id => exact hp.2.elim
    | goto t => exact hp.2.elim
    | panic ch => exact hp.elim
    | outgrown => exact hp.elim
  · rintro e W2 ⟨⟨v, rfl⟩, hi, hl, hd⟩
    refine ⟨none, _, by have h := run_endLoop (P := P) hl (by rw [hst]; simp); rw [hpe] at h; exact h, hdone _ _ (Nat.le_refl _) (hI.putObj _ hi (by omega) hl rfl) ((World.putObj_heap_other (by omega)).trans hd)⟩
end Go.Proofs.YtemjohkieehojaaDoor
