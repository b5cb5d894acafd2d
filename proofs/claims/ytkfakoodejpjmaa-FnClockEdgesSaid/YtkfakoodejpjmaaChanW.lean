/- A walk for one goroutine that sends and receives where nothing waits: as 'Code.wp', over frames that are no initialiser's. -/
import Derived.Conc.LoneCalls
import Derived.Calls
namespace Go.Proofs.Ytkfakoodejpjmaa
open Go Go.Conc Go.RowKit
set_option linter.unusedVariables false
section
variable {P : Program} {fr : Frame} {cs : List Frame} {w w₁ : World} {es : Array Event} {c cap s r : Nat} {buf : Array Value} {z z' v : Value} {tm closed : Bool}
theorem step_lone_select_buf (h : stepG P true (Conc.G fr cs) w = .comm (Conc.G fr cs) #[rcase c z] false .select w₁ es) (hc : w₁.heap[c]? = some (.chan cap buf closed s r tm)) (hsome : 0 < buf.size) :
    step P (solo (Conc.G fr cs) w) = .next (solo (Conc.G (fr.finish (.tuple #[goInt 0, .bool true, buf.getD 0 undef])) cs) (w₁.setChan c cap (buf.extract 1 buf.size) closed s (r + 1) tm)) := by
  have hp := partners_alone (c := c) true
  rw [step, stepT_solo rfl]
  simp [runT, solo, Conc.G, Array.swapAt!, Array.swapAt, h, GStep.es, communicate, ways, rcase, hc, hp, hsome, choose, Sem.run, Question.forced, bind, Sem.bind, pure, Goroutine.finishComm, commResult, World.setChan] at h ⊢
end
/-- the piece of code leaves in a way and a state of which Q holds, whatever frame that is no initialiser's runs it -/
def WpN (P : Program) (c : Code) (Q : Exit → Act → World → Prop) (a : Act) (w : World) : Prop :=
  ∀ (b : Frame), b.kind ≠ .early → ∀ (k : List Item) (cs : List Frame), ∃ e a' w', Q e a' w' ∧ Arrives P (lone (b.at a (.code c :: k)) cs w) b k cs e a' w'
/-- the same of what is left of a region -/
def WpRN (P : Program) (ops : Array Oper) (Q : Exit → Act → World → Prop) (l : List Nat) (a : Act) (w : World) : Prop :=
  ∀ (b : Frame), b.kind ≠ .early → ∀ (k : List Item) (cs : List Frame), ∃ e a' w', Q e a' w' ∧ Arrives P (lone (b.at a (.inRegion ops l :: k)) cs w) b k cs e a' w'
section
variable {P : Program} {Q Q' : Exit → Act → World → Prop} {a : Act} {w : World} {c x y : Code} {ops : Array Oper} {l rest : List Nat} {o : Oper} {i : Nat}
theorem WpN.of_wp (h : c.wp P Q a w) : WpN P c Q a w := fun b _ k cs => h b k cs
theorem WpRN.of_ops (h : wpOps P ops Q l a w) : WpRN P ops Q l a w := fun b _ k cs => wp_ops l a w h b k cs
theorem WpN.mono (h : WpN P c Q a w) (hq : ∀ e a w, Q e a w → Q' e a w) : WpN P c Q' a w := fun b hb k cs => by
  obtain ⟨e, a', w', h1, h2⟩ := h b hb k cs
  exact ⟨e, a', w', hq _ _ _ h1, h2⟩
/-- a way out that is no plain end goes past an item that holds no block -/
theorem arr_past {m : Machine} {b : Frame} {it : Item} {k : List Item} {cs : List Frame} {e : Exit} (hit : it.plain = true) (he : e ≠ .normal) (h : Arrives P m b (it :: k) cs e a w) : Arrives P m b k cs e a w :=
  Arrives.pass hit (fun _ _ => .inl he) h
theorem WpN.seq (h : WpN P x (Exit.then (WpN P y Q) Q) a w) : WpN P (.seq x y) Q a w := fun b hb k cs => by
  obtain ⟨e, a1, w1, hq, harr⟩ := h b hb (.code y :: k) cs
  by_cases he : e = .normal
  · subst he
    obtain ⟨e2, a2, w2, hq2, harr2⟩ := hq b hb k cs
    exact ⟨e2, a2, w2, hq2, Arrives.of_steps (Steps.head step_seq harr) harr2⟩
  · refine ⟨e, a1, w1, ?_, Arrives.of_steps (Steps.one step_seq) (arr_past rfl he harr)⟩
    cases e <;> first | exact hq | exact absurd rfl he
theorem WpN.seq_k (h : ∀ K : Act → World → Prop, (∀ a w, WpN P y Q a w → K a w) → WpN P x (Exit.then K Q) a w) : WpN P (.seq x y) Q a w :=
  WpN.seq (h _ fun _ _ h => h)
theorem WpN.cond {t : Operand} {v : Bool} (ht : a.eval t = .bool v) (h : WpN P (if v then x else y) Q a w) : WpN P (.cond t x y) Q a w := fun b hb k cs => by
  obtain ⟨e, a1, w1, hq, harr⟩ := h b hb k cs
  exact ⟨e, a1, w1, hq, Arrives.of_steps (Steps.one (step_cond ht)) harr⟩
theorem WpN.block {id : Nat} (h : WpN P c (Exit.inBlock id Q) a w) : WpN P (.block id c) Q a w := fun b hb k cs => by
  obtain ⟨e, a1, w1, hq, harr⟩ := h b hb (.inBlock id :: k) cs
  have hs : Steps P (lone (b.at a (.code (.block id c) :: k)) cs w) (lone (b.at a (.code c :: .inBlock id :: k)) cs w) := Steps.one step_block
  cases e with
  | normal => exact ⟨.normal, a1, w1, hq, hs.trans (Steps.trans harr (Steps.one step_inBlock))⟩
  | exit j =>
    by_cases hj : j = id
    · subst hj
      exact ⟨.normal, a1, w1, by simpa [Exit.inBlock] using hq, hs.trans (harr k (by simp [exitTo]))⟩
    · refine ⟨.exit j, a1, w1, by simpa [Exit.inBlock, hj] using hq, fun k' hk => hs.trans (harr k' ?_)⟩
      have hne : (id == j) = false := by simpa using fun h => hj h.symm
      simp [exitTo, hne, hk]
  | goto j => exact ⟨.goto j, a1, w1, hq, fun k' hk => hs.trans (harr k' (by simp [gotoIn, hk]))⟩
  | ret => exact ⟨.ret, a1, w1, hq, Arrives.of_steps hs (e := .ret) harr⟩
  | panic ch => exact ⟨.panic ch, a1, w1, hq, Arrives.of_steps hs (e := .panic ch) harr⟩
  | outgrown => exact ⟨.outgrown, a1, w1, hq, Arrives.of_steps (b := b) (k := k) (cs := cs) hs (e := .outgrown) harr⟩
/-- a loop, by what holds at its head and a number that falls -/
theorem WpN.loop (I : Nat → Act → World → Prop) (n : Nat) (h0 : I n a w)
    (round : ∀ n a w, I n a w → WpN P c (Exit.then (fun a' w' => ∃ m, m < n ∧ I m a' w') Q) a w) : WpN P (.loop c) Q a w := fun b hb k cs => by
  have key : ∀ n a w, I n a w → ∃ e a' w', Q e a' w' ∧ Arrives P (lone (b.at a (.code c :: .inLoop c :: k)) cs w) b k cs e a' w' := by
    intro n
    induction n using Nat.strongRecOn with
    | ind n ih =>
      intro a w hI
      obtain ⟨e, a1, w1, hq, harr⟩ := round n a w hI b hb (.inLoop c :: k) cs
      by_cases he : e = .normal
      · subst he
        obtain ⟨m, hm, hI1⟩ := hq
        obtain ⟨e2, a2, w2, hq2, harr2⟩ := ih m hm a1 w1 hI1
        exact ⟨e2, a2, w2, hq2, Arrives.of_steps (Steps.trans harr (Steps.one step_inLoop)) harr2⟩
      · refine ⟨e, a1, w1, ?_, arr_past rfl he harr⟩
        cases e <;> first | exact hq | exact absurd rfl he
  obtain ⟨e, a', w', hq, harr⟩ := key n a w h0
  exact ⟨e, a', w', hq, Arrives.of_steps (Steps.one step_loop) harr⟩
theorem WpN.region {id : Nat} (h : WpRN P ops Q (List.range ops.size) a w) : WpN P (.region id ops false) Q a w := fun b hb k cs => by
  obtain ⟨e, a1, w1, hq, harr⟩ := h b hb k cs
  exact ⟨e, a1, w1, hq, Arrives.of_steps (Steps.one step_region) harr⟩
theorem WpRN.done (h : Q .normal a w) : WpRN P ops Q [] a w := fun b _ k cs => ⟨.normal, a, w, h, Steps.one step_region_end⟩
theorem fin_at (b : Frame) (ho : ops[i]? = some o) (k : List Item) (v : Value) : (b.at a (.inRegion ops (i :: rest) :: k)).finish v = b.at (a.put o.dst v) (.inRegion ops rest :: k) := by
  rw [Frame.finish_at, ho]; rfl
/-- an operation that yields a value -/
theorem WpRN.value {v : Value} {w1 : World} (ho : ops[i]? = some o) (hw : Region.wanted o (yielded ops a.tmps) = true) (hr : (execOp a.eval o).run P w = .ok (.value v) w1)
    (h : WpRN P ops Q rest (a.put o.dst v) w1) : WpRN P ops Q (i :: rest) a w := fun b hb k cs => by
  obtain ⟨e, a', w', hq, harr⟩ := h b hb k cs
  refine ⟨e, a', w', hq, Arrives.of_steps (Steps.one (step_lone_go ?_)) harr⟩
  rw [stepG_op ho hw, ← fin_at b ho]
  simp [stepG.apply, hr]
/-- a call -/
theorem WpRN.call {f : FuncId} {args : Array Value} {w1 : World} (ho : ops[i]? = some o) (hw : Region.wanted o (yielded ops a.tmps) = true) (hr : (execOp a.eval o).run P w = .ok (.enter f args) w1)
    (h : Calls P f args w1 fun e w2 => ∃ v, e = .returned v ∧ WpRN P ops Q rest (a.put o.dst v) w2) : WpRN P ops Q (i :: rest) a w := fun b hb k cs => by
  obtain ⟨e, w2, fr, ⟨v, rfl, hR⟩, hsteps, _, hleave⟩ := h (b.at a (.inRegion ops (i :: rest) :: k) :: cs)
  have henter : step P (lone (b.at a (.inRegion ops (i :: rest) :: k)) cs w) = .next (lone (Frame.enter P f args .normal) (b.at a (.inRegion ops (i :: rest) :: k) :: cs) w1) :=
    step_lone_go (by rw [stepG_op ho hw]; simp [stepG.apply, hr, Frame.at])
  obtain ⟨e, a', w', hq, harr⟩ := hR b hb k cs
  refine ⟨e, a', w', hq, Arrives.of_steps (Steps.head henter (Steps.trans hsteps (Steps.one ?_))) harr⟩
  rw [← fin_at b ho]; exact step_leave_returned hleave
/-- a send into a buffer with room -/
theorem WpRN.send {ch cap s r : Nat} {buf : Array Value} {v z : Value} {tm : Bool} {w1 : World} (ho : ops[i]? = some o) (hw : Region.wanted o (yielded ops a.tmps) = true)
    (hr : (execOp a.eval o).run P w = .ok (.comm #[scase ch v z] true .send) w1) (hc : w1.heap[ch]? = some (.chan cap buf false s r tm)) (hroom : buf.size < cap)
    (h : WpRN P ops Q rest (a.put o.dst undef) (w1.setChan ch cap (buf.push v) false (s + 1) r tm)) : WpRN P ops Q (i :: rest) a w := fun b hb k cs => by
  obtain ⟨e, a', w', hq, harr⟩ := h b hb k cs
  refine ⟨e, a', w', hq, Arrives.of_steps (Steps.one ?_) harr⟩
  rw [← fin_at b ho]
  exact step_lone_send_room (stepG_comm ho hw hb hr) hc hroom
/-- a select of one receive with a default: nothing is there -/
theorem WpRN.default {ch cap s r : Nat} {z : Value} {tm : Bool} {w1 : World} (ho : ops[i]? = some o) (hw : Region.wanted o (yielded ops a.tmps) = true)
    (hr : (execOp a.eval o).run P w = .ok (.comm #[rcase ch z] false .select) w1) (hc : w1.heap[ch]? = some (.chan cap #[] false s r tm))
    (h : WpRN P ops Q rest (a.put o.dst (.tuple #[goInt (-1), .bool false, z])) w1) : WpRN P ops Q (i :: rest) a w := fun b hb k cs => by
  obtain ⟨e, a', w', hq, harr⟩ := h b hb k cs
  refine ⟨e, a', w', hq, Arrives.of_steps (Steps.one ?_) harr⟩
  rw [← fin_at b ho]
  exact step_lone_select_default (stepG_comm ho hw hb hr) hc
/-- a select of one receive with a default: something is there -/
theorem WpRN.take {ch cap s r : Nat} {buf : Array Value} {z : Value} {tm closed : Bool} {w1 : World} (ho : ops[i]? = some o) (hw : Region.wanted o (yielded ops a.tmps) = true)
    (hr : (execOp a.eval o).run P w = .ok (.comm #[rcase ch z] false .select) w1) (hc : w1.heap[ch]? = some (.chan cap buf closed s r tm)) (hsome : 0 < buf.size)
    (h : WpRN P ops Q rest (a.put o.dst (.tuple #[goInt 0, .bool true, buf.getD 0 undef])) (w1.setChan ch cap (buf.extract 1 buf.size) closed s (r + 1) tm)) : WpRN P ops Q (i :: rest) a w := fun b hb k cs => by
  obtain ⟨e, a', w', hq, harr⟩ := h b hb k cs
  refine ⟨e, a', w', hq, Arrives.of_steps (Steps.one ?_) harr⟩
  rw [← fin_at b ho]
  exact step_lone_select_buf (stepG_comm ho hw hb hr) hc hsome
end
/-- from the walk of the body to the function's contract -/
theorem calls_of_wpN {P : Program} {f : FuncId} {fn : Func} {c : Code} {args : Array Value} {w : World} {R : Ending → World → Prop}
    (hf : P.funcs[f]? = some fn) (hb : fn.body = some c) (hno : ∀ w, ¬ R .outgrown w)
    (h : WpN P c (bodyPost P fn R) { tmps := args ++ Array.replicate (fn.ntmps - args.size) undef, defers := [] } w) : Calls P f args w R := fun cs => by
  have henter : Frame.enter P f args .normal = ({ (default : Frame) with fn := f, kind := .normal } : Frame).at { tmps := args ++ Array.replicate (fn.ntmps - args.size) undef, defers := [] } [.code c] := by
    simp [Frame.enter, Frame.at, hf, hb]
  obtain ⟨e, a', w', hq, harr⟩ := h { (default : Frame) with fn := f, kind := .normal } (by simp) [] cs
  rw [← henter] at harr
  cases e with
  | normal =>
    obtain ⟨hd, v, hr, hR⟩ := hq
    exact ⟨.returned v, w', _, hR, Steps.trans harr (Steps.one step_end), rfl, rfl, hd, rfl, fn, hf, hr⟩
  | ret =>
    obtain ⟨hd, v, hr, hR⟩ := hq
    obtain ⟨todo, hs⟩ := harr
    exact ⟨.returned v, w', _, hR, hs, rfl, rfl, hd, rfl, fn, hf, hr⟩
  | panic chain =>
    obtain ⟨hd, hR⟩ := hq
    obtain ⟨todo, hs⟩ := harr
    exact ⟨.panicked chain, w', _, hR, hs, rfl, rfl, hd, fn, hf⟩
  | exit id => exact hq.elim
  | goto l => exact hq.elim
  | outgrown => exact absurd hq (hno _)
end Go.Proofs.Ytkfakoodejpjmaa
