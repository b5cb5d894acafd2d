/- A rule of the program: its level, by its function. -/
import Derived.Test.YtkipgeecibimoaaSlide
import Derived.Test.YtkipgeecibimoaaQuietAt
import Derived.Deep.RegionHeld3
namespace Go.Proofs.Ytkipgeecibimoaa
open Go.RowKit
set_option linter.unusedVariables false
set_option linter.unusedSimpArgs false

theorem takeL {P : Program} {md : Region.Mode} {l : List Oper} {Q : Exit → Act → World → Prop} {S : World → Prop} {i : Nat} {oi : Oper} {v : Value} {fuel : Nat} {listed : Array Bool} {a : Act} {w : World} (hi : l[i]? = some oi)
    (hs : Region.noSelect l.toArray = true) (hf : Region.free md l.toArray listed i = true) (hr : (Region.ready md l.toArray listed).contains i = true)
    (hQ : ∀ c a w, Q (.panic c) (a.put oi.dst v) w → Q (.panic c) a w) (hy : YieldsIf P l.toArray S oi v a) (hS : S w)
    (h : wpAnyH P md l.toArray Q S fuel (listed.setIfInBounds i true) (a.put oi.dst v) w) : wpAnyH P md l.toArray Q S (fuel + 1) listed a w :=
  wpAnyH_take (by simpa using hi) hs hf hr hQ hy hS h

theorem wpQuiet_load_win {ops : Array Oper} {w0 : World} {Q : Act → Prop} {a : Act} {o : Oper} {rest : List Oper} (hgd : o.guard = none) (x : Operand) (ho : o.op = .load TWin x)
    (b : Nat) (hx : a.eval x = .pointer (some ⟨b, 0, none⟩)) (cs : Array Value) (hb : WinBlk w0 b cs) (hz : cs.size = 53) (h : wpQuiet Try.prog ops (fun w' => ∃ n, w' = w0.drewN n) Q rest (a.put o.dst (.agg cs))) : wpQuiet Try.prog ops (fun w' => ∃ n, w' = w0.drewN n) Q (o :: rest) a := by
  unfold wpQuiet
  rw [if_pos (by simp only [Region.wanted, hgd])]
  refine ⟨.agg cs, fun w hw => ?_, h⟩
  obtain ⟨n, rfl⟩ := hw
  have hb2 : WinBlk (w0.drewN n) b cs := hb
  unfold Oper.quietAt execOp
  simp only [ho, hx, Instr.loadAt, Instr.sureAddr, Sem.run_bind, Sem.run_pure, Result.andThen_ok, run_loadVar_row (w0.drewN n) b TWin TWin cs (0, 0) _ hb2 Try.underlying183 rfl (by rw [hz]; kernel_rfl)]
  exact ⟨rfl, rfl⟩
/-- what a rule's function decides -/
def DecC (f : Nat) (T : Nat) (dec : Nat → Bool → Bool) : Prop := (∀ args w, (callFunc f args).run Try.prog w = .ok (.enter f args) w) ∧ ∀ (cs : Array Value) (mk old : Nat) (arr : Nat → Bool) (on : Bool) (W : World), WinV cs T mk old arr → mk ≤ 50 → T ≤ 50 → 1 ≤ T →
  Calls Try.prog f #[.agg cs, .bool on] W fun e w' => e = .returned (.bool (dec mk on)) ∧ Below W.heap.size W w'
end Go.Proofs.Ytkipgeecibimoaa
