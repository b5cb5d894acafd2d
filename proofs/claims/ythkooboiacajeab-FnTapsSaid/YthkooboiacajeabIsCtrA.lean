/- Contracts: is a counter valid, on both sides. -/
import Derived.Test.YthkooboiacajeabState
import Derived.Test.YthkooboiacajeabPair
import Derived.BigQuiet
import Derived.Deep.QuietTactic
namespace Go.Proofs.Ythkooboiacajeab
open Go.RowKit

theorem quiet_eqc {P : Program} {f : FuncId} {args : Array Value} {w : World} {n : Nat} {v : Value}
    (h : Calls P f args (w.drewN n) fun e w' => e = .returned v ∧ w.drewN n = w') : Calls P f args (w.drewN n) fun e w'' => e = .returned v ∧ ∃ m, w'' = w.drewN m :=
  h.mono fun _ _ ⟨he, hm⟩ => ⟨he, n, hm.symm⟩

/-- is a number a state -/
def stB (b x : Int) : Bool := decide (0 ≤ x ∧ x < st b)
def ctrB (b : Int) (l : List Int) : Bool := decide (1 ≤ b ∧ b ≤ 8) && decide ((l.length : Int) = st b) && l.all (stB b)
theorem ctrB_bits (b : Int) (l : List Int) (h : b < 1 ∨ 8 < b) : ctrB b l = false := by
  unfold ctrB; rw [decide_eq_false (by omega)]; rfl
theorem ctrB_len (b : Int) (l : List Int) (h : (l.length : Int) ≠ st b) : ctrB b l = false := by
  unfold ctrB; rw [decide_eq_false h]; simp
theorem ctrB_all (b : Int) (l : List Int) (h1 : 1 ≤ b) (h2 : b ≤ 8) (h : (l.length : Int) = st b) : ctrB b l = l.all (stB b) := by
  unfold ctrB; rw [decide_eq_true ⟨h1, h2⟩, decide_eq_true h]; rfl
theorem all_stepB (p : Int → Bool) (l : List Int) (k : Nat) (hk : k < l.length) (h0 : (l.take k).all p = true) (h : p l[k] = true) : (l.take (k + 1)).all p = true := by
  rw [List.take_succ_eq_append_getElem hk]; simp only [List.all_append, h0, Bool.true_and]; simp [h]
theorem all_badB (p : Int → Bool) (l : List Int) (k : Nat) (hk : k < l.length) (h : p l[k] = false) : l.all p = false := by
  rw [List.all_eq_false]; exact ⟨l[k], List.getElem_mem hk, by simp [h]⟩
theorem all_endB (p : Int → Bool) (l : List Int) (k : Nat) (hk : l.length ≤ k) (h0 : (l.take k).all p = true) : l.all p = true := by
  rw [List.take_of_length_le hk] at h0; exact h0

/-- a slice of the call's own, read -/
def RowOf (w : World) (a : Option Addr) (l : List Int) : Prop := ∀ k (hk : k < l.length), ∃ g, a = some ⟨g, 0, none⟩ ∧ w.cell? ⟨g, k, none⟩ = some (.int .i64 l[k])
theorem Ints.rowOf {w : World} {B n cap : Nat} {a : Option Addr} {l : List Int} (h : Ints w B (.slice a n cap) l) : RowOf w a l ∧ n = l.length := by
  obtain ⟨a', cap', hv, _, hk⟩ := h.form
  simp only [Value.slice.injEq] at hv
  obtain ⟨rfl, rfl, rfl⟩ := hv
  refine ⟨fun k hlt => ?_, rfl⟩
  obtain ⟨g, h1, _, _, h2, _⟩ := hk k hlt
  exact ⟨g, h1, h2⟩

end Go.Proofs.Ythkooboiacajeab
