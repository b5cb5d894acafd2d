/- A follower of a wave, and a reset that ends with a clock: the program's side. -/
import Derived.Test.YtmhbgpappjfolaaGate
import Derived.Defers
import Derived.BigQuiet
import Derived.Deep.QuietTactic
namespace Go.Proofs.Ytmhbgpappjfolaa
open Go.RowKit Go.Shelf
set_option linter.unusedVariables false

theorem keep_deferred (b off : Nat) (x y : Bool) (u : FrameMode) (w : World) (hc : w.cell? ⟨b, off, none⟩ = some (.bool y)) (hf : w.frozen? ⟨b, off, none⟩ = false) :
    CallsD Try.prog 107 #[.pointer (some ⟨b, off, none⟩), .bool x] u w fun e u' w' => u' = u ∧ (e = .returned (.tuple #[]) ∧ w' = w.setCell ⟨b, off, none⟩ (.bool x)) := by
  go_enter_d Try.func107, Try.ntmps107
  go_wp2
  go_end0
  exact ⟨rfl, rfl⟩
/-- where does a follower stand? -/
def AtB (w : World) (b off : Nat) (y : Bool) : Prop := w.cell? ⟨b, off, none⟩ = some (.bool y) ∧ w.frozen? ⟨b, off, none⟩ = false
set_option maxHeartbeats 1000000 in
theorem follow_any (b off : Nat) (y x : Bool) (w : World) (hc : w.cell? ⟨b, off, none⟩ = some (.bool y)) (hf : w.frozen? ⟨b, off, none⟩ = false) :
    Calls Try.prog 92 #[.pointer (some ⟨b, off, none⟩), .bool x] w fun e w' => e = .returned (.tuple #[.bool (!y && x), .bool (y && !x)]) ∧ ∃ n, w' = (w.drewN n).setCell ⟨b, off, none⟩ (.bool x) := by
  cases y <;> cases x
  · go_enter_defers Try.func92, Try.ntmps92
    go_wp2
    go_quiet (fail)
    go_wp2
    refine leaves_cons (f := 107) (args := #[.pointer (some ⟨b, off, none⟩), .bool false]) (by simp) (by simp [go_sem]) ?_
    refine (keep_deferred b off false false .returning _ ?_ ?_).mono ?_
    · exact hc
    · exact hf
    rintro e u' w'' ⟨rfl, rfl, rfl⟩
    exact ⟨_, results_tmp2 rfl _ _ _, rfl, ⟨_, rfl⟩⟩
  · go_enter_defers Try.func92, Try.ntmps92
    go_wp2
    go_quiet (fail)
    go_wp2
    refine leaves_cons (f := 107) (args := #[.pointer (some ⟨b, off, none⟩), .bool true]) (by simp) (by simp [go_sem]) ?_
    refine (keep_deferred b off true false .returning _ ?_ ?_).mono ?_
    · exact hc
    · exact hf
    rintro e u' w'' ⟨rfl, rfl, rfl⟩
    exact ⟨_, results_tmp2 rfl _ _ _, rfl, ⟨_, rfl⟩⟩
  · go_enter_defers Try.func92, Try.ntmps92
    go_wp2
    go_quiet (fail)
    go_wp2
    refine leaves_cons (f := 107) (args := #[.pointer (some ⟨b, off, none⟩), .bool false]) (by simp) (by simp [go_sem]) ?_
    refine (keep_deferred b off false true .returning _ ?_ ?_).mono ?_
    · exact hc
    · exact hf
    rintro e u' w'' ⟨rfl, rfl, rfl⟩
    exact ⟨_, results_tmp2 rfl _ _ _, rfl, ⟨_, rfl⟩⟩
  · go_enter_defers Try.func92, Try.ntmps92
    go_wp2
    go_quiet (fail)
    go_wp2
    refine leaves_cons (f := 107) (args := #[.pointer (some ⟨b, off, none⟩), .bool true]) (by simp) (by simp [go_sem]) ?_
    refine (keep_deferred b off true true .returning _ ?_ ?_).mono ?_
    · exact hc
    · exact hf
    rintro e u' w'' ⟨rfl, rfl, rfl⟩
    exact ⟨_, results_tmp2 rfl _ _ _, rfl, ⟨_, rfl⟩⟩
theorem upB_eq (a : ByteArray) (k : Nat) : upB a k = (!(decide (0 < k) && bit a (k - 1)) && bit a k) := by
  unfold upB; rw [Bool.and_comm]
theorem prev_succ (a : ByteArray) (k : Nat) : (decide (0 < k + 1) && bit a (k + 1 - 1)) = bit a k := by simp
end Go.Proofs.Ytmhbgpappjfolaa
