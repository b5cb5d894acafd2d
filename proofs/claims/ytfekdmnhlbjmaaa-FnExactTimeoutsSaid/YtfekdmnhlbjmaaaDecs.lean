/- What the rules' functions decide: debounced, stretched, most levels. -/
import Derived.Test.YtfekdmnhlbjmaaaRule
import Derived.Shelf.Abstract
namespace Go.Proofs.Ytfekdmnhlbjmaaa
open Go.RowKit Go.Shelf
set_option linter.unusedVariables false

theorem win_cells {cs : Array Value} {T mk old : Nat} {arr : Nat → Bool} (h : WinV cs T mk old arr) (w : World) : (w.alloc (.cells cs TWin)).cell? ⟨w.heap.size, 0, none⟩ = some (.int .i64 (T : Int)) ∧ (w.alloc (.cells cs TWin)).cell? ⟨w.heap.size, 1, none⟩ = some (.int .i64 (mk : Int)) := by
  have hB : WinBlk (w.alloc (.cells cs TWin)) w.heap.size cs := by unfold WinBlk World.alloc; simp
  exact ⟨by rw [hB.cell]; exact h.c0, by rw [hB.cell]; exact h.c1⟩
theorem deb_dec (T : Nat) : DecC 49 T (decDeb T) := by
  refine ⟨enters_of Try.func49 (by kernel_rfl) rfl, ?_⟩
  intro cs mk old arr on w hv hm hT hT1
  obtain ⟨c0, c1⟩ := win_cells hv w
  clear hv
  by_cases h : mk = T
  · have e : decDeb T mk on = true := by simp [decDeb, h]
    rw [e]
    subst h
    go_enter Try.func49, Try.ntmps49
    go_wp2
    go_ret
    exact ⟨rfl, (Below.refl _ _).alloc (Nat.le_refl _) _⟩
  · have e : decDeb T mk on = (on && decide (0 < mk)) := by simp [decDeb, h]
    have hb : ((mk : Int) == (T : Int)) = false := by simp; omega
    rw [e]
    cases on with
    | false =>
      go_enter Try.func49, Try.ntmps49
      go_wp2
      go_ret
      exact ⟨by simp, (Below.refl _ _).alloc (Nat.le_refl _) _⟩
    | true =>
      by_cases h0 : 0 < mk
      · have hI : (0 : Int) < (mk : Int) := by omega
        have hD := decide_eq_true hI
        go_enter Try.func49, Try.ntmps49
        go_wp2
        go_ret
        exact ⟨by simp [h0], (Below.refl _ _).alloc (Nat.le_refl _) _⟩
      · have hI : ¬ (0 : Int) < (mk : Int) := by omega
        have hD := decide_eq_false hI
        go_enter Try.func49, Try.ntmps49
        go_wp2
        go_ret
        exact ⟨by simp [h0], (Below.refl _ _).alloc (Nat.le_refl _) _⟩
theorem str_dec (T : Nat) : DecC 52 T decStr := by
  refine ⟨enters_of Try.func52 (by kernel_rfl) rfl, ?_⟩
  intro cs mk old arr on w hv hm hT hT1
  obtain ⟨c0, c1⟩ := win_cells hv w
  clear hv
  unfold decStr
  by_cases h0 : 0 < mk
  · have hI : (0 : Int) < (mk : Int) := by omega
    have hD := decide_eq_true hI
    go_enter Try.func52, Try.ntmps52
    go_wp2
    go_ret
    exact ⟨by simp [h0], (Below.refl _ _).alloc (Nat.le_refl _) _⟩
  · have hI : ¬ (0 : Int) < (mk : Int) := by omega
    have hD := decide_eq_false hI
    go_enter Try.func52, Try.ntmps52
    go_wp2
    go_ret
    exact ⟨by simp [h0], (Below.refl _ _).alloc (Nat.le_refl _) _⟩
theorem maj_dec (T : Nat) : DecC 53 T (decMaj T) := by
  refine ⟨enters_of Try.func53 (by kernel_rfl) rfl, ?_⟩
  intro cs mk old arr on w hv hm hT hT1
  obtain ⟨c0, c1⟩ := win_cells hv w
  clear hv
  unfold decMaj
  have hw : IntKind.i64.wrap (2 * (mk : Int)) = 2 * (mk : Int) := IntWalk.i64_in _ (by omega)
  by_cases h0 : T < 2 * mk
  · have hI : (T : Int) < 2 * (mk : Int) := by omega
    have hD := decide_eq_true hI
    go_enter Try.func53, Try.ntmps53
    go_wp2
    go_ret
    exact ⟨by simp [h0], (Below.refl _ _).alloc (Nat.le_refl _) _⟩
  · have hI : ¬ (T : Int) < 2 * (mk : Int) := by omega
    have hD := decide_eq_false hI
    go_enter Try.func53, Try.ntmps53
    go_wp2
    go_ret
    exact ⟨by simp [h0], (Below.refl _ _).alloc (Nat.le_refl _) _⟩
end Go.Proofs.Ytfekdmnhlbjmaaa
