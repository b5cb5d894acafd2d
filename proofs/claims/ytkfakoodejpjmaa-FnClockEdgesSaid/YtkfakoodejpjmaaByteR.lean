/- Numbers that the laws' inputs choose. -/
import Derived.Test.YtkfakoodejpjmaaByteB
import Derived.BigQuiet
import Derived.Deep.QuietTactic
import Derived.IntWalk
namespace Go.Proofs.Ytkfakoodejpjmaa
open Go.RowKit
set_option linter.unusedVariables false
def r8V (l : List Int) (k : Nat) (m : Int) : Int := if m ≤ 1 ∨ l.length ≤ k then 0 else (l.getD k 0) % m
theorem r8V_bd (l : List Int) (k : Nat) (m : Int) (hm : 1 ≤ m) : 0 ≤ r8V l k m ∧ r8V l k m < m := by
  unfold r8V
  split
  · omega
  · exact ⟨Int.emod_nonneg _ (by omega), Int.emod_lt_of_pos _ (by omega)⟩
set_option maxHeartbeats 1000000 in
theorem r8At_any (a : Option Addr) (n cap : Nat) (l : List Int) (k : Nat) (m : Int) (w : World) (hn : n = l.length) (hn2 : n ≤ 48) (h : ByteRow w a l) (hk : k ≤ 48) (hm : 1 ≤ m) (hm2 : m ≤ 1000000) :
    Calls Try.prog 13 #[.slice a n cap, .int .i64 (k : Int), .int .i64 m] w fun e w' => e = .returned (.int .i64 (r8V l k m)) ∧ w = w' := by
  by_cases h1 : m ≤ 1 ∨ l.length ≤ k
  · have hv : r8V l k m = 0 := by unfold r8V; rw [if_pos h1]
    rw [hv]
    have h2 : m ≤ 1 ∨ n ≤ k := by omega
    clear h h1 hn hv
    by_cases h3 : m ≤ 1
    · go_enter Try.func13, Try.ntmps13
      go_wp2
      go_ret
      exact ⟨rfl, rfl⟩
    · have h4 : n ≤ k := by omega
      go_enter Try.func13, Try.ntmps13
      go_wp2
      go_ret
      exact ⟨rfl, rfl⟩
  · have hk2 : k < l.length := by omega
    have hk3 : k < n := by omega
    obtain ⟨h0, h⟩ := h
    rcases h with h | ⟨b, off, rfl, hb, hc⟩
    · rw [h] at hk2; simp at hk2
    have hce := hc k hk2
    have hz := h0 l[k] (List.getElem_mem hk2)
    have hv : r8V l k m = l[k] % m := by
      unfold r8V; rw [if_neg h1, List.getD_eq_getElem?_getD, List.getElem?_eq_getElem hk2]; rfl
    rw [hv]
    obtain ⟨z, hzz⟩ : ∃ z, l[k] = z := ⟨_, rfl⟩
    rw [hzz] at hce hz ⊢
    have h5 : ¬ m ≤ 1 := by omega
    have h6 : ¬ n ≤ k := by omega
    have hne : (m == 0) = false := by simp; omega
    have hn0 : ¬ m = 0 := by omega
    have hr0 := Int.emod_nonneg z hn0
    have hr1 := Int.emod_lt_of_pos z (show 0 < m by omega)
    have wz : IntKind.i64.wrap z = z := IntWalk.i64_in _ (by omega)
    have wr : IntKind.i64.wrap (z.tmod m) = z % m := by rw [Int.tmod_eq_emod_of_nonneg (by omega)]; exact IntWalk.i64_in _ (by omega)
    clear h0 hc h1 hn hzz hv hk2
    go_enter Try.func13, Try.ntmps13
    go_wp2
    go_ret
    exact ⟨rfl, rfl⟩
theorem r8Long_any (a b : Option Addr) (n c m d : Nat) (w : World) :
    Calls Try.prog 11 #[.slice a n c, .slice b m d] w fun e w' => e = .returned (.bool (decide (48 < n) || decide (48 < m))) ∧ w = w' := by
  by_cases h1 : 48 < n
  · go_enter Try.func11, Try.ntmps11
    go_wp2
    go_ret
    exact ⟨ret_bool (by simp <;> omega), rfl⟩
  · by_cases h2 : 48 < m
    all_goals
      go_enter Try.func11, Try.ntmps11
      go_wp2
      go_ret
      refine ⟨ret_bool ?_, rfl⟩
      first | (rw [decide_eq_false h1, decide_eq_true h2]; rfl) | (rw [decide_eq_false h1, decide_eq_false h2]; rfl) | (rw [decide_eq_false h1, decide_eq_true h2]; simp; omega) | (rw [decide_eq_false h1, decide_eq_false h2]; simp; omega) | trace_state
end Go.Proofs.Ytkfakoodejpjmaa
