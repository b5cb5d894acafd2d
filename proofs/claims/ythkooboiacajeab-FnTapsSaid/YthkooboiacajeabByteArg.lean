/- Bytes that came in: a number that they choose; are they too many. -/
import Derived.Test.YthkooboiacajeabWords
import Derived.Test.YthkooboiacajeabRows
import Derived.LoopTactic
import Derived.IntWalk
namespace Go.Proofs.Ythkooboiacajeab
open Go.RowKit
set_option linter.unusedVariables false

/-- the slice at a, that came in, holds the bytes l -/
def ByteRow (w : World) (a : Option Addr) (l : List Int) : Prop := (∀ z ∈ l, 0 ≤ z ∧ z ≤ 255) ∧ (l = [] ∨ ∃ b off, a = some ⟨b, off, none⟩ ∧ b < w.heap.size ∧ ∀ k (hk : k < l.length), w.cell? ⟨b, off + k, none⟩ = some (.int .u8 l[k]))
theorem ByteRow.nil (w : World) (a : Option Addr) : ByteRow w a [] := ⟨fun z h => by simp at h, .inl rfl⟩
theorem ByteRow.keep {w w' : World} {a : Option Addr} {l : List Int} (h : ByteRow w a l) {N : Nat} (hb : Below N w w') (hN : w.heap.size ≤ N) : ByteRow w' a l := by
  obtain ⟨h0, h⟩ := h
  rcases h with h | ⟨b, off, h1, h2, h3⟩
  · exact ⟨h0, .inl h⟩
  · exact ⟨h0, .inr ⟨b, off, h1, Nat.lt_of_lt_of_le h2 hb.size, fun k hk => (hb.cell (p := ⟨b, off + k, none⟩) (Nat.lt_of_lt_of_le h2 hN)).trans (h3 k hk)⟩⟩
theorem byte_wf {z : Int} (h : (Lit.int .u8 z).wf = true) : 0 ≤ z ∧ z ≤ 255 := by
  have h1 : IntKind.u8.min ≤ z ∧ z ≤ IntKind.u8.max := by simpa [Lit.wf] using h
  have e1 : IntKind.u8.min = 0 := by decide
  have e2 : IntKind.u8.max = 255 := by decide
  rw [e1, e2] at h1; exact h1

/-- the number below m that the byte at k chooses -/
def r8V (l : List Int) (k : Nat) (m : Int) : Int := if m ≤ 1 ∨ l.length ≤ k then 0 else (l.getD k 0) % m
theorem r8V_bd (l : List Int) (k : Nat) (m : Int) (hm : 1 ≤ m) : 0 ≤ r8V l k m ∧ r8V l k m < m := by
  unfold r8V
  split
  · omega
  · exact ⟨Int.emod_nonneg _ (by omega), Int.emod_lt_of_pos _ (by omega)⟩
set_option maxHeartbeats 1000000 in
theorem r8At_any (a : Option Addr) (n cap : Nat) (l : List Int) (k : Nat) (m : Int) (w : World) (hn : n = l.length) (hn2 : n ≤ 48) (h : ByteRow w a l) (hk : k ≤ 48) (hm : 1 ≤ m) (hm2 : m ≤ 1000000) :
    Calls Try.prog 6 #[.slice a n cap, .int .i64 (k : Int), .int .i64 m] w fun e w' => e = .returned (.int .i64 (r8V l k m)) ∧ w = w' := by
  by_cases h1 : m ≤ 1 ∨ l.length ≤ k
  · have hv : r8V l k m = 0 := by unfold r8V; rw [if_pos h1]
    rw [hv]
    have h2 : m ≤ 1 ∨ n ≤ k := by omega
    clear h h1 hn hv
    by_cases h3 : m ≤ 1
    · go_enter Try.func6, Try.ntmps6
      go_wp2
      go_ret
      exact ⟨rfl, rfl⟩
    · have h4 : n ≤ k := by omega
      go_enter Try.func6, Try.ntmps6
      go_wp2
      go_ret
      exact ⟨rfl, rfl⟩
  · have hk2 : k < l.length := by omega
    have hk3 : k < n := by omega
    obtain ⟨h0, h⟩ := h
    rcases h with h | ⟨b, off, rfl, hb, hc⟩
    · rw [h] at hk2; simp at hk2
    have hce := hc k hk2
    have hz := h0 l[k] (List.getElem_mem hk2)
    have hv : r8V l k m = l[k] % m := by
      unfold r8V; rw [if_neg h1, List.getD_eq_getElem?_getD, List.getElem?_eq_getElem hk2]; rfl
    rw [hv]
    obtain ⟨z, hzz⟩ : ∃ z, l[k] = z := ⟨_, rfl⟩
    rw [hzz] at hce hz ⊢
    have h5 : ¬ m ≤ 1 := by omega
    have h6 : ¬ n ≤ k := by omega
    have hne : (m == 0) = false := by simp; omega
    have hn0 : ¬ m = 0 := by omega
    have hr0 := Int.emod_nonneg z hn0
    have hr1 := Int.emod_lt_of_pos z (show 0 < m by omega)
    have wz : IntKind.i64.wrap z = z := IntWalk.i64_in _ (by omega)
    have wr : IntKind.i64.wrap (z.tmod m) = z % m := by rw [Int.tmod_eq_emod_of_nonneg (by omega)]; exact IntWalk.i64_in _ (by omega)
    clear h0 hc h1 hn hzz hv hk2
    go_enter Try.func6, Try.ntmps6
    go_wp2
    go_ret
    exact ⟨rfl, rfl⟩
theorem r8Long_any (a b : Option Addr) (n c m d : Nat) (w : World) :
    Calls Try.prog 5 #[.slice a n c, .slice b m d] w fun e w' => e = .returned (.bool (decide (48 < n) || decide (48 < m))) ∧ w = w' := by
  by_cases h1 : 48 < n
  · go_enter Try.func5, Try.ntmps5
    go_wp2
    go_ret
    exact ⟨ret_bool (by simp <;> omega), rfl⟩
  · by_cases h2 : 48 < m
    all_goals
      go_enter Try.func5, Try.ntmps5
      go_wp2
      go_ret
      refine ⟨ret_bool ?_, rfl⟩
      first | (rw [decide_eq_false h1, decide_eq_true h2]; rfl) | (rw [decide_eq_false h1, decide_eq_false h2]; rfl) | (rw [decide_eq_false h1, decide_eq_true h2]; simp; omega) | (rw [decide_eq_false h1, decide_eq_false h2]; simp; omega) | trace_state
end Go.Proofs.Ythkooboiacajeab
