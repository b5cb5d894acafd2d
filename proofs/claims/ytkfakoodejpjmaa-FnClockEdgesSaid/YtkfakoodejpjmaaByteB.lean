/- Bytes that came in: a number that they choose, another way; are they too many. -/
import Derived.Test.YtkfakoodejpjmaaWords
import Derived.Test.YtkfakoodejpjmaaRows
import Derived.LoopTactic
import Derived.IntWalk
namespace Go.Proofs.Ytkfakoodejpjmaa
open Go.RowKit
set_option linter.unusedVariables false

/-- the slice at a, that came in, holds the bytes l -/
def ByteRow (w : World) (a : Option Addr) (l : List Int) : Prop := (∀ z ∈ l, 0 ≤ z ∧ z ≤ 255) ∧ (l = [] ∨ ∃ b off, a = some ⟨b, off, none⟩ ∧ b < w.heap.size ∧ ∀ k (hk : k < l.length), w.cell? ⟨b, off + k, none⟩ = some (.int .u8 l[k]))
theorem ByteRow.nil (w : World) (a : Option Addr) : ByteRow w a [] := ⟨fun z h => by simp at h, .inl rfl⟩
theorem ByteRow.keep {w w' : World} {a : Option Addr} {l : List Int} (h : ByteRow w a l) {N : Nat} (hb : Below N w w') (hN : w.heap.size ≤ N) : ByteRow w' a l := by
  obtain ⟨h0, h⟩ := h
  rcases h with h | ⟨b, off, h1, h2, h3⟩
  · exact ⟨h0, .inl h⟩
  · exact ⟨h0, .inr ⟨b, off, h1, Nat.lt_of_lt_of_le h2 hb.size, fun k hk => (hb.cell (p := ⟨b, off + k, none⟩) (Nat.lt_of_lt_of_le h2 hN)).trans (h3 k hk)⟩⟩
theorem byte_wf {z : Int} (h : (Lit.int .u8 z).wf = true) : 0 ≤ z ∧ z ≤ 255 := by
  have h1 : IntKind.u8.min ≤ z ∧ z ≤ IntKind.u8.max := by simpa [Lit.wf] using h
  have e1 : IntKind.u8.min = 0 := by decide
  have e2 : IntKind.u8.max = 255 := by decide
  rw [e1, e2] at h1; exact h1

/-- the number below m that the byte at k chooses, or k behind their end -/
def b10V (l : List Int) (k : Nat) (m : Int) : Int := if m ≤ 1 then 0 else if k < l.length then (l.getD k 0) % m else ((k : Int) * 37 + 11) % m
theorem b10V_bd (l : List Int) (k : Nat) (m : Int) (hm : 1 ≤ m) : 0 ≤ b10V l k m ∧ b10V l k m < m := by
  unfold b10V
  split
  · omega
  · split <;> exact ⟨Int.emod_nonneg _ (by omega), Int.emod_lt_of_pos _ (by omega)⟩
set_option maxHeartbeats 1000000 in
theorem b10At_any (a : Option Addr) (n cap : Nat) (l : List Int) (k : Nat) (m : Int) (w : World) (hn : n = l.length) (h : ByteRow w a l) (hk : k ≤ 48) (hm : 1 ≤ m) (hm2 : m ≤ 1000000) :
    Calls Try.prog 29 #[.slice a n cap, .int .i64 (k : Int), .int .i64 m] w fun e w' => e = .returned (.int .i64 (b10V l k m)) ∧ w = w' := by
  by_cases h1 : m ≤ 1
  · have hv : b10V l k m = 0 := by unfold b10V; rw [if_pos h1]
    rw [hv]
    clear h hn hv
    go_enter Try.func29, Try.ntmps29
    go_wp2
    go_ret
    exact ⟨rfl, rfl⟩
  · have hne : (m == 0) = false := by simp; omega
    have hn0 : ¬ m = 0 := by omega
    by_cases hk2 : k < l.length
    · have hk3 : k < n := by omega
      obtain ⟨h0, h⟩ := h
      rcases h with h | ⟨b, off, rfl, hb, hc⟩
      · rw [h] at hk2; simp at hk2
      have hce := hc k hk2
      have hz := h0 l[k] (List.getElem_mem hk2)
      have hv : b10V l k m = l[k] % m := by
        unfold b10V; rw [if_neg h1, if_pos hk2, List.getD_eq_getElem?_getD, List.getElem?_eq_getElem hk2]; rfl
      rw [hv]
      obtain ⟨z, hzz⟩ : ∃ z, l[k] = z := ⟨_, rfl⟩
      rw [hzz] at hce hz ⊢
      have hr0 := Int.emod_nonneg z hn0
      have hr1 := Int.emod_lt_of_pos z (show 0 < m by omega)
      have wz : IntKind.i64.wrap z = z := IntWalk.i64_in _ (by omega)
      have wr : IntKind.i64.wrap (z.tmod m) = z % m := by rw [Int.tmod_eq_emod_of_nonneg (by omega)]; exact IntWalk.i64_in _ (by omega)
      clear h0 hc hn hzz hv hk2
      go_enter Try.func29, Try.ntmps29
      go_wp2
      go_ret
      exact ⟨rfl, rfl⟩
    · have hk3 : ¬ k < n := by omega
      have hv : b10V l k m = ((k : Int) * 37 + 11) % m := by unfold b10V; rw [if_neg h1, if_neg hk2]
      rw [hv]
      have hr0 := Int.emod_nonneg ((k : Int) * 37 + 11) hn0
      have hr1 := Int.emod_lt_of_pos ((k : Int) * 37 + 11) (show 0 < m by omega)
      have w1 : IntKind.i64.wrap ((k : Int) * 37) = (k : Int) * 37 := IntWalk.i64_in _ (by omega)
      have w2 : IntKind.i64.wrap ((k : Int) * 37 + 11) = (k : Int) * 37 + 11 := IntWalk.i64_in _ (by omega)
      have wr : IntKind.i64.wrap (((k : Int) * 37 + 11).tmod m) = ((k : Int) * 37 + 11) % m := by rw [Int.tmod_eq_emod_of_nonneg (by omega)]; exact IntWalk.i64_in _ (by omega)
      clear h hn hv hk2
      go_enter Try.func29, Try.ntmps29
      go_wp2
      go_ret
      exact ⟨rfl, rfl⟩
theorem b10Long_any (a b : Option Addr) (n c m d : Nat) (w : World) :
    Calls Try.prog 24 #[.slice a n c, .slice b m d] w fun e w' => e = .returned (.bool (decide (1048576 < n) || decide (1048576 < m))) ∧ w = w' := by
  by_cases h1 : 1048576 < n
  · go_enter Try.func24, Try.ntmps24
    go_wp2
    go_ret
    exact ⟨ret_bool (by simp <;> omega), rfl⟩
  · by_cases h2 : 1048576 < m
    all_goals
      go_enter Try.func24, Try.ntmps24
      go_wp2
      go_ret
      refine ⟨ret_bool ?_, rfl⟩
      first | (rw [decide_eq_false h1, decide_eq_true h2]; rfl) | (rw [decide_eq_false h1, decide_eq_false h2]; rfl) | (rw [decide_eq_false h1, decide_eq_true h2]; simp; omega) | (rw [decide_eq_false h1, decide_eq_false h2]; simp; omega)
end Go.Proofs.Ytkfakoodejpjmaa
