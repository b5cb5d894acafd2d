/- Bytes that came in: a number that they choose, another way; are they too many. -/
import Derived.Test.YtafecdmcbpnniaaWords
import Derived.Test.YtafecdmcbpnniaaRows
import Derived.LoopTactic
import Derived.IntWalk
namespace Go.Proofs.Ytafecdmcbpnniaa
open Go.RowKit
set_option linter.unusedVariables false

/-- the slice at a, that came in, holds the bytes l -/
def ByteRow (w : World) (a : Option Addr) (l : List Int) : Prop := (∀ z ∈ l, 0 ≤ z ∧ z ≤ 255) ∧ (l = [] ∨ ∃ b off, a = some ⟨b, off, none⟩ ∧ b < w.heap.size ∧ ∀ k (hk : k < l.length), w.cell? ⟨b, off + k, none⟩ = some (.int .u8 l[k]))
theorem ByteRow.nil (w : World) (a : Option Addr) : ByteRow w a [] := ⟨fun z h => by simp at h, .inl rfl⟩
theorem ByteRow.keep {w w' : World} {a : Option Addr} {l : List Int} (h : ByteRow w a l) {N : Nat} (hb : Below N w w') (hN : w.heap.size ≤ N) : ByteRow w' a l := by
  obtain ⟨h0, h⟩ := h
  rcases h with h | ⟨b, off, h1, h2, h3⟩
  · exact ⟨h0, .inl h⟩
  · exact ⟨h0, .inr ⟨b, off, h1, Nat.lt_of_lt_of_le h2 hb.size, fun k hk => (hb.cell (p := ⟨b, off + k, none⟩) (Nat.lt_of_lt_of_le h2 hN)).trans (h3 k hk)⟩⟩
theorem byte_wf {z : Int} (h : (Lit.int .u8 z).wf = true) : 0 ≤ z ∧ z ≤ 255 := by
  have h1 : IntKind.u8.min ≤ z ∧ z ≤ IntKind.u8.max := by simpa [Lit.wf] using h
  have e1 : IntKind.u8.min = 0 := by decide
  have e2 : IntKind.u8.max = 255 := by decide
  rw [e1, e2] at h1; exact h1

/-- the number below m that the byte at k chooses, or k behind their end -/
def b10V (l : List Int) (k : Nat) (m : Int) : Int := if m ≤ 1 then 0 else if k < l.length then (l.getD k 0) % m else ((k : Int) * 37 + 11) % m
theorem b10V_bd (l : List Int) (k : Nat) (m : Int) (hm : 1 ≤ m) : 0 ≤ b10V l k m ∧ b10V l k m < m := by
  unfold b10V
  split
  · omega
  · split <;> exact ⟨Int.emod_nonneg _ (by omega), Int.emod_lt_of_pos _ (by omega)⟩
end Go.Proofs.Ytafecdmcbpnniaa
