/- Contracts: is a number in a list, on both sides. -/
import Derived.Test.YtemjohkieehojaaDoorInts
namespace Go.Proofs.YtemjohkieehojaaDoor
open Go.RowKit

/-- the slice at a holds the numbers l -/
def RowAt (w : World) (a : Option Addr) (l : List Int) : Prop := ∀ k (hk : k < l.length), ∃ g, a = some ⟨g, 0, none⟩ ∧ w.cell? ⟨g, k, none⟩ = some (.int .i64 l[k])
theorem Ints.row {w : World} {B n cap : Nat} {a : Option Addr} {l : List Int} (h : Ints w B (.slice a n cap) l) : RowAt w a l ∧ l.length ≤ maxLen ∧ (l ≠ [] → n ≤ cap) ∧ n = l.length := by
  obtain ⟨a', cap', hv, hm, hk⟩ := h.form
  simp only [Value.slice.injEq] at hv
  obtain ⟨rfl, rfl, rfl⟩ := hv
  refine ⟨fun k hlt => ?_, hm, fun hne => ?_, rfl⟩
  · obtain ⟨g, h1, _, _, h2, _⟩ := hk k hlt
    exact ⟨g, h1, h2⟩
  · rcases h with ⟨_, ⟨h1, h2⟩ | ⟨g, cap1, cur, hv, _, _, hc, _⟩⟩
    · exact absurd (List.length_eq_zero_iff.1 h2) hne
    · simp only [Value.slice.injEq] at hv
      omega
theorem RowAt.prefix {w : World} {a : Option Addr} {l : List Int} (h : RowAt w a l) : RowAt w a l.dropLast := fun k hk => by
  rw [List.length_dropLast] at hk
  obtain ⟨g, h1, h2⟩ := h k (by omega)
  exact ⟨g, h1, by rw [List.getElem_dropLast]; exact h2⟩
def hasB (l : List Int) (x : Int) : Bool := l.contains x
theorem has_hit (l : List Int) (x : Int) (k : Nat) (hk : k < l.length) (h : l[k] = x) : hasB l x = true := by
  unfold hasB; rw [List.contains_iff_mem, ← h]; exact List.getElem_mem hk
theorem has_step (l : List Int) (x : Int) (k : Nat) (hk : k < l.length) (h0 : hasB (l.take k) x = false) (h : l[k] ≠ x) : hasB (l.take (k + 1)) x = false := by
  unfold hasB at *; rw [List.take_succ_eq_append_getElem hk, List.contains_append, h0]
  simp; exact fun e => h e.symm
theorem has_end (l : List Int) (x : Int) (k : Nat) (hk : l.length ≤ k) (h0 : hasB (l.take k) x = false) : hasB l x = false := by
  rw [List.take_of_length_le hk] at h0; exact h0

end Go.Proofs.YtemjohkieehojaaDoor
