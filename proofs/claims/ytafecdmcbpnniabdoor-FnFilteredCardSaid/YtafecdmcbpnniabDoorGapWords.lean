/- Words: gaps of a wave, from its ups and downs; plain lists alone. -/
import Derived.Test.YtafecdmcbpnniabDoorEdgeWords
namespace Go.Proofs.YtafecdmcbpnniabDoor
open Go.RowKit

def gapsL (u d : List Int) (k : Nat) : List Int := (List.range k).map (fun i => u.getD (i + 1) 0 - d.getD i 0)
theorem gapsL_len (u d : List Int) (k : Nat) : (gapsL u d k).length = k := by simp [gapsL]
theorem gapsL_snoc (u d : List Int) (k : Nat) (h1 : k + 1 < u.length) (h2 : k < d.length) : gapsL u d (k + 1) = gapsL u d k ++ [u[k + 1] - d[k]] := by
  simp [gapsL, List.range_succ, List.getD_eq_getElem?_getD, List.getElem?_eq_getElem h1, List.getElem?_eq_getElem h2]

/-- ups and downs take turns -/
theorem turns (s : ByteArray) (hall : s.data.toList.all lvlB = true) (k : Nat) (hk : k ≤ s.size) :
    (edgesL 49 s.data.toList k).length = (edgesL 48 s.data.toList k).length + (if prL s.data.toList k = 49 then 1 else 0) ∧ (prL s.data.toList k = 48 ∨ prL s.data.toList k = 49) := by
  induction k with
  | zero => exact ⟨rfl, Or.inl rfl⟩
  | succ n ih =>
    obtain ⟨ih1, ih2⟩ := ih (by omega)
    have hlt : n < s.size := by omega
    have hlv : (s[n].toNat : Int) = 48 ∨ (s[n].toNat : Int) = 49 := by
      have := List.all_eq_true.1 hall s[n] (by simp [ByteArray.getElem_eq_getElem_data])
      simpa [lvlB] using this
    rw [prL_succ s n hlt]
    refine ⟨?_, hlv⟩
    rcases hlv with h | h <;> rcases ih2 with g | g
    · rw [edgesL_miss 49 s n hlt (Or.inl (by omega)), edgesL_miss 48 s n hlt (Or.inr g), ih1, g, h]
    · rw [edgesL_miss 49 s n hlt (Or.inl (by omega)), edgesL_hit 48 s n hlt h (by omega), ih1, g, h]; simp
    · rw [edgesL_hit 49 s n hlt h (by omega), edgesL_miss 48 s n hlt (Or.inl (by omega)), List.length_append, ih1, g, h]; simp
    · rw [edgesL_miss 49 s n hlt (Or.inr g), edgesL_miss 48 s n hlt (Or.inl (by omega)), ih1, g, h]
theorem downs_many (s : ByteArray) (hall : s.data.toList.all lvlB = true) : (edgesL 49 s.data.toList s.size).length ≤ (edgesL 48 s.data.toList s.size).length + 1 := by
  have := (turns s hall s.size (Nat.le_refl _)).1
  split at this <;> omega
theorem edgesL_bd (to : Int) (l : List UInt8) (n : Nat) (x : Int) (h : x ∈ edgesL to l n) : 0 ≤ x ∧ x < n := by
  unfold edgesL at h
  simp only [List.mem_map, List.mem_filter, List.mem_range] at h
  obtain ⟨i, ⟨hi, _⟩, rfl⟩ := h
  omega
end Go.Proofs.YtafecdmcbpnniabDoor
