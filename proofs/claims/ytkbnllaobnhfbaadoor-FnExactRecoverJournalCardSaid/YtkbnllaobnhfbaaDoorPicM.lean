/- A picture: the bytes of its rows. Plain mathematics. -/
import Derived.Test.YtkbnllaobnhfbaaDoorScoI
namespace Go.Proofs.YtkbnllaobnhfbaaDoor
set_option linter.unusedVariables false
def markP (m : List UInt8) (i : Nat) : UInt8 := if i < m.length then (if m.getD i 0 = 49 then 35 else 95) else 32
def marksP (m : List UInt8) (f t : Nat) : List UInt8 := (List.range t).map (fun j => markP m (f + j))
def rowP (x m : List UInt8) (f t : Nat) : List UInt8 := x ++ List.replicate (10 - x.length) 32 ++ marksP m f t ++ [10]
def picP (ls ms : List ByteArray) (f t : Nat) : Nat → List UInt8
  | 0 => []
  | k + 1 => picP ls ms f t k ++ rowP (ls.getD k ByteArray.empty).data.toList (ms.getD k ByteArray.empty).data.toList f t
theorem marksP_succ (m : List UInt8) (f t : Nat) : marksP m f (t + 1) = marksP m f t ++ [markP m (f + t)] := by simp [marksP, List.range_succ]
theorem marksP_len (m : List UInt8) (f t : Nat) : (marksP m f t).length = t := by simp [marksP]
theorem name_len {l : List UInt8} (h : nameB l = true) : 1 ≤ l.length ∧ l.length ≤ 10 := by
  unfold nameB at h
  rw [Bool.and_eq_true] at h
  have := of_decide_eq_true h.2
  omega
theorem wave_len {l : List UInt8} (h : waveB l = true) : l.length ≤ 400 := by
  unfold waveB at h
  rw [Bool.and_eq_true] at h
  have := of_decide_eq_true h.2
  omega
theorem sc_ok {ls ms : List ByteArray} (h : scB ls ms = true) : (ls.length ≤ 6 ∧ ms.length = ls.length) ∧ ∀ k, k < ls.length → nameB (ls.getD k ByteArray.empty).data.toList = true ∧ waveB (ms.getD k ByteArray.empty).data.toList = true := by
  unfold scB at h
  rw [Bool.and_eq_true] at h
  refine ⟨of_decide_eq_true h.1, fun k hk => ?_⟩
  have := rngS_at h.2 k hk
  unfold okS at this
  simp only [Bool.and_eq_true] at this
  exact ⟨this.1, this.2.2⟩
theorem rowP_len (x m : List UInt8) (f t : Nat) (h : x.length ≤ 10) : (rowP x m f t).length = t + 11 := by
  simp only [rowP, List.length_append, List.length_replicate, marksP_len, List.length_cons, List.length_nil]; omega
theorem picP_len {ls ms : List ByteArray} (h : scB ls ms = true) (f t : Nat) : ∀ k, k ≤ ls.length → (picP ls ms f t k).length = k * (t + 11)
  | 0, _ => by simp [picP]
  | k + 1, hk => by
    rw [picP, List.length_append, picP_len h f t k (by omega), rowP_len _ _ _ _ (name_len ((sc_ok h).2 k (by omega)).1).2, Nat.add_mul, Nat.one_mul]
theorem picP_bd {ls ms : List ByteArray} (h : scB ls ms = true) (f t : Nat) (ht : t ≤ 100) (k : Nat) (hk : k ≤ ls.length) : (picP ls ms f t k).length ≤ 6 * 111 := by
  rw [picP_len h f t k hk]
  exact Nat.mul_le_mul (Nat.le_trans hk (sc_ok h).1.1) (by omega)
/-- the row as it grows -/
theorem padP (x : List UInt8) (j : Nat) : List.replicate (j + 1) (32 : UInt8) = List.replicate j 32 ++ [32] := List.replicate_succ'
end Go.Proofs.YtkbnllaobnhfbaaDoor
