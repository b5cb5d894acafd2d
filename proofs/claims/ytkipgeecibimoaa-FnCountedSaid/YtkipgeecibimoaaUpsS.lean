/- How often a wave goes up from a tick to before another one, on the model's side. -/
import Derived.Test.YtkipgeecibimoaaEdgeSpec
import Derived.Test.YtkipgeecibimoaaWinF
import Derived.Test.YtkipgeecibimoaaIn64
import Derived.WalkSmall
import Derived.IntWalk
namespace Go.Proofs.Ytkipgeecibimoaa
open Go.RowKit
set_option linter.unusedVariables false
set_option linter.unusedSimpArgs false

/-- how many of the first k numbers of a list lie from a to before b -/
def cntR (a b : Int) (l : List Int) : Nat → Nat
  | 0 => 0
  | k + 1 => cntR a b l k + (if a ≤ l.getD k 0 ∧ l.getD k 0 < b then 1 else 0)
theorem cntR_le (a b : Int) (l : List Int) (k : Nat) : cntR a b l k ≤ k := by
  induction k with
  | zero => exact Nat.le_refl _
  | succ k ih => simp only [cntR]; split <;> omega
theorem cntR_congr (a b : Int) (l m : List Int) (k : Nat) (h : ∀ j, j < k → l.getD j 0 = m.getD j 0) : cntR a b l k = cntR a b m k := by
  induction k with
  | zero => rfl
  | succ k ih => rw [cntR, cntR, ih (fun j hj => h j (by omega)), h k (by omega)]
theorem up_edge {s : ByteArray} (hw : waveB s.data.toList = true) (k : Nat) (h : k < s.size) : upB s k = true ↔ ((s[k].toNat : Int) = 49 ∧ prL s.data.toList k ≠ 49) := by
  have e0 := wave_at hw k h
  have e1 : prL s.data.toList k ≠ 49 ↔ ¬ (0 < k ∧ bit s (k - 1) = true) := by
    unfold prL
    by_cases hk : k = 0
    · rw [if_pos hk]; simp; omega
    · rw [if_neg hk, lvL_get s (k - 1) (by omega), wave_at hw (k - 1) (by omega)]
      cases bit s (k - 1) <;> simp; omega
  rw [e1, e0]
  unfold upB
  cases bit s k with
  | false => simp
  | true => cases bit s (k - 1) <;> simp <;> omega
theorem cnt_edges {s : ByteArray} (hw : waveB s.data.toList = true) (a b : Nat) : ∀ n, n ≤ s.size → cntR (a : Int) (b : Int) (edgesL 49 s.data.toList n) (edgesL 49 s.data.toList n).length = cntN (upB s) a (min n b - a) := by
  intro n
  induction n with
  | zero => intro _; simp [edgesL, cntR, cntN]
  | succ n ih =>
    intro h
    have ih := ih (by omega)
    have hlt : n < s.size := by omega
    by_cases hu : upB s n = true
    · have hu2 := (up_edge hw n hlt).1 hu
      rw [edgesL_hit 49 s n hlt hu2.1 hu2.2, List.length_append, List.length_singleton, cntR]
      rw [cntR_congr _ _ _ (edgesL 49 s.data.toList n) _ (fun j hj => by rw [List.getD_eq_getElem?_getD, List.getD_eq_getElem?_getD, List.getElem?_append_left hj]), ih]
      have e : (edgesL 49 s.data.toList n ++ [(n : Int)]).getD (edgesL 49 s.data.toList n).length 0 = (n : Int) := by
        rw [List.getD_eq_getElem?_getD, List.getElem?_append_right (Nat.le_refl _)]; simp
      rw [e]
      by_cases hr : a ≤ n ∧ n < b
      · rw [if_pos (by omega), show min (n + 1) b - a = (min n b - a) + 1 by omega, cntN, show a + (min n b - a) = n by omega, if_pos hu]
      · rw [if_neg (by omega), show min (n + 1) b - a = min n b - a by omega]; rfl
    · have hm : (s[n].toNat : Int) ≠ 49 ∨ prL s.data.toList n = 49 := by
        rcases Decidable.em ((s[n].toNat : Int) = 49) with q | q
        · rcases Decidable.em (prL s.data.toList n = 49) with r | r
          · exact .inr r
          · exact absurd ((up_edge hw n hlt).2 ⟨q, r⟩) hu
        · exact .inl q
      rw [edgesL_miss 49 s n hlt hm, ih]
      by_cases hr : a ≤ n ∧ n < b
      · rw [show min (n + 1) b - a = (min n b - a) + 1 by omega, cntN, show a + (min n b - a) = n by omega, if_neg hu]; rfl
      · rw [show min (n + 1) b - a = min n b - a by omega]
theorem Ints.atU {w : World} {B n cap : Nat} {a : Option Addr} {l : List Int} (h : Ints w B (.slice a n cap) l) (k : Nat) (hk : k < l.length) :
    ∃ g, a = some ⟨g, 0, none⟩ ∧ B ≤ g ∧ g < w.heap.size ∧ w.cell? ⟨g, k, none⟩ = some (.int .i64 (l.getD k 0)) := by
  obtain ⟨a', cap', hv, _, kk⟩ := h.form
  simp only [Value.slice.injEq] at hv
  obtain ⟨rfl, -, -⟩ := hv
  obtain ⟨g, h1, h2, h3, h4, _⟩ := kk k hk
  exact ⟨g, h1, h2, h3, by rw [h4, List.getD_eq_getElem?_getD, List.getElem?_eq_getElem hk]; rfl⟩
end Go.Proofs.Ytkipgeecibimoaa
