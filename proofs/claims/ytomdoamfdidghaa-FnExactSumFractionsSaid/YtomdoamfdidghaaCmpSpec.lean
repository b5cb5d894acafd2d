/- The comparison of two fractions, on the side of the model. -/
import Derived.Test.YtomdoamfdidghaaCmpImpl
import Derived.Test.YtomdoamfdidghaaTimes
import Derived.Test.YtomdoamfdidghaaKept
import Derived.Deep.RegionHeld3
namespace Go.Proofs.Ytomdoamfdidghaa
open Go.RowKit
set_option linter.unusedVariables false

theorem less_raw (a b c d : Nat) (w : World) :
    Calls Try.prog 52 #[.agg #[.int .u64 a, .int .u64 b], .agg #[.int .u64 c, .int .u64 d]] w fun e w' => e = .returned (.bool (decide (a < c ∨ (a = c ∧ b < d)))) ∧ Below w.heap.size w w' := by
  by_cases h : a < c
  · have h1 : decide ((a : Int) < c) = true := by simp; omega
    go_enter Try.func52, Try.ntmps52
    go_wp2
    go_ret
    exact ⟨by simp [h], ((Below.refl _ _).alloc (Nat.le_refl _) _).alloc (by simp) _⟩
  · have h1 : decide ((a : Int) < c) = false := by simp; omega
    by_cases h' : a = c
    · have h2 : ((a : Int) == c) = true := by simp; omega
      go_enter Try.func52, Try.ntmps52
      go_wp2
      go_ret
      exact ⟨by simp [h'], ((Below.refl _ _).alloc (Nat.le_refl _) _).alloc (by simp) _⟩
    · have h2 : ((a : Int) == c) = false := by simp; omega
      go_enter Try.func52, Try.ntmps52
      go_wp2
      go_ret
      exact ⟨by simp [h, h'], ((Below.refl _ _).alloc (Nat.le_refl _) _).alloc (by simp) _⟩
theorem less_any (A B : Nat) (r : Bool) (w : World) (h : decide (A < B) = r) :
    Calls Try.prog 52 #[.agg #[.int .u64 (hiW A), .int .u64 (loW A)], .agg #[.int .u64 (hiW B), .int .u64 (loW B)]] w fun e w' => e = .returned (.bool r) ∧ Below w.heap.size w w' := by
  have h : decide (hiW A < hiW B ∨ (hiW A = hiW B ∧ loW A < loW B)) = r := by
    rw [← h, decide_eq_decide]; unfold hiW loW; omega
  rw [← h]
  exact less_raw _ _ _ _ w

/-- the comparison in words: of numbers with the sizes A, B of the products -/
def cmpV (s t : Bool) (A B : Nat) : Int :=
  if s != t then (if s then -1 else 1) else (if A < B then (if s then 1 else -1) else if B < A then (if s then -1 else 1) else 0)

theorem cell_alloc_other {W : World} {a : Addr} {v : Value} {o o' : Obj} (h : (W.alloc o').cell? a = some v) (hlt : a.block < W.heap.size) : (W.alloc o).cell? a = some v := by
  have e : W.cell? a = some v := (((Below.refl W.heap.size W).alloc (Nat.le_refl _) o').cell (p := a) hlt).symm.trans h
  exact cell_alloc_kept e
theorem gen_end {K : Act → World → Prop} {Q : Exit → Act → World → Prop} {E : Exit} {A : Act} (W0 : World) (F : World → Prop) (h0 : F W0) (k : ∀ W, F W → Exit.then K Q E A W) : Exit.then K Q E A W0 := k W0 h0
theorem below_dr1 {B : Nat} {a w : World} (h : Below B a w) : Below B a w.drew := ⟨h.os, h.tape, h.output, h.size, h.block⟩
theorem meet2 {G : Prop} (X : Nat → World → Prop) (F : Nat → World → Prop) (h1 : Hid (∀ b W, F b W → X b W) → G) (h2 : ∀ b W, F b W → X b W) : G := h1 (Lib.hid h2)

theorem cmpI_mixed (n d p q : Int) (hd : 1 ≤ d) (hq : 1 ≤ q) (h : (decide (n < 0) != decide (p < 0)) = true) : (if n < 0 then (-1 : Int) else 1) = cmpI n d p q := by
  unfold cmpI addN addV ngB sgv
  by_cases hn : n < 0
  · have hp : ¬ p < 0 := by intro hp; simp [hn, hp] at h
    have hA : 0 < n.natAbs * q.natAbs := Nat.mul_pos (by omega) (by omega)
    by_cases hp0 : p = 0
    · subst hp0
      simp [hn]; omega
    · have h1 : -p < 0 := by omega
      simp only [hn, h1, decide_true, if_true]
      rw [if_neg (by omega)]
  · have hp : p < 0 := by
      by_cases hp : p < 0
      · exact hp
      · simp [hn, hp] at h
    have hB : 0 < p.natAbs * d.natAbs := Nat.mul_pos (by omega) (by omega)
    have h1 : ¬ -p < 0 := by omega
    simp only [hn, h1, decide_false, if_true, if_false]
    rw [if_neg (by omega)]
    simp
theorem cmpI_neg (n d p q : Int) (hn : n < 0) (hp : p < 0) : -(if p.natAbs * d.natAbs < n.natAbs * q.natAbs then (1 : Int) else if n.natAbs * q.natAbs < p.natAbs * d.natAbs then -1 else 0) = cmpI n d p q := by
  unfold cmpI addN addV ngB sgv
  have h1 : ¬ -p < 0 := by omega
  generalize n.natAbs * q.natAbs = a
  generalize p.natAbs * d.natAbs = b
  simp only [hn, h1, decide_true, decide_false]
  by_cases k1 : b < a
  · rw [if_pos k1]; simp [show ¬ a < b from by omega, show ¬ a - b = 0 from by omega]; try omega
  · by_cases k2 : a < b
    · rw [if_neg k1, if_pos k2]; simp [k2, show ¬ b - a = 0 from by omega]; try omega
    · rw [if_neg k1, if_neg k2]; simp [k2]; try omega
theorem cmpI_pos (n d p q : Int) (hn : ¬ n < 0) (hp : ¬ p < 0) : (if p.natAbs * d.natAbs < n.natAbs * q.natAbs then (1 : Int) else if n.natAbs * q.natAbs < p.natAbs * d.natAbs then -1 else 0) = cmpI n d p q := by
  unfold cmpI addN addV ngB sgv
  by_cases hp0 : p = 0
  · subst hp0
    simp [hn]
    generalize n.natAbs * q.natAbs = a
    by_cases k : a = 0
    · simp [k]
    · simp [k]; try omega
  · have h1 : -p < 0 := by omega
    generalize n.natAbs * q.natAbs = a
    generalize p.natAbs * d.natAbs = b
    simp only [hn, h1, decide_true, decide_false]
    by_cases k1 : b < a
    · rw [if_pos k1]; simp [show ¬ a < b from by omega, show ¬ a - b = 0 from by omega]; try omega
    · by_cases k2 : a < b
      · rw [if_neg k1, if_pos k2]; simp [k2, show ¬ b - a = 0 from by omega]; try omega
      · rw [if_neg k1, if_neg k2]; simp [k2]; try omega

theorem l01FIs_bc (n d : Int) (b : Bool) (w : World) (h : fracB n d = b) :
    Calls Try.prog 28 #[.agg #[.int .i64 n, .int .i64 d]] w fun e w' => e = .returned (.bool b) ∧ Below w.heap.size w w' := by
  rw [← h]; exact l01FIs_any n d w
theorem implValid_bc (n d : Int) (b : Bool) (w : World) (h : fracB n d = b) :
    Calls Try.prog 31 #[.agg #[.int .i64 n, .int .i64 d]] w fun e w' => e = .returned (.bool b) ∧ Below w.heap.size w w' := by
  rw [← h]; exact implValid n d w
end Go.Proofs.Ytomdoamfdidghaa
