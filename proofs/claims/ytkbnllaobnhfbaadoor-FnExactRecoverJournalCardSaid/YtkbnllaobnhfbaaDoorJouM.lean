/- The journal of lines: its bytes and its check numbers. Plain mathematics. -/
import Derived.Test.YtkbnllaobnhfbaaDoorCheckOfWalk
import Derived.Test.YtkbnllaobnhfbaaDoorDecMath
import Derived.Lib.Bytealg
namespace Go.Proofs.YtkbnllaobnhfbaaDoor
open Go.Lib
set_option linter.unusedVariables false
def entL (c : Int) (l : List UInt8) : List UInt8 := itoa (checkL c l) ++ [32] ++ l ++ [10]
def jC (ls : List ByteArray) : Nat → Int
  | 0 => 0
  | k + 1 => checkL (jC ls k) (ls.getD k ByteArray.empty).data.toList
def jB (ls : List ByteArray) : Nat → List UInt8
  | 0 => []
  | k + 1 => jB ls k ++ entL (jC ls k) (ls.getD k ByteArray.empty).data.toList
def jT (ls : List ByteArray) : Nat → Nat
  | 0 => 0
  | k + 1 => jT ls k + ((ls.getD k ByteArray.empty).size + 3)
def noNL (l : List UInt8) : Bool := l.all (fun b => b != 10)
def nlS (ls : List ByteArray) (k : Nat) : Bool := noNL (ls.getD k ByteArray.empty).data.toList
def okJ (ls : List ByteArray) : Bool := (List.range ls.length).all (nlS ls) && decide ((jB ls ls.length).length ≤ 4000)
theorem jC_bd (ls : List ByteArray) : ∀ k, 0 ≤ jC ls k ∧ jC ls k ≤ 64900
  | 0 => by simp [jC]
  | k + 1 => by
    obtain ⟨h0, h1⟩ := jC_bd ls k
    rw [jC]; exact checkL_bd _ _ h0 h1
theorem itoa_pos_len (n : Int) (h0 : 0 ≤ n) (h1 : n ≤ 64900) : 1 ≤ (itoa n).length ∧ (itoa n).length ≤ 5 := by
  rw [itoa_nn h0]
  exact ⟨dec_len_pos _, dec_len 4 _ (by show _ < 100000; omega)⟩
theorem entL_len (c : Int) (l : List UInt8) (h0 : 0 ≤ c) (h1 : c ≤ 64900) : l.length + 3 ≤ (entL c l).length ∧ (entL c l).length ≤ l.length + 7 := by
  obtain ⟨k0, k1⟩ := checkL_bd c l h0 h1
  obtain ⟨i0, i1⟩ := itoa_pos_len _ k0 k1
  simp only [entL, List.length_append, List.length_cons, List.length_nil]; omega
theorem jT_le (ls : List ByteArray) : ∀ k, jT ls k ≤ (jB ls k).length
  | 0 => by simp [jT, jB]
  | k + 1 => by
    have h := jT_le ls k
    obtain ⟨h0, h1⟩ := jC_bd ls k
    have h2 := (entL_len (jC ls k) (ls.getD k ByteArray.empty).data.toList h0 h1).1
    rw [show (ls.getD k ByteArray.empty).data.toList.length = (ls.getD k ByteArray.empty).size by simp] at h2
    rw [jT, jB, List.length_append]; omega
theorem jB_mono (ls : List ByteArray) (k : Nat) : ∀ d, (jB ls k).length ≤ (jB ls (k + d)).length
  | 0 => Nat.le_refl _
  | d + 1 => by
    have := jB_mono ls k d
    rw [← Nat.add_assoc, jB, List.length_append]; omega
theorem jB_le (ls : List ByteArray) {k n : Nat} (h : k ≤ n) : (jB ls k).length ≤ (jB ls n).length := by
  have := jB_mono ls k (n - k)
  rwa [show k + (n - k) = n by omega] at this
theorem jB_up (ls : List ByteArray) : ∀ k, (jB ls k).length ≤ jT ls k + 4 * k
  | 0 => by simp [jB]
  | k + 1 => by
    have h := jB_up ls k
    obtain ⟨h0, h1⟩ := jC_bd ls k
    have h2 := (entL_len (jC ls k) (ls.getD k ByteArray.empty).data.toList h0 h1).2
    rw [show (ls.getD k ByteArray.empty).data.toList.length = (ls.getD k ByteArray.empty).size by simp] at h2
    rw [jT, jB, List.length_append]; omega
theorem jT_k (ls : List ByteArray) : ∀ k, 3 * k ≤ jT ls k
  | 0 => by simp
  | k + 1 => by have := jT_k ls k; rw [jT]; omega
theorem jT_mono (ls : List ByteArray) (k : Nat) : ∀ d, jT ls k ≤ jT ls (k + d)
  | 0 => Nat.le_refl _
  | d + 1 => by
    have := jT_mono ls k d
    rw [← Nat.add_assoc, jT]; omega
theorem jT_up (ls : List ByteArray) {k n : Nat} (h : k ≤ n) : jT ls k ≤ jT ls n := by
  have := jT_mono ls k (n - k)
  rwa [show k + (n - k) = n by omega] at this
theorem ok_big {ls : List ByteArray} {k : Nat} (hk : k ≤ ls.length) (h : 4000 < (jB ls k).length) : okJ ls = false := by
  have := jB_le ls hk
  unfold okJ
  rw [decide_eq_false (by omega), Bool.and_false]
theorem ok_tot {ls : List ByteArray} {k : Nat} (hk : k ≤ ls.length) (h : 4000 < jT ls k) : okJ ls = false := ok_big hk (Nat.lt_of_lt_of_le h (jT_le ls k))
theorem ok_nl {ls : List ByteArray} {k : Nat} (hk : k < ls.length) (h : nlS ls k = false) : okJ ls = false := by
  unfold okJ
  have : (List.range ls.length).all (nlS ls) = false := by rw [List.all_eq_false]; exact ⟨k, List.mem_range.2 hk, by simp [h]⟩
  rw [this, Bool.false_and]
theorem ok_yes {ls : List ByteArray} (h : (List.range ls.length).all (nlS ls) = true) (h2 : (jB ls ls.length).length ≤ 4000) : okJ ls = true := by
  unfold okJ; rw [h, decide_eq_true h2]; rfl
theorem nl_step (ls : List ByteArray) (k : Nat) (h0 : (List.range k).all (nlS ls) = true) (h : nlS ls k = true) : (List.range (k + 1)).all (nlS ls) = true := by
  rw [List.range_succ, List.all_append, h0]; simp [h]
theorem nl_index (l : List UInt8) : decide (0 ≤ indexByte l 10) = !noNL l := by
  induction l with
  | nil => simp [indexByte, noNL]
  | cons b l ih =>
    unfold indexByte noNL
    by_cases hb : b = 10
    · simp [hb]
    · have e1 : (b == 10) = false := beq_eq_false_iff_ne.2 hb
      have e2 : (b != 10) = true := by simp [hb]
      have h0 := indexByte_ge l 10
      rw [e1, if_neg Bool.noConfusion, List.all_cons, e2, Bool.true_and]
      unfold noNL at ih
      rw [← ih]
      by_cases h1 : indexByte l 10 = -1
      · rw [h1]; rfl
      · rw [if_neg (by simpa using h1)]
        simp only [decide_eq_decide]; omega
end Go.Proofs.YtkbnllaobnhfbaaDoor
