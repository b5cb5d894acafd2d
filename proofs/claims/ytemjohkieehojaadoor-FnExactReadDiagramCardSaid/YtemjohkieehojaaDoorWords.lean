/- Words over lists of bytes: what the walks of this seat say of texts. Nothing of the program is imported. -/
import Derived.WalkKit
import Derived.Lib.Hide
import Derived.ShutString
namespace Go.Proofs.YtemjohkieehojaaDoor
open Go.RowKit

/-- a letter from a to z -/
def goodB (b : UInt8) : Bool := decide ((97 : Int) ≤ b.toNat ∧ (b.toNat : Int) ≤ 122)
def nameB (l : List UInt8) : Bool := l.all goodB && decide ((1 : Int) ≤ l.length ∧ (l.length : Int) ≤ 10)
/-- a level -/
def lvlB (b : UInt8) : Bool := decide ((b.toNat : Int) = 48 ∨ (b.toNat : Int) = 49)
def waveB (l : List UInt8) : Bool := l.all lvlB && decide ((l.length : Int) ≤ 400)

theorem take_snoc (s : ByteArray) (k : Nat) (h : k < s.size) : s.data.toList.take (k + 1) = s.data.toList.take k ++ [s[k]] := by
  rw [List.take_succ_eq_append_getElem (by simpa using h)]; rfl

theorem all_step (p : UInt8 → Bool) (s : ByteArray) (k : Nat) (h : k < s.size) (ha : (s.data.toList.take k).all p = true) (hb : p s[k] = true) : (s.data.toList.take (k + 1)).all p = true := by
  rw [take_snoc s k h]; simp [ha, hb]

theorem all_not (p : UInt8 → Bool) (s : ByteArray) (k : Nat) (h : k < s.size) (hb : p s[k] = false) : s.data.toList.all p = false := by
  rw [List.all_eq_false]
  exact ⟨s[k], by simp [ByteArray.getElem_eq_getElem_data], by simp [hb]⟩

theorem take_all (s : ByteArray) (k : Nat) (h : s.size ≤ k) : s.data.toList.take k = s.data.toList := by
  rw [List.take_of_length_le (by simp; omega)]

theorem size_toList (s : ByteArray) : s.data.toList.length = s.size := by simp

theorem name_bad (s : ByteArray) (k : Nat) (h : k < s.size) (hb : ¬ ((97 : Int) ≤ s[k].toNat ∧ (s[k].toNat : Int) ≤ 122)) : nameB s.data.toList = false := by
  unfold nameB; rw [all_not goodB s k h (by simp only [goodB, decide_eq_false_iff_not]; exact hb)]; rfl
theorem name_long (s : ByteArray) (hb : ¬ ((1 : Int) ≤ s.size ∧ (s.size : Int) ≤ 10)) : nameB s.data.toList = false := by
  unfold nameB; rw [size_toList, decide_eq_false hb, Bool.and_false]
theorem name_end (s : ByteArray) (k : Nat) (h : s.size ≤ k) (ha : (s.data.toList.take k).all goodB = true) : nameB s.data.toList = decide ((1 : Int) ≤ s.size ∧ (s.size : Int) ≤ 10) := by
  rw [take_all s k h] at ha
  unfold nameB; rw [ha, size_toList, Bool.true_and]
theorem good_mk (s : ByteArray) (k : Nat) (h : k < s.size) (h1 : (97 : Int) ≤ s[k].toNat) (h2 : (s[k].toNat : Int) ≤ 122) (ha : (s.data.toList.take k).all goodB = true) : (s.data.toList.take (k + 1)).all goodB = true :=
  all_step goodB s k h ha (by simp only [goodB, decide_eq_true_eq]; exact ⟨h1, h2⟩)

theorem wave_bad (s : ByteArray) (k : Nat) (h : k < s.size) (hb : ¬ ((s[k].toNat : Int) = 48 ∨ (s[k].toNat : Int) = 49)) : waveB s.data.toList = false := by
  unfold waveB; rw [all_not lvlB s k h (by simp only [lvlB, decide_eq_false_iff_not]; exact hb)]; rfl
theorem wave_long (s : ByteArray) (hb : ¬ ((s.size : Int) ≤ 400)) : waveB s.data.toList = false := by
  unfold waveB; rw [size_toList, decide_eq_false hb, Bool.and_false]
theorem wave_end (s : ByteArray) (k : Nat) (h : s.size ≤ k) (ha : (s.data.toList.take k).all lvlB = true) : waveB s.data.toList = decide ((s.size : Int) ≤ 400) := by
  rw [take_all s k h] at ha
  unfold waveB; rw [ha, size_toList, Bool.true_and]
theorem lvl_mk (s : ByteArray) (k : Nat) (h : k < s.size) (h1 : (s[k].toNat : Int) = 48 ∨ (s[k].toNat : Int) = 49) (ha : (s.data.toList.take k).all lvlB = true) : (s.data.toList.take (k + 1)).all lvlB = true :=
  all_step lvlB s k h ha (by simp only [lvlB, decide_eq_true_eq]; exact h1)

theorem bcell {W w1 : World} (hb : Below W.heap.size W w1) : (∀ b o, b < W.heap.size → w1.cell? ⟨b, o, none⟩ = W.cell? ⟨b, o, none⟩) ∧ (∀ b o, b < W.heap.size → w1.frozen? ⟨b, o, none⟩ = W.frozen? ⟨b, o, none⟩) :=
  ⟨fun b o h => hb.cell (p := ⟨b, o, none⟩) h, fun b o h => hb.frozen (p := ⟨b, o, none⟩) h⟩
theorem ret_int {k : IntKind} {a b : Int} (h : a = b) : Ending.returned (.int k a) = .returned (.int k b) := by rw [h]
theorem ret_bool {a b : Bool} (h : a = b) : Ending.returned (.bool a) = .returned (.bool b) := by rw [h]
end Go.Proofs.YtemjohkieehojaaDoor
