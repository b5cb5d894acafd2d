/- Levels told tick by tick: lists of levels out of a rule, gates, resets, switches. Plain mathematics. -/
import Derived.Test.YtemjohkieehojaaDoorWords
namespace Go.Proofs.YtemjohkieehojaaDoor
open Go.RowKit
set_option linter.unusedVariables false

/-- is the level of a text at a tick 1? -/
def bit (s : ByteArray) (k : Nat) : Bool := ((s.data.toList.getD k 0).toNat : Int) == 49
def lvU (b : Bool) : UInt8 := if b then 49 else 48
/-- the levels that a rule tells for the first n ticks -/
def outL (f : Nat → Bool) (n : Nat) : List UInt8 := (List.range n).map (fun k => lvU (f k))
theorem outL_snoc (f : Nat → Bool) (k : Nat) : outL f (k + 1) = outL f k ++ [lvU (f k)] := by simp [outL, List.range_succ]
theorem outL_len (f : Nat → Bool) (n : Nat) : (outL f n).length = n := by simp [outL]
theorem outL_congr {f g : Nat → Bool} {n : Nat} (h : ∀ k, k < n → f k = g k) : outL f n = outL g n := by
  unfold outL; exact List.map_congr_left (fun k hk => by rw [h k (by simpa using hk)])
theorem outL_inj {f g : Nat → Bool} {n : Nat} (h : outL f n = outL g n) : ∀ k, k < n → f k = g k := by
  intro k hk
  have e : (outL f n)[k]? = (outL g n)[k]? := by rw [h]
  simp [outL, hk] at e
  revert e
  cases f k <;> cases g k <;> decide
theorem get_toList (s : ByteArray) (k : Nat) (h : k < s.size) : s.data.toList.getD k 0 = s[k] := by
  rw [List.getD_eq_getElem?_getD, List.getElem?_eq_getElem (by simpa using h)]
  rfl
theorem bit_at (s : ByteArray) (k : Nat) (h : k < s.size) : ((s[k].toNat : Int) == 49) = bit s k := by
  unfold bit; rw [get_toList s k h]
theorem wave_at {s : ByteArray} (hw : waveB s.data.toList = true) (k : Nat) (h : k < s.size) : (s[k].toNat : Int) = if bit s k then 49 else 48 := by
  have hall : s.data.toList.all lvlB = true := by unfold waveB at hw; exact (Bool.and_eq_true_iff.1 hw).1
  have := List.all_eq_true.1 hall s[k] (by simp [ByteArray.getElem_eq_getElem_data])
  have h2 : (s[k].toNat : Int) = 48 ∨ (s[k].toNat : Int) = 49 := by simpa [lvlB] using this
  rw [← bit_at s k h]
  rcases h2 with e | e <;> simp [e]
theorem wave_u {s : ByteArray} (hw : waveB s.data.toList = true) (k : Nat) (h : k < s.size) : s[k] = lvU (bit s k) := by
  have := wave_at hw k h
  apply UInt8.toNat_inj.1
  unfold lvU
  cases hb : bit s k <;> rw [hb] at this <;> simp at this ⊢ <;> omega
theorem wave_le {s : ByteArray} (hw : waveB s.data.toList = true) : s.size ≤ 400 := by
  unfold waveB at hw
  have := (Bool.and_eq_true_iff.1 hw).2
  rw [size_toList] at this
  have h3 : (s.size : Int) ≤ 400 := by simpa using this
  omega
theorem outL_wave (f : Nat → Bool) (n : Nat) (hn : n ≤ 400) : waveB (outL f n) = true := by
  unfold waveB
  rw [outL_len]
  have : (outL f n).all lvlB = true := by
    rw [List.all_eq_true]
    intro x hx
    simp [outL] at hx
    obtain ⟨k, _, rfl⟩ := hx
    unfold lvU
    cases f k <;> decide
  rw [this, decide_eq_true (show (n : Int) ≤ 400 by omega)]
  rfl
/-- the text of levels -/
def outS (f : Nat → Bool) (n : Nat) : ByteArray := ⟨(outL f n).toArray⟩
theorem outS_list (f : Nat → Bool) (n : Nat) : (outS f n).data.toList = outL f n := by simp [outS]
theorem outS_size (f : Nat → Bool) (n : Nat) : (outS f n).size = n := by
  have : (outS f n).data.toList.length = n := by rw [outS_list, outL_len]
  rw [size_toList] at this
  exact this
theorem outS_wave (f : Nat → Bool) (n : Nat) (hn : n ≤ 400) : waveB (outS f n).data.toList = true := by rw [outS_list]; exact outL_wave f n hn
theorem outS_bit (f : Nat → Bool) (n k : Nat) (h : k < n) : bit (outS f n) k = f k := by
  have e : (outS f n).data.toList.getD k 0 = lvU (f k) := by rw [outS_list]; simp [outL, h]
  unfold bit
  rw [e]
  cases f k <;> decide
theorem outS_congr {f g : Nat → Bool} {n : Nat} (h : ∀ k, k < n → f k = g k) : outS f n = outS g n := by unfold outS; rw [outL_congr h]
/-- a wave is told by its own bits -/
theorem wave_out {s : ByteArray} (hw : waveB s.data.toList = true) : s = outS (bit s) s.size := by
  have : s.data.toList = outL (bit s) s.size := by
    apply List.ext_getElem
    · simp [outL_len]
    · intro k h1 h2
      have hk : k < s.size := by simpa using h1
      have e1 : s.data.toList[k] = s[k] := rfl
      rw [e1, wave_u hw k hk]
      simp [outL]
  cases s with
  | mk d =>
    unfold outS
    congr 1
    have h2 : d.toList.toArray = (outL (bit ⟨d⟩) d.size).toArray := by rw [show d.toList = _ from this]; rfl
    have h3 : d = (outL (bit ⟨d⟩) d.size).toArray := by simpa using h2
    exact h3

/-! gates -/
def gst (w e : ByteArray) : Nat → Bool
  | 0 => bit e 0
  | k + 1 => if bit w k then gst w e k else bit e k
def gateF (w e : ByteArray) (k : Nat) : Bool := bit w k && gst w e (k + 1)

/-! resets -/
def upB (w : ByteArray) (k : Nat) : Bool := bit w k && !(decide (0 < k) && bit w (k - 1))
def rst (w r : ByteArray) (st : Nat) : Nat → Nat
  | 0 => st
  | k + 1 => if bit r k then st else if upB w k && decide (0 < rst w r st k) then rst w r st k - 1 else rst w r st k
def resetF (w r : ByteArray) (st k : Nat) : Bool := decide (0 < rst w r st (k + 1))
theorem rst_le (w r : ByteArray) (st k : Nat) : rst w r st k ≤ st := by
  induction k with
  | zero => exact Nat.le_refl _
  | succ k ih =>
    simp only [rst]
    split
    · exact Nat.le_refl _
    · split <;> omega

/-! switches -/
structure Sw where
  e0 : Bool
  e1 : Bool
  q0 : List Bool
  q1 : List Bool
def dnB (w : ByteArray) (k : Nat) : Bool := !bit w k && (decide (0 < k) && bit w (k - 1))
def usedB (n : Nat) (q : List Bool) (wish : Bool) : Bool := (wish :: q).getD n false
def pushQ (q : List Bool) (wish : Bool) : List Bool := (wish :: q).take 6
def swA (n : Nat) (a c : ByteArray) (k : Nat) (s : Sw) : Sw :=
  if dnB a k then { s with e0 := usedB n s.q0 (!bit c k && !s.e1) && !s.e1, q0 := pushQ s.q0 (!bit c k && !s.e1) } else s
def swB (n : Nat) (b c : ByteArray) (k : Nat) (s : Sw) : Sw :=
  if dnB b k then { s with e1 := usedB n s.q1 (bit c k && !s.e0) && !s.e0, q1 := pushQ s.q1 (bit c k && !s.e0) } else s
def sw0 (first : Bool) : Sw := ⟨!first, first, List.replicate 6 (!first), List.replicate 6 first⟩
def swAt (n : Nat) (first : Bool) (a b c : ByteArray) : Nat → Sw
  | 0 => sw0 first
  | k + 1 => swB n b c k (swA n a c k (swAt n first a b c k))
theorem pushQ_len (q : List Bool) (x : Bool) (h : q.length = 6) : (pushQ q x).length = 6 := by simp [pushQ, h]
theorem swA_len (n : Nat) (a c : ByteArray) (k : Nat) (s : Sw) (h0 : s.q0.length = 6) (h1 : s.q1.length = 6) : (swA n a c k s).q0.length = 6 ∧ (swA n a c k s).q1.length = 6 := by
  unfold swA
  split
  · exact ⟨pushQ_len _ _ h0, h1⟩
  · exact ⟨h0, h1⟩
theorem swB_len (n : Nat) (a c : ByteArray) (k : Nat) (s : Sw) (h0 : s.q0.length = 6) (h1 : s.q1.length = 6) : (swB n a c k s).q0.length = 6 ∧ (swB n a c k s).q1.length = 6 := by
  unfold swB
  split
  · exact ⟨h0, pushQ_len _ _ h1⟩
  · exact ⟨h0, h1⟩
theorem swAt_len (n : Nat) (first : Bool) (a b c : ByteArray) (k : Nat) : (swAt n first a b c k).q0.length = 6 ∧ (swAt n first a b c k).q1.length = 6 := by
  induction k with
  | zero => exact ⟨rfl, rfl⟩
  | succ k ih =>
    obtain ⟨h0, h1⟩ := swA_len n a c k _ ih.1 ih.2
    exact swB_len n b c k _ h0 h1
def en0 (n : Nat) (first : Bool) (a b c : ByteArray) (k : Nat) : Bool := (swAt n first a b c (k + 1)).e0
def en1 (n : Nat) (first : Bool) (a b c : ByteArray) (k : Nat) : Bool := (swAt n first a b c (k + 1)).e1
end Go.Proofs.YtemjohkieehojaaDoor
