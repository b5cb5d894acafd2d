/- Words over bits of small numbers: the operations of an int64 on naturals, reflected codes, ripples, shifts, parities. Nothing of the program is imported. -/
import Derived.WalkKit
import Derived.Laws.Bits64
namespace Go.Proofs.Ytkfakoodejpjmaa
open Go.RowKit

theorem wrap_i64_nat (n : Nat) (h : n < 9223372036854775808) : IntKind.i64.wrap (n : Int) = (n : Int) := by
  simp only [IntKind.wrap, IntKind.bits, IntKind.signed]; simp; omega
theorem ofInt_i64 (a : Nat) (ha : a < 9223372036854775808) : (BitVec.ofInt 64 (a : Int)).toNat = a := by
  rw [BitVec.ofInt_natCast, BitVec.toNat_ofNat]; exact Nat.mod_eq_of_lt (by omega)
theorem xor_i64 (a b : Nat) (ha : a < 9223372036854775808) (hb : b < 9223372036854775808) : bits .xor .i64 (a : Int) (b : Int) = ((a ^^^ b : Nat) : Int) := by
  have hx : a ^^^ b < 2 ^ 63 := Nat.xor_lt_two_pow (by omega) (by omega)
  show IntKind.i64.wrap ((BitVec.ofInt 64 (a : Int) ^^^ BitVec.ofInt 64 (b : Int)).toNat : Int) = _
  rw [BitVec.toNat_xor, ofInt_i64 a ha, ofInt_i64 b hb]
  exact wrap_i64_nat _ (by omega)
theorem and_i64 (a b : Nat) (ha : a < 9223372036854775808) (hb : b < 9223372036854775808) : bits .and .i64 (a : Int) (b : Int) = ((a &&& b : Nat) : Int) := by
  have hx : a &&& b ≤ a := Nat.and_le_left
  show IntKind.i64.wrap ((BitVec.ofInt 64 (a : Int) &&& BitVec.ofInt 64 (b : Int)).toNat : Int) = _
  rw [BitVec.toNat_and, ofInt_i64 a ha, ofInt_i64 b hb]
  exact wrap_i64_nat _ (by omega)
theorem or_i64 (a b : Nat) (ha : a < 9223372036854775808) (hb : b < 9223372036854775808) : bits .or .i64 (a : Int) (b : Int) = ((a ||| b : Nat) : Int) := by
  have hx : a ||| b < 2 ^ 63 := Nat.or_lt_two_pow (by omega) (by omega)
  show IntKind.i64.wrap ((BitVec.ofInt 64 (a : Int) ||| BitVec.ofInt 64 (b : Int)).toNat : Int) = _
  rw [BitVec.toNat_or, ofInt_i64 a ha, ofInt_i64 b hb]
  exact wrap_i64_nat _ (by omega)

/-- the reflected code -/
def codeN (x : Nat) : Nat := x ^^^ x / 2
/-- the loop that reads a code -/
def frN : Nat → Nat → Nat → Nat
  | 0, x, _ => x
  | f + 1, x, c => if c = 0 then x else frN f (x ^^^ c) (c / 2)
def unN (c : Nat) : Nat := frN 8 0 c
theorem frN_step (f x c : Nat) (h : 0 < c) : frN (f + 1) x c = frN f (x ^^^ c) (c / 2) := by
  show (if c = 0 then x else _) = _; rw [if_neg (by omega)]
theorem frN_zero (f x : Nat) : frN f x 0 = x := by cases f <;> simp [frN]
theorem unN_all : ((List.range 256).all fun c => decide (codeN (unN c) = c) && decide (unN c < 256) && decide (codeN c < 256) && decide (unN (codeN c) = c)) = true := by decide +kernel
theorem unN_facts (c : Nat) (h : c < 256) : codeN (unN c) = c ∧ unN c < 256 ∧ codeN c < 256 ∧ unN (codeN c) = c := by
  have := List.all_eq_true.1 unN_all c (List.mem_range.2 h)
  simp at this; omega

/-- the states of a ripple: so many places left, from the place i on, behind x -/
def ripGo : Nat → Nat → Nat → List Nat
  | 0, _, _ => []
  | f + 1, i, x => (x ^^^ 2 ^ i) :: (if (x ^^^ 2 ^ i) / 2 ^ i % 2 = 1 then [] else ripGo f (i + 1) (x ^^^ 2 ^ i))
def ripL (b x : Nat) : List Int := (ripGo b 0 x).map (fun y : Nat => (y : Int))
theorem ripGo_len (f i x : Nat) : (ripGo f i x).length ≤ f := by
  induction f generalizing i x with
  | zero => simp [ripGo]
  | succ f ih =>
    unfold ripGo; split
    · simp
    · have := ih (i + 1) (x ^^^ 2 ^ i); simp; omega
theorem ripGo_lt (f i x n : Nat) (hx : x < 2 ^ n) (hi : i + f ≤ n) : ∀ y ∈ ripGo f i x, y < 2 ^ n := by
  induction f generalizing i x with
  | zero => simp [ripGo]
  | succ f ih =>
    have h1 : x ^^^ 2 ^ i < 2 ^ n := Nat.xor_lt_two_pow hx (Nat.pow_lt_pow_right (by omega) (by omega))
    intro y hy
    unfold ripGo at hy
    simp only [List.mem_cons] at hy
    rcases hy with rfl | hy
    · exact h1
    · split at hy
      · simp at hy
      · exact ih (i + 1) _ h1 (by omega) y hy
/-- the loop's state: what is collected, with what is left, is the whole -/
theorem rip_next (f i x : Nat) (h : (x ^^^ 2 ^ i) / 2 ^ i % 2 ≠ 1) : ripGo (f + 1) i x = (x ^^^ 2 ^ i) :: ripGo f (i + 1) (x ^^^ 2 ^ i) := by
  show _ :: _ = _; rw [if_neg h]
theorem rip_stop (f i x : Nat) (h : (x ^^^ 2 ^ i) / 2 ^ i % 2 = 1) : ripGo (f + 1) i x = [x ^^^ 2 ^ i] := by
  show _ :: _ = _; rw [if_pos h]
theorem xor_lt8 (x i : Nat) (hx : x < 256) (hi : i < 8) : x ^^^ 2 ^ i < 256 :=
  Nat.xor_lt_two_pow (n := 8) hx (by have : 2 ^ i < 2 ^ 8 := Nat.pow_lt_pow_right (by omega) hi; omega)

/-- how many bits are 1 -/
def popN : Nat → Nat → Nat
  | 0, _ => 0
  | f + 1, x => x % 2 + popN f (x / 2)
def onesN (x : Nat) : Nat := popN 8 x
theorem popN_zero (f : Nat) : popN f 0 = 0 := by induction f with
  | zero => rfl
  | succ f ih => simp [popN, ih]
theorem popN_le (f x : Nat) : popN f x ≤ f := by
  induction f generalizing x with
  | zero => simp [popN]
  | succ f ih => have := ih (x / 2); simp only [popN]; omega

/-- the states that follow, of b bits -/
def sz (b : Nat) : Nat := 2 ^ b
def nxBin (m s : Nat) : Nat := if s + 1 < m then s + 1 else 0
def nxRef (b s : Nat) : Nat := codeN ((unN s + 1) % 2 ^ b)
def mvN (b s i : Nat) : Nat := (s * 2 ||| i) % 2 ^ b
def topN (b s : Nat) : Nat := s / 2 ^ (b - 1)
def nextL (b : Nat) (f : Nat → Nat) : List Int := (List.range (2 ^ b)).map (fun s : Nat => (f s : Int))
theorem ref_all : ((List.range 9).all fun b => (List.range (2 ^ b)).all fun s => decide (codeN s < 2 ^ b) && decide (unN s < 2 ^ b)) = true := by decide +kernel
theorem ref_facts (b s : Nat) (hb : b ≤ 8) (hs : s < 2 ^ b) : codeN s < 2 ^ b ∧ unN s < 2 ^ b := by
  have := List.all_eq_true.1 (List.all_eq_true.1 ref_all b (List.mem_range.2 (by omega))) s (List.mem_range.2 hs)
  simp at this; omega
theorem mv_all : ((List.range 9).all fun b => (List.range (2 ^ b)).all fun s => (List.range 2).all fun i =>
    decide ((s * 2 &&& (2 ^ b - 1)) ||| i = mvN b s i ∨ b = 0) && decide (topN b s &&& 1 = topN b s ∨ b = 0) && decide (topN b s < 2 ∨ b = 0) && decide (mvN b s i < 2 ^ b)) = true := by decide +kernel
theorem mv_facts (b s i : Nat) (hb0 : 1 ≤ b) (hb : b ≤ 8) (hs : s < 2 ^ b) (hi : i < 2) : (s * 2 &&& (2 ^ b - 1)) ||| i = mvN b s i ∧ topN b s &&& 1 = topN b s ∧ topN b s < 2 ∧ mvN b s i < 2 ^ b := by
  have := List.all_eq_true.1 (List.all_eq_true.1 (List.all_eq_true.1 mv_all b (List.mem_range.2 (by omega))) s (List.mem_range.2 hs)) i (List.mem_range.2 hi)
  simp only [Bool.and_eq_true, decide_eq_true_eq] at this; omega
end Go.Proofs.Ytkfakoodejpjmaa
