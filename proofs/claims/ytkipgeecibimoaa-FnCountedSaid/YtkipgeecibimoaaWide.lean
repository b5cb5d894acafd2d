/- Plain numbers: two words of 64 bits, and the product of two numbers out of half words. -/
import Derived.Test.YtkipgeecibimoaaWords
import Derived.IntWalk
import Derived.Laws.BitsAllLaws
namespace Go.Proofs.Ytkipgeecibimoaa
open Go.RowKit

/-- the high and the low word of a number -/
def hiW (n : Nat) : Nat := n / 18446744073709551616
def loW (n : Nat) : Nat := n % 18446744073709551616
theorem w_id (n : Nat) : n = hiW n * 18446744073709551616 + loW n := by unfold hiW loW; omega
theorem loW_lt (n : Nat) : loW n < 18446744073709551616 := by unfold loW; omega
theorem hiW_lt (n : Nat) (h : n < 340282366920938463463374607431768211456) : hiW n < 18446744073709551616 := by unfold hiW; omega

theorem mul_lt (a b A B : Nat) (ha : a ≤ A) (hb : b ≤ B) : a * b ≤ A * B := Nat.mul_le_mul ha hb

theorem wrap_nat (n : Nat) (h : n < 18446744073709551616) : IntKind.u64.wrap (n : Int) = (n : Int) := IntWalk.u64_in _ (by omega)

theorem wm (a b : Nat) (h : a * b < 18446744073709551616) : IntKind.u64.wrap ((a : Int) * (b : Int)) = ((a * b : Nat) : Int) := by
  rw [← Int.natCast_mul]; exact wrap_nat _ h
theorem wd (a : Nat) (h : a < 18446744073709551616) : IntKind.u64.wrap ((a : Int) / 4294967296) = ((a / 4294967296 : Nat) : Int) := by
  rw [show (a : Int) / 4294967296 = ((a / 4294967296 : Nat) : Int) from by omega]; exact wrap_nat _ (by omega)
theorem wam (a b : Nat) (h : a + b % 4294967296 < 18446744073709551616) : IntKind.u64.wrap ((a : Int) + (b : Int) % 4294967296) = ((a + b % 4294967296 : Nat) : Int) := by
  rw [show (a : Int) + (b : Int) % 4294967296 = ((a + b % 4294967296 : Nat) : Int) from by omega]; exact wrap_nat _ h
theorem wa (a b : Nat) (h : a + b < 18446744073709551616) : IntKind.u64.wrap ((a : Int) + (b : Int)) = ((a + b : Nat) : Int) := by
  rw [← Int.natCast_add]; exact wrap_nat _ h
theorem mul_parts (xh xl yh yl H : Nat) : (xh * H + xl) * (yh * H + yl) = xh * yh * (H * H) + (xh * yl + xl * yh) * H + xl * yl := by
  grind

theorem times_hi (A on tw lo : Nat) : (A * (4294967296 * 4294967296) + (on + tw) * 4294967296 + lo) / 18446744073709551616 = A + on / 4294967296 + tw / 4294967296 + (lo / 4294967296 + on % 4294967296 + tw % 4294967296) / 4294967296 := by omega
theorem times_lo (A on tw lo : Nat) : (A * (4294967296 * 4294967296) + (on + tw) * 4294967296 + lo) % 18446744073709551616 = ((lo / 4294967296 + on % 4294967296 + tw % 4294967296) % 4294967296) * 4294967296 + lo % 4294967296 := by omega

theorem or_low (m l : Nat) (hm : m < 4294967296) (hl : l < 4294967296) : bits .or .u64 ((m * 4294967296 : Nat) : Int) (l : Int) = ((m * 4294967296 + l : Nat) : Int) := by
  rw [u64_or_nat _ _ (by omega) (by omega)]
  have h := Nat.shiftLeft_add_eq_or_of_lt (i := 32) (b := l) (by omega) m
  rw [Nat.shiftLeft_eq] at h
  have e : (2 : Nat) ^ 32 = 4294967296 := by decide
  rw [e] at h
  rw [h]
end Go.Proofs.Ytkipgeecibimoaa
