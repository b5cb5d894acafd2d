/- Contracts: how many bits are 1, on both sides. -/
import Derived.Test.YtomdoamfdidghabBits
import Derived.Test.YtomdoamfdidghabWords
import Derived.Test.YtomdoamfdidghabRows
import Derived.LoopTactic
import Derived.Laws.BitsAllLaws
namespace Go.Proofs.Ytomdoamfdidghab
open Go.RowKit

def oa (x : Nat) : Nat := x / 2 &&& 6148914691236517205
def ob (x : Nat) : Nat := x &&& 6148914691236517205
def oc (x : Nat) : Nat := (oa x + ob x) / 4 &&& 3689348814741910323
def od (x : Nat) : Nat := (oa x + ob x) &&& 3689348814741910323
def oe (x : Nat) : Nat := ((oc x + od x) / 16 + (oc x + od x)) &&& 1085102592571150095
theorem ones_all : ((List.range 256).all fun x => decide (oa x ≤ 255) && decide (ob x ≤ 255) && decide (oc x ≤ 255) && decide (od x ≤ 255) && decide (oe x ≤ 8) && decide (oe x &&& 127 = onesN x) && decide (onesN x ≤ 8)) = true := by decide +kernel
theorem ones_facts (x : Nat) (h : x < 256) : oa x ≤ 255 ∧ ob x ≤ 255 ∧ oc x ≤ 255 ∧ od x ≤ 255 ∧ oe x ≤ 8 ∧ oe x &&& 127 = onesN x ∧ onesN x ≤ 8 := by
  have := List.all_eq_true.1 ones_all x (List.mem_range.2 h)
  simp only [Bool.and_eq_true, decide_eq_true_eq] at this; omega

theorem onesCount_nat (x : Nat) (w : World) (h : x < 256) :
    Calls Try.prog 38 #[.int .u64 (x : Int)] w fun e w' => e = .returned (.int .i64 (onesN x : Int)) ∧ w = w' := by
  obtain ⟨f1, f2, f3, f4, f5, f6, f7⟩ := ones_facts x h
  have e1 : bits .and .u64 ((x : Int) / 2) 6148914691236517205 = (oa x : Int) := by
    rw [show ((x : Int) / 2) = ((x / 2 : Nat) : Int) from by omega, show (6148914691236517205 : Int) = ((6148914691236517205 : Nat) : Int) from rfl, u64_and_nat _ _ (by omega) (by omega)]; rfl
  have e2 : bits .and .u64 (x : Int) 6148914691236517205 = (ob x : Int) := by
    rw [show (6148914691236517205 : Int) = ((6148914691236517205 : Nat) : Int) from rfl, u64_and_nat _ _ (by omega) (by omega)]; rfl
  have e3 : (oa x : Int) + (ob x : Int) = ((oa x + ob x : Nat) : Int) := by omega
  have e4 : bits .and .u64 (((oa x + ob x : Nat) : Int) / 4) 3689348814741910323 = (oc x : Int) := by
    rw [show (((oa x + ob x : Nat) : Int) / 4) = (((oa x + ob x) / 4 : Nat) : Int) from by omega, show (3689348814741910323 : Int) = ((3689348814741910323 : Nat) : Int) from rfl, u64_and_nat _ _ (by omega) (by omega)]; rfl
  have e5 : bits .and .u64 ((oa x + ob x : Nat) : Int) 3689348814741910323 = (od x : Int) := by
    rw [show (3689348814741910323 : Int) = ((3689348814741910323 : Nat) : Int) from rfl, u64_and_nat _ _ (by omega) (by omega)]; rfl
  have e6 : (oc x : Int) + (od x : Int) = ((oc x + od x : Nat) : Int) := by omega
  have e7 : ((oc x + od x : Nat) : Int) / 16 + ((oc x + od x : Nat) : Int) = (((oc x + od x) / 16 + (oc x + od x) : Nat) : Int) := by omega
  have e8 : bits .and .u64 (((oc x + od x) / 16 + (oc x + od x) : Nat) : Int) 1085102592571150095 = (oe x : Int) := by
    rw [show (1085102592571150095 : Int) = ((1085102592571150095 : Nat) : Int) from rfl, u64_and_nat _ _ (by omega) (by omega)]; rfl
  have e9 : bits .and .i64 (oe x : Int) 127 = (onesN x : Int) := by
    rw [show (127 : Int) = ((127 : Nat) : Int) from rfl, and_i64 _ _ (by omega) (by omega), f6]
  have d1 : (oe x : Int) / 256 = 0 := by omega
  have d2 : (oe x : Int) / 65536 = 0 := by omega
  have d3 : (oe x : Int) / 4294967296 = 0 := by omega
  clear f6
  generalize (oc x + od x) / 16 + (oc x + od x) = y3 at *
  generalize oc x + od x = y2 at *
  generalize oa x + ob x = y1 at *
  generalize onesN x = r at *
  generalize oe x = z at *
  generalize oa x = pa at *
  generalize ob x = pb at *
  generalize oc x = pc at *
  generalize od x = pd at *
  have b1 : (y1 : Int) ≤ 510 := by omega
  have b2 : (y2 : Int) ≤ 510 := by omega
  have b3 : (y3 : Int) ≤ 1020 := by omega
  go_enter Try.func38, Try.ntmps38
  go_wp2
  go_ret
  exact ⟨rfl, rfl⟩
theorem onesOf_nat (x : Nat) (w : World) (h : x < 256) :
    Calls Try.prog 28 #[.int .i64 (x : Int)] w fun e w' => e = .returned (.int .i64 (onesN x : Int)) ∧ w = w' := by
  go_enter Try.func28, Try.ntmps28
  go_wp2_with fail
  refine (onesCount_nat x _ h).mono ?_; rintro e w' ⟨rfl, rfl⟩
  go_wp2
  go_ret
  exact ⟨rfl, rfl⟩
theorem l02Ones_nat (x0 : Nat) (w : World) (h : x0 < 256) :
    Calls Try.prog 26 #[.int .i64 (x0 : Int)] w fun e w' => e = .returned (.int .i64 (onesN x0 : Int)) ∧ w = w' := by
  go_enter Try.func26, Try.ntmps26
  go_wp2
  go_loop [0, 3] (fun x n => ∃ (f y m : Nat), x = .int .i64 (y : Int) ∧ n = .int .i64 (m : Int) ∧ y < 2 ^ f ∧ y < 256 ∧ m + f ≤ 8 ∧ m + popN f y = onesN x0) (fun x _ => (intOf x).toNat)
  case atStart => exact ⟨8, x0, 0, rfl, rfl, h, h, by omega, by simp [onesN]⟩
  case round =>
    obtain ⟨f, y, m, rfl, rfl, hy, hy2, hm, he⟩ := hrel
    have HE := Lib.hid he
    clear he
    by_cases hlt : 0 < y
    · obtain ⟨f', rfl⟩ : ∃ f', f = f' + 1 := by
        cases f with
        | zero => exact absurd hy (by simp; omega)
        | succ f' => exact ⟨f', rfl⟩
      have hb : bits .and .i64 (y : Int) 1 = ((y % 2 : Nat) : Int) := by
        rw [show (1 : Int) = ((1 : Nat) : Int) from rfl, and_i64 _ _ (by omega) (by omega), Nat.and_one_is_mod]
      have HY := Lib.hid hy
      have hr : y % 2 ≤ 1 := by omega
      obtain ⟨r, hr2⟩ : ∃ r, y % 2 = r := ⟨_, rfl⟩
      rw [hr2] at hb hr
      have HR := Lib.hid hr2
      clear hy hr2
      go_wp2
      go_round
      case rel => exact ⟨f', y / 2, m + r, by go_num, by go_num, by have := HY.out; rw [Nat.pow_succ] at this; omega, by omega, by omega, by rw [← HE.out]; show m + r + popN f' (y / 2) = m + (y % 2 + popN f' (y / 2)); have := HR.out; omega⟩
      case measure => simp [intOf]; omega
    · obtain rfl : y = 0 := by omega
      have HZ := Lib.hid (popN_zero f)
      clear hy
      go_wp2
      go_ret
      exact ⟨ret_int (by rw [← HE.out, HZ.out]; simp), rfl⟩
end Go.Proofs.Ytomdoamfdidghab
