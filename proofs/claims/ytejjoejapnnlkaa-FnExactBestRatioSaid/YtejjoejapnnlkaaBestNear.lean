/- The nearest ratio, on both sides. -/
import Derived.Test.YtejjoejapnnlkaaBestMath
import Derived.Test.YtejjoejapnnlkaaGoal
import Derived.Test.YtejjoejapnnlkaaPair
import Derived.Test.YtejjoejapnnlkaaKept
import Derived.Deep.RegionWith
namespace Go.Proofs.Ytejjoejapnnlkaa
open Go.RowKit
set_option linter.unusedVariables false

theorem near_abs (N D a b : Nat) : ((N : Int) * (b : Int) - (a : Int) * (D : Int)).natAbs = dsB N D a b := by
  unfold dsB; omega
set_option maxHeartbeats 1000000 in
set_option maxRecDepth 100000 in
theorem nearer_b (N D a b c d : Nat) (r : Bool) (w : World) (hD : D ≤ 1000000) (hN : N ≤ 1000000000) (ha : a ≤ 10010000) (hb : b ≤ 10000) (hc : c ≤ 10010000) (hd : d ≤ 10000) (h : decide (dsB N D a b * d < dsB N D c d * b) = r) :
    Calls Try.prog 64 #[.agg #[.int .i64 (N : Int), .int .i64 (D : Int)], .int .i64 (a : Int), .int .i64 (b : Int), .int .i64 (c : Int), .int .i64 (d : Int)] w fun e w' => e = .returned (.bool r) ∧ Below w.heap.size w w' := by
  have z1 := ds_bnd N D a b 10000 hD hN (Nat.le_refl _) ha hb
  have z2 := ds_bnd N D c d 10000 hD hN (Nat.le_refl _) hc hd
  have y1 := near_abs N D a b
  have y2 := near_abs N D c d
  have m1 : N * b ≤ 1000000000 * 10000 := Nat.mul_le_mul hN hb
  have m2 : a * D ≤ 10010000 * 1000000 := Nat.mul_le_mul ha hD
  have m3 : N * d ≤ 1000000000 * 10000 := Nat.mul_le_mul hN hd
  have m4 : c * D ≤ 10010000 * 1000000 := Nat.mul_le_mul hc hD
  have c1 : (N : Int) * (b : Int) = ((N * b : Nat) : Int) := by simp
  have c2 : (a : Int) * (D : Int) = ((a * D : Nat) : Int) := by simp
  have c3 : (N : Int) * (d : Int) = ((N * d : Nat) : Int) := by simp
  have c4 : (c : Int) * (D : Int) = ((c * D : Nat) : Int) := by simp
  have w1 : IntKind.i64.wrap ((N : Int) * (b : Int)) = (N : Int) * (b : Int) := by rw [c1]; exact IntWalk.i64_in _ (by omega)
  have w2 : IntKind.i64.wrap ((a : Int) * (D : Int)) = (a : Int) * (D : Int) := by rw [c2]; exact IntWalk.i64_in _ (by omega)
  have w3 : IntKind.i64.wrap ((N : Int) * (d : Int)) = (N : Int) * (d : Int) := by rw [c3]; exact IntWalk.i64_in _ (by omega)
  have w4 : IntKind.i64.wrap ((c : Int) * (D : Int)) = (c : Int) * (D : Int) := by rw [c4]; exact IntWalk.i64_in _ (by omega)
  have x1 : -20010000000000 ≤ (N : Int) * (b : Int) - (a : Int) * (D : Int) ∧ (N : Int) * (b : Int) - (a : Int) * (D : Int) ≤ 20010000000000 := by rw [c1, c2]; omega
  have x2 : -20010000000000 ≤ (N : Int) * (d : Int) - (c : Int) * (D : Int) ∧ (N : Int) * (d : Int) - (c : Int) * (D : Int) ≤ 20010000000000 := by rw [c3, c4]; omega
  generalize dsB N D a b = p at *
  generalize dsB N D c d = q at *
  have m5 : p * d ≤ 20010000000000 * 10000 := Nat.mul_le_mul z1 hd
  have m6 : q * b ≤ 20010000000000 * 10000 := Nat.mul_le_mul z2 hb
  have w5 : IntKind.i64.wrap ((p : Int) * (d : Int)) = (p : Int) * (d : Int) := by rw [show (p : Int) * (d : Int) = ((p * d : Nat) : Int) from by simp]; exact IntWalk.i64_in _ (by omega)
  have w6 : IntKind.i64.wrap ((q : Int) * (b : Int)) = (q : Int) * (b : Int) := by rw [show (q : Int) * (b : Int) = ((q * b : Nat) : Int) from by simp]; exact IntWalk.i64_in _ (by omega)
  have hr : decide ((p : Int) * (d : Int) < (q : Int) * (b : Int)) = r := by
    rw [← h, decide_eq_decide, show (p : Int) * (d : Int) = ((p * d : Nat) : Int) from by simp, show (q : Int) * (b : Int) = ((q * b : Nat) : Int) from by simp, Int.ofNat_lt]
  obtain ⟨X, hX⟩ : ∃ X, (N : Int) * (b : Int) - (a : Int) * (D : Int) = X := ⟨_, rfl⟩
  obtain ⟨Y, hY⟩ : ∃ Y, (N : Int) * (d : Int) - (c : Int) * (D : Int) = Y := ⟨_, rfl⟩
  rw [hX] at y1 x1
  rw [hY] at y2 x2
  have HXm := Lib.hid (fun w => l00Max_size X (-X) w rfl)
  have HYm := Lib.hid (fun w => l00Max_size Y (-Y) w rfl)
  rw [y1] at HXm
  rw [y2] at HYm
  have HR := Lib.hid hr
  have w7 : IntKind.i64.wrap X = X := IntWalk.i64_in _ (by omega)
  have w8 : IntKind.i64.wrap Y = Y := IntWalk.i64_in _ (by omega)
  have w9 : IntKind.i64.wrap (-X) = -X := IntWalk.i64_in _ (by omega)
  have w10 : IntKind.i64.wrap (-Y) = -Y := IntWalk.i64_in _ (by omega)
  clear m1 m2 m3 m4 c1 c2 c3 c4 y1 y2 h hr z1 z2 m5 m6
  go_enter Try.func64, Try.ntmps64
  go_wp2_with fail
  refine (HXm.out _).mono ?_; rintro e w' ⟨rfl, rfl⟩
  go_wp2_with fail
  refine (HYm.out _).mono ?_; rintro e w' ⟨rfl, rfl⟩
  go_wp2
  go_ret
  exact ⟨ret_bool HR.out, (Below.refl _ _).alloc (Nat.le_refl _) _⟩
end Go.Proofs.Ytejjoejapnnlkaa
