/- The pulses of an accumulator, and an even pattern, on the side of the model, and the walks of two laws. -/
import Derived.Test.YthkooboiacajeaaAcc
import Derived.Test.YthkooboiacajeaaStepOk
import Derived.Test.YthkooboiacajeaaBytes
import Derived.BigQuiet
import Derived.Deep.QuietTactic
namespace Go.Proofs.Ythkooboiacajeaa
open Go.RowKit
set_option linter.unusedVariables false

theorem cell_keptA {W w1 : World} (hb : Below W.heap.size W w1) {a : Addr} {v : Value} (h : W.cell? a = some v) : w1.cell? a = some v :=
  (hb.cell (World.block_lt_of_cell? W a h)).trans h
theorem accT_hit (s m p t : Nat) (L R : List UInt8) (ht : 0 < t) (h : L ++ accL s m p t = R) (hm : m ≤ p + s) : (L ++ [49]) ++ accL s m (p + s - m) (t - 1) = R := by
  obtain ⟨u, rfl⟩ : ∃ u, t = u + 1 := ⟨t - 1, by omega⟩
  rw [← h, accL, if_pos hm]; simp
theorem accT_miss (s m p t : Nat) (L R : List UInt8) (ht : 0 < t) (h : L ++ accL s m p t = R) (hm : ¬ m ≤ p + s) : (L ++ [48]) ++ accL s m (p + s) (t - 1) = R := by
  obtain ⟨u, rfl⟩ : ∃ u, t = u + 1 := ⟨t - 1, by omega⟩
  rw [← h, accL, if_neg hm]; simp
theorem accT_over (s m p t : Nat) (L R : List UInt8) (ht : ¬ 0 < t) (h : L ++ accL s m p t = R) : L = R := by
  obtain rfl : t = 0 := by omega
  rw [← h, accL]; simp

theorem implAccW_t (s m p T : Nat) (w : World) (h1 : 1 ≤ m) (h2 : m ≤ 1000) (h3 : 1 ≤ s) (h4 : s ≤ m) (h5 : p < m) (h6 : T ≤ 400) :
    Calls Try.prog 11 #[.int .i64 (s : Int), .int .i64 (m : Int), .int .i64 (p : Int), .int .i64 (T : Int)] w fun e w' => e = .returned (.tuple #[.string ⟨(accL s m p T).toArray⟩, .bool true]) ∧ Below w.heap.size w w' := by
  go_enter Try.func11, Try.ntmps11
  go_wp2_with fail
  refine (accValid_t _ _ _ _ (by omega) (by omega) (by omega) (by omega) (by omega) (by omega)).mono ?_; rintro e w1 ⟨rfl, hb1⟩
  have d0 := cell_keptA hb1 (a := ⟨w.heap.size, 0, none⟩) (v := .int .i64 (s : Int)) (by simp [go_sem])
  have d1 := cell_keptA hb1 (a := ⟨w.heap.size, 1, none⟩) (v := .int .i64 (m : Int)) (by simp [go_sem])
  have d2 := cell_keptA hb1 (a := ⟨w.heap.size, 2, none⟩) (v := .int .i64 (p : Int)) (by simp [go_sem])
  have HB1 := Lib.hid (((Below.refl w.heap.size w).alloc (Nat.le_refl _) _).trans (hb1.mono (by simp)))
  clear hb1
  go_wp2_with fail
  refine (within_i64_t _ _ _ _ (by omega) (by omega)).mono ?_; rintro e w' ⟨rfl, rfl⟩
  go_wp2_with fail
  refine (accWave s m p T _ h4 h2 h5 h6).mono ?_; rintro e w2 ⟨rfl, hb2⟩
  go_wp2
  go_ret2
  exact ⟨rfl, HB1.out.trans (hb2.mono HB1.out.size)⟩
theorem implAccW_f (s m p T : Int) (w : World) (h : m < 1 ∨ 1000 < m ∨ s < 1 ∨ m < s ∨ p < 0 ∨ m - 1 < p ∨ T < 0 ∨ 400 < T) :
    Calls Try.prog 11 #[.int .i64 s, .int .i64 m, .int .i64 p, .int .i64 T] w fun e w' => e = .returned (.tuple #[.string ⟨#[]⟩, .bool false]) ∧ Below w.heap.size w w' := by
  by_cases k1 : 1 ≤ m ∧ m ≤ 1000 ∧ 1 ≤ s ∧ s ≤ m ∧ 0 ≤ p ∧ p ≤ m - 1
  · obtain ⟨k11, k12, k13, k14, k15, k16⟩ := k1
    go_enter Try.func11, Try.ntmps11
    go_wp2_with fail
    refine (accValid_t _ _ _ _ k11 k12 k13 k14 k15 k16).mono ?_; rintro e w1 ⟨rfl, hb1⟩
    go_wp2_with fail
    refine (within_i64_f _ _ _ _ (by omega)).mono ?_; rintro e w' ⟨rfl, rfl⟩
    go_wp2
    go_ret2
    exact ⟨rfl, ((Below.refl _ _).alloc (Nat.le_refl _) _).trans (hb1.mono (by simp))⟩
  · go_enter Try.func11, Try.ntmps11
    go_wp2_with fail
    refine (accValid_f _ _ _ _ (by omega)).mono ?_; rintro e w1 ⟨rfl, hb1⟩
    go_wp2
    go_ret2
    exact ⟨rfl, ((Below.refl _ _).alloc (Nat.le_refl _) _).trans (hb1.mono (by simp))⟩

end Go.Proofs.Ythkooboiacajeaa
