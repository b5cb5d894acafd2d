/- A toggled wave: both sides make the same, and the walk of its law. -/
import Derived.Test.YtkipgeecibimoaaChgTog
import Derived.Test.YtkipgeecibimoaaTogSpec
namespace Go.Proofs.Ytkipgeecibimoaa
open Go.RowKit
set_option linter.unusedVariables false

theorem mod_up (k m : Nat) (hm : 0 < m) (h : k % m = 0) : (k + m - 1) % m + 1 = m ∧ (k + 1 + m - 1) % m = 0 := by
  obtain ⟨q, rfl⟩ : ∃ q, k = m * q := ⟨k / m, by have := Nat.div_add_mod k m; omega⟩
  constructor
  · rw [show m * q + m - 1 = m * q + (m - 1) by omega, Nat.mul_add_mod, Nat.mod_eq_of_lt (by omega)]; omega
  · rw [show m * q + 1 + m - 1 = m * q + m by omega, Nat.mul_add_mod, Nat.mod_self]
theorem mod_on (k m : Nat) (hm : 0 < m) (h : ¬ k % m = 0) : (k + m - 1) % m + 1 = k % m ∧ (k + 1 + m - 1) % m = k % m := by
  have hr := Nat.mod_lt k hm
  have hk := Nat.div_add_mod k m
  generalize k % m = r at *
  generalize k / m = q at *
  subst hk
  constructor
  · rw [show m * q + r + m - 1 = m * q + (m + (r - 1)) by omega, Nat.mul_add_mod, Nat.add_mod_left, Nat.mod_eq_of_lt (by omega)]; omega
  · rw [show m * q + r + 1 + m - 1 = m * q + (m + r) by omega, Nat.mul_add_mod, Nat.add_mod_left, Nat.mod_eq_of_lt hr]
theorem togT_on (m : Nat) (c : UInt8) (e : Int) (p : Nat) (h : p + 1 < m) : togT m c e p = (c, p + 1) := by unfold togT; rw [if_pos h]
theorem togT_turn (m : Nat) (c : UInt8) (e : Int) (p : Nat) (h : ¬ p + 1 < m) : togT m c e p = (97 - c, 0) := by unfold togT; rw [if_neg h]
theorem tog_chG (m : Nat) (hm : 0 < m) (l : List UInt8) (i : Nat) :
    (chG (togT m) (m - 1) l i).1 = (togF m l i).1 ∧ (chG (togT m) (m - 1) l i).2 = ((togF m l i).2.2 + m - 1) % m ∧ ((togF m l i).2.1.toNat : Int) = prL l i := by
  induction i with
  | zero =>
    refine ⟨rfl, ?_, rfl⟩
    show m - 1 = (0 + m - 1) % m
    rw [Nat.mod_eq_of_lt (by omega)]; omega
  | succ i ih =>
    obtain ⟨h1, h2, h3⟩ := ih
    obtain ⟨x, y, k, hx⟩ : ∃ x y k, togF m l i = (x, y, k) := ⟨_, _, _, rfl⟩
    rw [hx] at h1 h2 h3
    simp only at h1 h2 h3
    have hp : prL l (i + 1) = lvL l i := by unfold prL; rw [if_neg (by omega)]; rfl
    by_cases he : l.getD i 0 = y
    · have hc : lvL l i = prL l i := by rw [← h3]; unfold lvL; rw [he]
      rw [tog_same hx he, chG, if_pos hc, hp]
      exact ⟨h1, h2, by rw [h3, hc]⟩
    · have hc : ¬ lvL l i = prL l i := by
        rw [← h3]; unfold lvL; intro e; exact he (UInt8.toNat_inj.1 (by omega))
      rw [chG, if_neg hc, hp]
      by_cases hk : k % m = 0
      · rw [tog_turn hx rfl he hk]
        obtain ⟨g1, g2⟩ := mod_up k m hm hk
        rw [togT_turn _ _ _ _ (by rw [h2]; omega)]
        exact ⟨by rw [h1], g2.symm, rfl⟩
      · rw [tog_keep hx rfl he hk]
        obtain ⟨g1, g2⟩ := mod_on k m hm hk
        have hr := Nat.mod_lt k hm
        rw [togT_on _ _ _ _ (by rw [h2]; omega)]
        exact ⟨h1, by rw [h2]; show _ = (k + 1 + m - 1) % m; omega, rfl⟩
theorem tog_chT (m : Nat) (hm : 0 < m) (l : List UInt8) (n : Nat) : chT (togT m) (m - 1) l n = togL m l n := by
  unfold chT togL
  congr 1
  funext j
  exact (tog_chG m hm l (j + 1)).1

theorem cycleOf_any (m : Int) (w : World) (h1 : 1 ≤ m) (h2 : m ≤ 64) :
    Calls Try.prog 119 #[.int .i64 m] w fun e w' => e = .returned (.agg #[.int .i64 1, .int .i64 m, .int .i64 (m - 1)]) ∧ Below w.heap.size w w' := by
  have wr : IntKind.i64.wrap (m - 1) = m - 1 := IntWalk.i64_in _ (by omega)
  go_enter Try.func119, Try.ntmps119
  go_wp2
  exact bodyPost_ret (v := .agg #[.int .i64 1, .int .i64 m, .int .i64 (m - 1)]) (by simp [results, Try.results119, go_sem]) rfl ⟨rfl, (Below.refl _ _).alloc (Nat.le_refl _) _⟩
theorem wave_all (s : ByteArray) (h : waveB s.data.toList = true) : s.data.toList.all lvlB = true ∧ s.size ≤ 400 := by
  unfold waveB at h
  simp only [Bool.and_eq_true, decide_eq_true_eq, size_toList] at h
  exact ⟨h.1, by omega⟩

set_option maxHeartbeats 1000000 in
set_option maxRecDepth 100000 in
theorem implTog_t (m : Nat) (s : ByteArray) (w : World) (hm : 1 ≤ m) (hm2 : m ≤ 64) (hs : s.size ≤ maxLen) (hwv : waveB s.data.toList = true) :
    Calls Try.prog 60 #[.int .i64 (m : Int), .string s] w fun e w' => e = .returned (.tuple #[.string ⟨(togL m s.data.toList s.size).toArray⟩, .bool true]) ∧ Below w.heap.size w w' := by
  obtain ⟨hall, hsz⟩ := wave_all s hwv
  have HALL := Lib.hid hall
  have HWV := Lib.hid hwv
  have HT := Lib.hid (tog_chT m (by omega) s.data.toList s.size)
  clear hwv hall
  go_enter Try.func60, Try.ntmps60
  go_wp2_with fail
  refine (within_i64_t _ _ _ _ (by omega) (by omega)).mono ?_; rintro e w' ⟨rfl, rfl⟩
  go_wp2_with fail
  refine ((implIsWave s _ hs).mono (R' := fun e w' => e = .returned (.bool true) ∧ Below w.heap.size w w') (fun e w' h => by rw [HWV.out] at h; exact h)).mono ?_
  rintro e w1 ⟨rfl, hb1⟩
  go_wp2_with fail
  refine (cycleOf_any (m : Int) _ (by omega) (by omega)).mono ?_
  rintro e w2 ⟨rfl, hb2⟩
  have hb12 := hb1.trans (hb2.mono hb1.size)
  clear hb1 hb2
  go_wp2_with fail
  have hEE : (w2.alloc (.cells #[.int .i64 1, .int .i64 (m : Int), .int .i64 ((m : Int) - 1)] TAC)).heap[w2.heap.size]? = some (.cells #[.int .i64 1, .int .i64 (m : Int), .int .i64 ((m - 1 : Nat) : Int)] TAC (0, 0)) := by
    rw [show ((m - 1 : Nat) : Int) = (m : Int) - 1 by omega]; exact heap_new _ _
  refine (callsIn_wide.1 (changedTog_in 3 (Nat.le_refl _) w2.heap.size m (m - 1) s _ hsz HALL.out hm2 (by omega) hEE)).mono ?_
  rintro e w3 ⟨rfl, hm3⟩
  have hsz2 := hb12.size
  have hb3 := (hb12.alloc hsz2 _).trans (hm3.below (C := w.heap.size) (by simp; omega) hsz2)
  clear hm3 hEE
  go_wp2
  go_ret2
  exact ⟨by rw [← HT.out]; simp, hb3⟩

theorem implTog_f1 (t : Int) (s : ByteArray) (w : World) (ht : t < 1 ∨ 64 < t) :
    Calls Try.prog 60 #[.int .i64 t, .string s] w fun e w' => e = .returned (.tuple #[.string ⟨#[]⟩, .bool false]) ∧ Below w.heap.size w w' := by
  go_enter Try.func60, Try.ntmps60
  go_wp2_with fail
  refine (within_i64_f _ _ _ _ ht).mono ?_; rintro e w' ⟨rfl, rfl⟩
  go_wp2
  go_ret2
  exact ⟨rfl, Below.refl _ _⟩
theorem implTog_f2 (t : Int) (s : ByteArray) (w : World) (h1 : 1 ≤ t) (h2 : t ≤ 64) (hs : s.size ≤ maxLen) (hwv : waveB s.data.toList = false) :
    Calls Try.prog 60 #[.int .i64 t, .string s] w fun e w' => e = .returned (.tuple #[.string ⟨#[]⟩, .bool false]) ∧ Below w.heap.size w w' := by
  have HWV := Lib.hid hwv
  clear hwv
  go_enter Try.func60, Try.ntmps60
  go_wp2_with fail
  refine (within_i64_t _ _ _ _ h1 h2).mono ?_; rintro e w' ⟨rfl, rfl⟩
  go_wp2_with fail
  refine ((implIsWave s _ hs).mono (R' := fun e w' => e = .returned (.bool false) ∧ Below w.heap.size w w') (fun e w' h => by rw [HWV.out] at h; exact h)).mono ?_
  rintro e w1 ⟨rfl, hb1⟩
  go_wp2
  go_ret2
  exact ⟨rfl, hb1⟩
end Go.Proofs.Ytkipgeecibimoaa
