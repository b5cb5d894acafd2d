/- A divided wave: both sides make the same, and the walk of its law. -/
import Derived.Test.YtkipgeecibimoaaChgDiv
import Derived.Test.YtkipgeecibimoaaDvSpec
import Derived.Test.YtkipgeecibimoaaTogLaw
namespace Go.Proofs.Ytkipgeecibimoaa
open Go.RowKit
set_option linter.unusedVariables false

theorem lev_ok (s : ByteArray) (hall : s.data.toList.all lvlB = true) (i : Nat) (hi : i < s.size) : s.data.toList.getD i 0 = 48 ∨ s.data.toList.getD i 0 = 49 := by
  have h2 : i < s.data.toList.length := by simpa using hi
  rw [List.getD_eq_getElem?_getD, List.getElem?_eq_getElem h2]
  have h := List.all_eq_true.1 hall _ (List.getElem_mem h2)
  simp [lvlB] at h
  rcases h with h | h
  · left; exact UInt8.toNat_inj.1 (by have : (48 : UInt8).toNat = 48 := rfl; simp; omega)
  · right; exact UInt8.toNat_inj.1 (by have : (49 : UInt8).toNat = 49 := rfl; simp; omega)
theorem dv_chG (m gh : Nat) (hm : 0 < m) (s : ByteArray) (hall : s.data.toList.all lvlB = true) (i : Nat) (hi : i ≤ s.size) :
    (chG (divT m gh) (m - 1) s.data.toList i).1 = (dvF m gh s.data.toList i).1 ∧ (chG (divT m gh) (m - 1) s.data.toList i).2 = ((dvF m gh s.data.toList i).2 + m - 1) % m := by
  induction i with
  | zero =>
    refine ⟨rfl, ?_⟩
    show m - 1 = (0 + m - 1) % m
    rw [Nat.mod_eq_of_lt (by omega)]; omega
  | succ i ih =>
    obtain ⟨h1, h2⟩ := ih (by omega)
    obtain ⟨x, k, hx⟩ : ∃ x k, dvF m gh s.data.toList i = (x, k) := ⟨_, _, rfl⟩
    rw [hx] at h1 h2
    simp only at h1 h2
    have hl := lev_ok s hall i (by omega)
    have hlv : lvL s.data.toList i = ((s.data.toList.getD i 0).toNat : Int) := rfl
    have hpr : prL s.data.toList i = if i = 0 then 48 else ((s.data.toList.getD (i - 1) 0).toNat : Int) := rfl
    have hb : i ≠ 0 → s.data.toList.getD (i - 1) 0 = 48 ∨ s.data.toList.getD (i - 1) 0 = 49 := fun h0 => lev_ok s hall (i - 1) (by omega)
    have e48 : ((48 : UInt8).toNat : Int) = 48 := rfl
    have e49 : ((49 : UInt8).toNat : Int) = 49 := rfl
    by_cases hu : upAt s.data.toList i
    · have hc : ¬ lvL s.data.toList i = prL s.data.toList i := by
        rw [hlv, hpr, hu.1, e49]
        rcases hu.2 with h0 | h0
        · rw [if_pos h0]; omega
        · by_cases hz : i = 0
          · rw [if_pos hz]; omega
          · rw [if_neg hz, h0, e48]; omega
      rw [chG, if_neg hc, hlv, hu.1, e49, h1, h2]
      by_cases hk : k % m = 0
      · obtain ⟨g1, g2⟩ := mod_up k m hm hk
        rw [divT_up m gh x 49 _ 0 (by omega) (by rw [if_neg (by omega)])]
        by_cases hr : k % m < gh
        · rw [dv_up hx hu hr, if_pos (by omega)]; exact ⟨rfl, g2.symm⟩
        · rw [dv_down hx hu hr, if_neg (by omega)]; exact ⟨rfl, g2.symm⟩
      · obtain ⟨g1, g2⟩ := mod_on k m hm hk
        have hkm := Nat.mod_lt k hm
        rw [divT_up m gh x 49 _ (k % m) (by omega) (by rw [if_pos (by omega)]; omega)]
        by_cases hr : k % m < gh
        · rw [dv_up hx hu hr, if_pos hr]; exact ⟨rfl, g2.symm⟩
        · rw [dv_down hx hu hr, if_neg hr]; exact ⟨rfl, g2.symm⟩
    · rw [dv_stay hx hu, chG]
      by_cases hc : lvL s.data.toList i = prL s.data.toList i
      · rw [if_pos hc]; exact ⟨h1, h2⟩
      · rw [if_neg hc]
        have h48 : lvL s.data.toList i = 48 := by
          rcases hl with h | h
          · rw [hlv, h, e48]
          · exfalso
            refine hu ⟨h, ?_⟩
            by_cases hz : i = 0
            · exact .inl hz
            · rcases hb hz with h0 | h0
              · exact .inr h0
              · refine absurd ?_ hc
                rw [hlv, hpr, if_neg hz, h, h0]
        rw [h48, divT_down]
        exact ⟨h1, h2⟩
theorem dv_chT (m gh : Nat) (hm : 0 < m) (s : ByteArray) (hall : s.data.toList.all lvlB = true) : chT (divT m gh) (m - 1) s.data.toList s.size = dvL m gh s.data.toList s.size := by
  unfold chT dvL
  apply List.map_congr_left
  intro j hj
  exact (dv_chG m gh hm s hall (j + 1) (by have := List.mem_range.1 hj; omega)).1

set_option maxHeartbeats 1000000 in
set_option maxRecDepth 100000 in
theorem implDv_t (m gh : Nat) (s : ByteArray) (w : World) (hm : 1 ≤ m) (hm2 : m ≤ 64) (hg : gh ≤ m) (hs : s.size ≤ maxLen) (hwv : waveB s.data.toList = true) :
    Calls Try.prog 58 #[.agg #[.int .i64 (m : Int), .int .i64 (gh : Int)], .string s] w fun e w' => e = .returned (.tuple #[.string ⟨(dvL m gh s.data.toList s.size).toArray⟩, .bool true]) ∧ Below w.heap.size w w' := by
  obtain ⟨hall, hsz⟩ := wave_all s hwv
  have HALL := Lib.hid hall
  have HWV := Lib.hid hwv
  have HT := Lib.hid (dv_chT m gh (by omega) s hall)
  have HV := Lib.hid (dvdB_t (b := (m : Int)) (h := (gh : Int)) ⟨by omega, by omega, by omega, by omega⟩)
  clear hwv hall
  go_enter Try.func58, Try.ntmps58
  go_wp2_with fail
  have hb0 : Below w.heap.size w (w.alloc (.cells #[.int .i64 (m : Int), .int .i64 (gh : Int)] TDV)) := (Below.refl _ w).alloc (Nat.le_refl _) _
  have hD0 := heap_new w (.cells #[.int .i64 (m : Int), .int .i64 (gh : Int)] TDV)
  refine ((implDivider m gh _).mono (R' := fun e w' => e = .returned (.bool true) ∧ Below (w.alloc (.cells #[.int .i64 (m : Int), .int .i64 (gh : Int)] TDV)).heap.size (w.alloc (.cells #[.int .i64 (m : Int), .int .i64 (gh : Int)] TDV)) w') (fun e w' h => by rw [HV.out] at h; exact h)).mono ?_
  rintro e w1 ⟨rfl, hb1⟩
  go_wp2_with fail
  refine ((implIsWave s _ hs).mono (R' := fun e w' => e = .returned (.bool true) ∧ Below w1.heap.size w1 w') (fun e w' h => by rw [HWV.out] at h; exact h)).mono ?_
  rintro e w2 ⟨rfl, hb2⟩
  have hs1 := hb1.size
  rw [World.size_alloc] at hs1
  have hs2 := hb2.size
  have hD2 : w2.heap[w.heap.size]? = some (.cells #[.int .i64 (m : Int), .int .i64 (gh : Int)] TDV (0, 0)) := (hb2.block _ (by omega)).trans ((hb1.block _ (by simp)).trans hD0)
  have hb02 := hb0.trans ((hb1.mono (by simp)).trans (hb2.mono (by omega)))
  have c20 : w2.cell? ⟨w.heap.size, 0, none⟩ = some (.int .i64 (m : Int)) := by rw [Lib.cell_of_heap hD2]; rfl
  clear hb0 hb1 hb2 hD0
  go_wp2_with fail
  refine (cycleOf_any (m : Int) _ (by omega) (by omega)).mono ?_
  rintro e w3 ⟨rfl, hb3⟩
  have hs3 := hb3.size
  have hD3 := (hb3.block w.heap.size (by omega)).trans hD2
  have hb03 := hb02.trans (hb3.mono (by omega))
  clear hb3 hb02 hD2 c20
  go_wp2_with fail
  have hEE : (w3.alloc (.cells #[.int .i64 1, .int .i64 (m : Int), .int .i64 ((m : Int) - 1)] TAC)).heap[w3.heap.size]? = some (.cells #[.int .i64 1, .int .i64 (m : Int), .int .i64 ((m - 1 : Nat) : Int)] TAC (0, 0)) := by
    rw [show ((m - 1 : Nat) : Int) = (m : Int) - 1 by omega]; exact heap_new _ _
  have hDD : (w3.alloc (.cells #[.int .i64 1, .int .i64 (m : Int), .int .i64 ((m : Int) - 1)] TAC)).heap[w.heap.size]? = some (.cells #[.int .i64 (m : Int), .int .i64 (gh : Int)] TDV (0, 0)) := (Below.heap_alloc _ _ _ (by omega)).trans hD3
  refine (callsIn_wide.1 (changedDiv_in 3 (Nat.le_refl _) w3.heap.size w.heap.size m gh (m - 1) s _ hsz HALL.out hm2 (by omega) hEE (by omega) hDD)).mono ?_
  rintro e w4 ⟨rfl, hm4⟩
  have hb4 := (hb03.alloc (by omega) _).trans (hm4.below (C := w.heap.size) (by simp; omega) (by omega))
  clear hm4 hEE hDD hD3 hb03
  go_wp2
  go_ret2
  exact ⟨by rw [← HT.out]; simp, hb4⟩
theorem implDv_f1 (b h : Int) (s : ByteArray) (w : World) (hf : dvdB b h = false) :
    Calls Try.prog 58 #[.agg #[.int .i64 b, .int .i64 h], .string s] w fun e w' => e = .returned (.tuple #[.string ⟨#[]⟩, .bool false]) ∧ Below w.heap.size w w' := by
  have HV := Lib.hid hf
  clear hf
  have hb0 : Below w.heap.size w (w.alloc (.cells #[.int .i64 b, .int .i64 h] TDV)) := (Below.refl _ w).alloc (Nat.le_refl _) _
  go_enter Try.func58, Try.ntmps58
  go_wp2_with fail
  refine ((implDivider b h _).mono (R' := fun e w' => e = .returned (.bool false) ∧ Below (w.alloc (.cells #[.int .i64 b, .int .i64 h] TDV)).heap.size (w.alloc (.cells #[.int .i64 b, .int .i64 h] TDV)) w') (fun e w' h => by rw [HV.out] at h; exact h)).mono ?_
  rintro e w1 ⟨rfl, hb1⟩
  go_wp2
  go_ret2
  exact ⟨rfl, hb0.trans (hb1.mono (by simp))⟩
theorem implDv_f2 (b h : Int) (s : ByteArray) (w : World) (hf : dvdB b h = true) (hs : s.size ≤ maxLen) (hwv : waveB s.data.toList = false) :
    Calls Try.prog 58 #[.agg #[.int .i64 b, .int .i64 h], .string s] w fun e w' => e = .returned (.tuple #[.string ⟨#[]⟩, .bool false]) ∧ Below w.heap.size w w' := by
  have HV := Lib.hid hf
  have HWV := Lib.hid hwv
  clear hf hwv
  have hb0 : Below w.heap.size w (w.alloc (.cells #[.int .i64 b, .int .i64 h] TDV)) := (Below.refl _ w).alloc (Nat.le_refl _) _
  go_enter Try.func58, Try.ntmps58
  go_wp2_with fail
  refine ((implDivider b h _).mono (R' := fun e w' => e = .returned (.bool true) ∧ Below (w.alloc (.cells #[.int .i64 b, .int .i64 h] TDV)).heap.size (w.alloc (.cells #[.int .i64 b, .int .i64 h] TDV)) w') (fun e w' h => by rw [HV.out] at h; exact h)).mono ?_
  rintro e w1 ⟨rfl, hb1⟩
  go_wp2_with fail
  refine ((implIsWave s _ hs).mono (R' := fun e w' => e = .returned (.bool false) ∧ Below w1.heap.size w1 w') (fun e w' h => by rw [HWV.out] at h; exact h)).mono ?_
  rintro e w2 ⟨rfl, hb2⟩
  have hs1 := hb1.size
  rw [World.size_alloc] at hs1
  go_wp2
  go_ret2
  exact ⟨rfl, hb0.trans ((hb1.mono (by simp)).trans (hb2.mono (by omega)))⟩

end Go.Proofs.Ytkipgeecibimoaa
