/- The text of runs: the model's side. -/
import Derived.Test.YtipidbceempeiaaDoorRunM
import Derived.Test.YtipidbceempeiaaDoorDropI
import Derived.Test.YtipidbceempeiaaDoorDecLaw
import Derived.BigQuiet
import Derived.Deep.QuietTactic
import Derived.Laws.Concat
namespace Go.Proofs.YtipidbceempeiaaDoor
open Go.RowKit Go.Shelf
set_option linter.unusedVariables false
set_option linter.unusedSimpArgs false

theorem ext1R (s : ByteArray) (a : Nat) (h : a < s.size) : s.extract a (a + 1) = (⟨[s[a]].toArray⟩ : ByteArray) := by
  apply ByteArray.ext
  apply Array.ext
  · have : a < s.data.size := h
    simp [ByteArray.data_extract]; omega
  · intro i h1 h2
    have : i = 0 := by simp at h2; omega
    subst this
    simp [ByteArray.data_extract, ByteArray.getElem_eq_getElem_data]
theorem below_drewN {B : Nat} {w wr : World} {k : Nat} (h : Below B w wr) : Below B w (wr.drewN k) := ⟨h.os, h.tape, h.output, h.size, h.block⟩
theorem sizeR (L : List UInt8) : (⟨L.toArray⟩ : ByteArray).size = L.length := by rw [← size_toList]

set_option maxHeartbeats 400000 in
set_option maxRecDepth 100000 in
theorem l01Runs_any (s : ByteArray) (w : World) (hs : s.size ≤ 400) (hall : s.data.toList.all lvlB = true) (h0 : 0 < s.size) :
    Calls Tryd.prog 7 #[.string s] w fun e w' => e = .returned (.string ⟨(runT (runsL s)).toArray⟩) ∧ Below w.heap.size w w' := by
  have HALL := Lib.hid hall
  have HLEN : Hid (∀ i a L, RunSt s i a L → L.length ≤ 10000) := fun i a L h => h.len hall hs
  have HNE : Hid (0 < (runT (runsL s)).length) := by
    obtain ⟨Y, x, hY⟩ : ∃ Y x, runsL s = Y ++ [x] := by
      unfold runsL
      obtain ⟨i1, i2, i3, i4⟩ := runs_inv s s.size (Nat.le_refl _)
      rw [if_pos (by have := i4 h0; omega)]
      exact ⟨_, _, rfl⟩
    rw [Hid, hY]; exact runT_pos _ _
  have HST := Lib.hid (RunSt.start s h0)
  clear hall
  go_enter Tryd.func7, Tryd.ntmps7
  go_wp2
  go_loopw [3, 4, 5] (fun t f i wr => ∃ (k a : Nat) (L : List UInt8), 1 ≤ k ∧ k ≤ s.size + 1 ∧ a ≤ k ∧ RunSt s k a L ∧ t = .string ⟨L.toArray⟩ ∧ f = .int .i64 (a : Int) ∧ i = .int .i64 (k : Int) ∧ Below w.heap.size w wr) (fun _ _ i _ => s.size + 1 - (intOf i).toNat)
  case atStart => exact ⟨1, 0, [], by omega, by omega, by omega, HST.out, rfl, rfl, rfl, Below.refl _ _⟩
  case round =>
    obtain ⟨k, a, L, hk1, hk2, hak, hR, rfl, rfl, rfl, hB⟩ := hrel
    have HB := Lib.hid hB
    have hsz := hB.size
    have hL := HLEN.out _ _ _ hR
    clear hB
    by_cases hk : k ≤ s.size
    · obtain ⟨ha, ⟨has, hpr, hlv, hsame, hdiff⟩, hem⟩ := hR.next HALL.out hk1 hk
      have hkI : (k : Int) ≤ (s.size : Int) := by omega
      have HSAME := Lib.hid hsame
      have HDIFF := Lib.hid hdiff
      have HPR := Lib.hid hpr
      have HEM := Lib.hid hem
      clear hsame hdiff hpr hem hR
      by_cases hA : ∃ h2 : k < s.size, s[k].toNat = s[a].toNat
      · obtain ⟨hlt, he⟩ := hA
        have hltI : (k : Int) < (s.size : Int) := by omega
        have HN := Lib.hid (HSAME.out hlt he)
        obtain ⟨y, hy⟩ : ∃ y, s[a].toNat = y := ⟨_, rfl⟩
        rw [hy] at he hlv
        go_wp2_with fail
        go_quiet (fail)
        go_wp2
        go_roundw
        case rel => exact ⟨k + 1, a, L, by omega, by omega, by omega, HN.out, rfl, rfl, by go_num, by first | exact HB.out | exact below_drewN HB.out⟩
        case measure => simp [intOf]; omega
      · have HN := Lib.hid (HDIFF.out (fun h2 he => hA ⟨h2, he⟩))
        obtain ⟨X, hX⟩ : ∃ X : ByteArray, (⟨L.toArray⟩ : ByteArray) = X := ⟨_, rfl⟩
        have hXs : X.size ≤ 10000 := by rw [← hX, sizeR]; exact hL
        have hit := Lib.itoa_length_le ((k : Int) - (a : Int)) (by omega) (by omega)
        obtain ⟨D, hD⟩ : ∃ D : ByteArray, (⟨(Lib.itoa ((k : Int) - (a : Int))).toArray⟩ : ByteArray) = D := ⟨_, rfl⟩
        have hDs : D.size ≤ 21 := by rw [← hD, sizeR]; omega
        have HDEC : Hid (∀ W, Calls Tryd.prog 15 #[.int .i64 ((k : Int) - (a : Int))] W fun e w' => e = .returned (.string D) ∧ Below W.heap.size W w') := fun W => by
          rw [← hD]; exact specDec _ W (by omega) (by omega)
        have hE1 : (s.extract a (a + 1)).size = 1 := by rw [ByteArray.size_extract]; omega
        have hz120 : (⟨#[120]⟩ : ByteArray).size = 1 := rfl
        have hz32 : (⟨#[32]⟩ : ByteArray).size = 1 := rfl
        have hx1 := ext1R s a has
        have m1 : (s.extract a (a + 1)).size + (⟨#[120]⟩ : ByteArray).size ≤ 9223372036854775807 := by omega
        have m2 : (s.extract a (a + 1) ++ ⟨#[120]⟩).size + D.size ≤ 9223372036854775807 := by rw [ByteArray.size_append]; omega
        have m3 : X.size + (⟨#[32]⟩ : ByteArray).size ≤ 9223372036854775807 := by omega
        have m4 : X.size + (s.extract a (a + 1) ++ ⟨#[120]⟩ ++ D).size ≤ 9223372036854775807 := by rw [ByteArray.size_append, ByteArray.size_append]; omega
        have m5 : (X ++ ⟨#[32]⟩).size + (s.extract a (a + 1) ++ ⟨#[120]⟩ ++ D).size ≤ 9223372036854775807 := by rw [ByteArray.size_append, ByteArray.size_append, ByteArray.size_append]; omega
        have hadd1 := fun w => run_string_add_sum (P := Tryd.prog) w _ _ m1
        have hadd2 := fun w => run_string_add_sum (P := Tryd.prog) w _ _ m2
        have hadd3 := fun w => run_string_add_sum (P := Tryd.prog) w _ _ m3
        have hadd4 := fun w => run_string_add_sum (P := Tryd.prog) w _ _ m4
        have hadd5 := fun w => run_string_add_sum (P := Tryd.prog) w _ _ m5
        have HE0 : Hid (a = 0 → X ++ (s.extract a (a + 1) ++ ⟨#[120]⟩ ++ D) = ⟨(L ++ (sepR L ++ ([s[a], 120] ++ Lib.itoa ((k : Int) - (a : Int))))).toArray⟩) := fun h => by
          have he : L.isEmpty = true := by rw [HEM.out]; exact decide_eq_true h
          rw [hx1, ← hX, ← hD, show (⟨#[120]⟩ : ByteArray) = ⟨([120] : List UInt8).toArray⟩ from rfl, ByteArray.mk_append_mk, ByteArray.mk_append_mk, ByteArray.mk_append_mk]
          simp [sepR, he]
        have HE1 : Hid (a ≠ 0 → X ++ ⟨#[32]⟩ ++ (s.extract a (a + 1) ++ ⟨#[120]⟩ ++ D) = ⟨(L ++ (sepR L ++ ([s[a], 120] ++ Lib.itoa ((k : Int) - (a : Int))))).toArray⟩) := fun h => by
          have he : L.isEmpty = false := by rw [HEM.out]; exact decide_eq_false h
          rw [hx1, ← hX, ← hD, show (⟨#[120]⟩ : ByteArray) = ⟨([120] : List UInt8).toArray⟩ from rfl, show (⟨#[32]⟩ : ByteArray) = ⟨([32] : List UInt8).toArray⟩ from rfl, ByteArray.mk_append_mk, ByteArray.mk_append_mk, ByteArray.mk_append_mk, ByteArray.mk_append_mk]
          simp [sepR, he]
        have HX := Lib.hid hX
        rw [hX]
        have hwr1 : IntKind.i64.wrap ((a : Int) + 1) = (a : Int) + 1 := wrap_small _ (by omega) (by omega)
        have hwr2 : IntKind.i64.wrap ((k : Int) - (a : Int)) = (k : Int) - (a : Int) := wrap_small _ (by omega) (by omega)
        have ha1 : (a : Int) + 1 ≤ (s.size : Int) := by omega
        have ha2 : (a : Int) ≤ (a : Int) + 1 := by omega
        have ha3 : (0 : Int) ≤ (a : Int) := by omega
        clear hX hD m1 m2 m3 m4 m5 hE1 hx1 hit
        by_cases h0a : a = 0
        · have haI : ¬ (0 : Int) < (a : Int) := by omega
          have HA0 := Lib.hid h0a
          clear h0a
          by_cases hlt : k < s.size
          · have hltI : (k : Int) < (s.size : Int) := by omega
            have hne : ¬ s[k].toNat = s[a].toNat := fun e => hA ⟨hlt, e⟩
            have hneb : ((s[k].toNat : Int) == (s[a].toNat : Int)) = false := by simp; omega
            clear hne
            go_wp2_with fail
            go_quiet (fail)
            obtain ⟨wq, hwq⟩ : ∃ W, wr.drewN nq = W := ⟨_, rfl⟩
            have HBq : Hid (Below w.heap.size w wq) := by rw [← hwq]; exact below_drewN HB.out
            rw [hwq]
            clear hwq
            go_wp2_with fail
            go_region_with ((go_at_call 15; refine (HDEC.out _).mono ?_; rintro e W6 ⟨rfl, b6⟩; have HB6 := Lib.hid b6; clear b6))
            all_goals
              have HB7 : Hid (Below w.heap.size w W6) := HBq.out.trans ⟨HB6.out.os, HB6.out.tape, HB6.out.output, HB6.out.size, fun j hj => HB6.out.block j (Nat.lt_of_lt_of_le hj HBq.out.size)⟩
              go_wp2
              go_roundw
              case rel => exact ⟨k + 1, k, _, by omega, by omega, by omega, HN.out, by rw [← HE0.out HA0.out], rfl, by go_num, by first | exact HB7.out | exact below_drewN HB7.out⟩
              case measure => simp [intOf]; omega
          · have hltI : ¬ (k : Int) < (s.size : Int) := by omega
            go_wp2_with fail
            go_quiet (fail)
            obtain ⟨wq, hwq⟩ : ∃ W, wr.drewN nq = W := ⟨_, rfl⟩
            have HBq : Hid (Below w.heap.size w wq) := by rw [← hwq]; exact below_drewN HB.out
            rw [hwq]
            clear hwq
            go_wp2_with fail
            go_region_with ((go_at_call 15; refine (HDEC.out _).mono ?_; rintro e W6 ⟨rfl, b6⟩; have HB6 := Lib.hid b6; clear b6))
            all_goals
              have HB7 : Hid (Below w.heap.size w W6) := HBq.out.trans ⟨HB6.out.os, HB6.out.tape, HB6.out.output, HB6.out.size, fun j hj => HB6.out.block j (Nat.lt_of_lt_of_le hj HBq.out.size)⟩
              go_wp2
              go_roundw
              case rel => exact ⟨k + 1, k, _, by omega, by omega, by omega, HN.out, by rw [← HE0.out HA0.out], rfl, by go_num, by first | exact HB7.out | exact below_drewN HB7.out⟩
              case measure => simp [intOf]; omega
        · have haI : (0 : Int) < (a : Int) := by omega
          by_cases hlt : k < s.size
          · have hltI : (k : Int) < (s.size : Int) := by omega
            have hne : ¬ s[k].toNat = s[a].toNat := fun e => hA ⟨hlt, e⟩
            have hneb : ((s[k].toNat : Int) == (s[a].toNat : Int)) = false := by simp; omega
            clear hne
            go_wp2_with fail
            go_quiet (fail)
            obtain ⟨wq, hwq⟩ : ∃ W, wr.drewN nq = W := ⟨_, rfl⟩
            have HBq : Hid (Below w.heap.size w wq) := by rw [← hwq]; exact below_drewN HB.out
            rw [hwq]
            clear hwq
            go_wp2_with fail
            go_region_with ((go_at_call 15; refine (HDEC.out _).mono ?_; rintro e W6 ⟨rfl, b6⟩; have HB6 := Lib.hid b6; clear b6))
            all_goals
              have HB7 : Hid (Below w.heap.size w W6) := HBq.out.trans ⟨HB6.out.os, HB6.out.tape, HB6.out.output, HB6.out.size, fun j hj => HB6.out.block j (Nat.lt_of_lt_of_le hj HBq.out.size)⟩
              go_wp2
              go_roundw
              case rel => exact ⟨k + 1, k, _, by omega, by omega, by omega, HN.out, by rw [← HE1.out h0a], rfl, by go_num, by first | exact HB7.out | exact below_drewN HB7.out⟩
              case measure => simp [intOf]; omega
          · have hltI : ¬ (k : Int) < (s.size : Int) := by omega
            go_wp2_with fail
            go_quiet (fail)
            obtain ⟨wq, hwq⟩ : ∃ W, wr.drewN nq = W := ⟨_, rfl⟩
            have HBq : Hid (Below w.heap.size w wq) := by rw [← hwq]; exact below_drewN HB.out
            rw [hwq]
            clear hwq
            go_wp2_with fail
            go_region_with ((go_at_call 15; refine (HDEC.out _).mono ?_; rintro e W6 ⟨rfl, b6⟩; have HB6 := Lib.hid b6; clear b6))
            all_goals
              have HB7 : Hid (Below w.heap.size w W6) := HBq.out.trans ⟨HB6.out.os, HB6.out.tape, HB6.out.output, HB6.out.size, fun j hj => HB6.out.block j (Nat.lt_of_lt_of_le hj HBq.out.size)⟩
              go_wp2
              go_roundw
              case rel => exact ⟨k + 1, k, _, by omega, by omega, by omega, HN.out, by rw [← HE1.out h0a], rfl, by go_num, by first | exact HB7.out | exact below_drewN HB7.out⟩
              case measure => simp [intOf]; omega
    · obtain rfl : k = s.size + 1 := by omega
      have hLe : L = runT (runsL s) := by
        rcases hR with ⟨h, _⟩ | ⟨_, h⟩
        · omega
        · exact h
      subst hLe
      have hkI : ¬ ((s.size + 1 : Nat) : Int) ≤ (s.size : Int) := by omega
      have hne : (⟨(runT (runsL s)).toArray⟩ : ByteArray).toList.isEmpty = false := by
        rw [ByteArray.toList_eq]
        have := HNE.out
        cases hl : runT (runsL s) with
        | nil => rw [hl] at this; simp at this
        | cons _ _ => rfl
      have hne2 : ((⟨(runT (runsL s)).toArray⟩ : ByteArray).toList == []) = false := by
        cases hl : (⟨(runT (runsL s)).toArray⟩ : ByteArray).toList with
        | nil => rw [hl] at hne; cases hne
        | cons _ _ => rfl
      clear hR
      obtain ⟨X, hX⟩ : ∃ X : ByteArray, (⟨(runT (runsL s)).toArray⟩ : ByteArray) = X := ⟨_, rfl⟩
      rw [hX] at hne hne2 ⊢
      go_wp2
      go_ret
      exact ⟨by first | rfl | rw [hX], HB.out⟩
end Go.Proofs.YtipidbceempeiaaDoor
