/- A wave without short gaps: the program's side. -/
import Derived.Test.YtafecdmcbpnniabDoorFillT
import Derived.Test.YtafecdmcbpnniabDoorDropI
import Derived.Shelf.Strings.Trim
namespace Go.Proofs.YtafecdmcbpnniabDoor
open Go.RowKit Go.Shelf
set_option linter.unusedVariables false
set_option linter.unusedSimpArgs false

set_option maxHeartbeats 1000000 in
set_option maxRecDepth 100000 in
theorem implFill_t (s : ByteArray) (T : Nat) (w : World) (mx : Int) (hmx : w.cell? ⟨0, 0, none⟩ = some (.int .i64 mx)) (hs : s.size ≤ maxLen) (hc : canB s (T : Int) = true) :
    Calls Tryd.prog 10 #[.string s, .int .i64 (T : Int)] w fun e w' => e = .returned (.tuple #[.string ⟨(fillP (T : Int) s.data.toList s.size ((endsL (s.size : Int) (edgesL 49 s.data.toList s.size) (edgesL 48 s.data.toList s.size)).zip (edgesL 49 s.data.toList s.size).tail)).toArray⟩, .bool true]) ∧ Below w.heap.size w w' := by
  obtain ⟨hw, hT1, hT2⟩ := canB_t hc
  have hz := wave_le hw
  have hall : s.data.toList.all lvlB = true := by
    unfold waveB at hw; simp only [Bool.and_eq_true] at hw; exact hw.1
  have HF := Lib.hid (fun w => canF_any s (T : Int) w hs)
  rw [hc] at HF
  obtain ⟨u, B, E, hu, hul, hua, hB, hE, hO, hsum, hfill⟩ := fill_parts s (T : Int) hall _ _ rfl rfl
  have hlt := World.block_lt_of_cell? w _ hmx
  have HMX := Lib.hid hmx
  have HTR := Lib.hid (fun w => Tryd.strings_Trim_one s 48 (by decide) w (by omega))
  rw [← hu] at HTR
  have HCU := Lib.hid (fun w hm => Tryd.strings_Cut s u mx w (by omega) hm)
  rw [hB, hE, hO] at HCU
  have eB : (⟨B.data.toList.toArray⟩ : ByteArray) = B := by simp
  have eE : (⟨E.data.toList.toArray⟩ : ByteArray) = E := by simp
  rw [eB, eE] at HCU
  have HW := Lib.hid (fun w => callsIn_wide (n := 8).1 (implWithout 8 (Nat.le_refl _) u 48 (T : Int) w (by omega) hua (.inl rfl) (by omega)))
  have hpl := partsT_size u 48 (T : Int) hua
  obtain ⟨X, hX⟩ : ∃ X, partsT 48 (T : Int) (runsL u) = X := ⟨_, rfl⟩
  rw [hX] at HW hpl hfill
  have hXs : (⟨X.toArray⟩ : ByteArray).size = X.length := by rw [← size_toList]
  have hfin : (B ++ ⟨X.toArray⟩ ++ E : ByteArray) = ⟨(fillP (T : Int) s.data.toList s.size ((endsL (s.size : Int) (edgesL 49 s.data.toList s.size) (edgesL 48 s.data.toList s.size)).zip (edgesL 49 s.data.toList s.size).tail)).toArray⟩ := by
    rw [← hfill]
    apply ByteArray.ext
    apply Array.ext'
    simp
  rw [← hfin]
  have h1 : B.size + (⟨X.toArray⟩ : ByteArray).size ≤ 400 := by rw [hXs]; omega
  have h2 : B.size + (⟨X.toArray⟩ : ByteArray).size + E.size ≤ 400 := by rw [hXs]; omega
  obtain ⟨Y, hY⟩ : ∃ Y, (⟨X.toArray⟩ : ByteArray) = Y := ⟨_, rfl⟩
  rw [hY] at HW h1 h2 ⊢
  clear hw hc hall hmx hu hua hB hE hO eB eE hpl hX hXs hfin hfill hY
  go_enter Tryd.func10, Tryd.ntmps10
  go_wp2_with fail
  refine (HF.out _).mono ?_; rintro e w1 ⟨rfl, b1⟩
  have HB1 := Lib.hid b1
  clear b1
  go_wp2_with fail
  refine (HTR.out _).mono (R' := fun e w' => e = .returned (.string u) ∧ Below w1.heap.size w1 w') (fun e w' h => ⟨h.1, by rcases h.2 with rfl | rfl <;> first | exact Below.refl _ _ | exact ⟨rfl, rfl, rfl, Nat.le_refl _, fun _ _ => rfl⟩⟩) |>.mono ?_
  rintro e w2 ⟨rfl, b2⟩
  have HB2 := Lib.hid (HB1.out.trans (b2.mono HB1.out.size))
  clear b2
  have hm2 : w2.cell? ⟨0, 0, none⟩ = some (.int .i64 mx) := (HB2.out.cell (p := ⟨0, 0, none⟩) hlt).trans HMX.out
  have HM2 := Lib.hid hm2
  clear hm2
  go_wp2_with fail
  refine (HCU.out _ HM2.out).mono ?_
  rintro e w3 ⟨rfl, q, rfl⟩
  go_wp2_with fail
  refine (HW.out _).mono ?_; rintro e w4 ⟨rfl, b4⟩
  have HB4 := Lib.hid (HB2.out.trans (Below.mono ⟨b4.os, b4.tape, b4.output, b4.size, b4.block⟩ HB2.out.size : Below w.heap.size w2 w4))
  clear b4
  go_wp2
  go_ret2
  exact ⟨rfl, HB4.out⟩
theorem implFill_f (s : ByteArray) (T : Int) (w : World) (hs : s.size ≤ maxLen) (hc : canB s T = false) :
    Calls Tryd.prog 10 #[.string s, .int .i64 T] w fun e w' => e = .returned (.tuple #[.string ⟨#[]⟩, .bool false]) ∧ Below w.heap.size w w' := by
  have HF := Lib.hid (fun w => canF_any s T w hs)
  rw [hc] at HF
  clear hc
  go_enter Tryd.func10, Tryd.ntmps10
  go_wp2_with fail
  refine (HF.out _).mono ?_; rintro e w1 ⟨rfl, b1⟩
  go_wp2
  go_ret2
  exact ⟨rfl, b1⟩
end Go.Proofs.YtafecdmcbpnniabDoor
