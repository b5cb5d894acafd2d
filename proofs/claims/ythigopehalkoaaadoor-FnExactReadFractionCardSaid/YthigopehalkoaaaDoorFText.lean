/- The text of a fraction, on both sides. -/
import Derived.Test.YthigopehalkoaaaDoorDecLaw
import Derived.Test.YthigopehalkoaaaDoorFracWalk
import Derived.Test.YthigopehalkoaaaDoorKept
import Derived.Test.YthigopehalkoaaaDoorTextMath
import Derived.Deep.RegionHeld3
namespace Go.Proofs.YthigopehalkoaaaDoor
open Go.RowKit Go.Lib
set_option linter.unusedVariables false

def ftx (n d : Int) : List UInt8 := if d = 1 then itoa n else itoa n ++ [47] ++ itoa d
theorem bytes_app (a b : List UInt8) : ((⟨a.toArray⟩ : ByteArray) ++ (⟨b.toArray⟩ : ByteArray)) = ⟨(a ++ b).toArray⟩ := by
  apply ByteArray.ext
  rw [ByteArray.data_append]
  simp
/-- a world of this call's, behind w, in which the library's tables stand -/
structure Dw (w W : World) : Prop where
  door : DoorW W
  bel : Below w.heap.size w W
theorem Dw.dr {w W : World} (h : Dw w W) : Dw w W.drew := ⟨⟨h.door.tab⟩, ⟨h.bel.os, h.bel.tape, h.bel.output, h.bel.size, h.bel.block⟩⟩
theorem Dw.call {w W W1 : World} (h : Dw w W) (hb : Below W.heap.size W W1) : Dw w W1 := ⟨h.door.on hb, h.bel.trans (hb.mono h.bel.size)⟩
theorem Dw.al {w W : World} (h : Dw w W) (o : Obj) : Dw w (W.alloc o) := h.call ((Below.refl _ W).alloc (Nat.le_refl _) o)
theorem Dw.rest {w W : World} (h : Dw w W) : Dw w W := h
theorem cell_drF {W : World} {a : Addr} {v : Value} (h : W.cell? a = some v) : W.drew.cell? a = some v := h

set_option maxHeartbeats 2000000 in
set_option maxRecDepth 100000 in
theorem specFText_one (n d : Int) (w : World) (hd : DoorW w) (hv : fracB n d = true) (h1 : d = 1) :
    Calls Tryd.prog 49 #[.agg #[.int .i64 n, .int .i64 d]] w fun e w' => e = .returned (.string ⟨(ftx n d).toArray⟩) ∧ Below w.heap.size w w' := by
  have hb := hv
  unfold fracB at hb
  simp only [decide_eq_true_eq] at hb
  obtain ⟨d1, d2, n1, n2, _⟩ := hb
  have HV := Lib.hid hv
  obtain ⟨X, hX⟩ : ∃ X : ByteArray, (⟨(itoa n).toArray⟩ : ByteArray) = X := ⟨_, rfl⟩
  have hsx : X.size ≤ 21 := by rw [← hX]; exact itoa_length_le n (by omega) (by omega)
  have CN : Hid (∀ W, Dw w W → Calls Tryd.prog 44 #[.int .i64 n] W fun e w' => e = .returned (.string X) ∧ Below W.heap.size W w') := fun W h => by rw [← hX]; exact specDec n W (by omega) (by omega)
  have HE : Hid (ftx n d = itoa n) := by rw [Hid, ftx, if_pos h1]
  subst h1
  have HX := Lib.hid hX
  have hDw : Dw w (w.alloc (.cells #[.int .i64 n, .int .i64 1] 31)) := Dw.al ⟨hd, Below.refl _ _⟩ _
  have HDW := Lib.hid hDw
  clear hv hX hd hDw
  go_enter Tryd.func49, Tryd.ntmps49
  go_wp2_with fail
  refine (CN.out _ HDW.out).mono ?_; rintro e w2 ⟨rfl, hb2⟩
  have HB := Lib.hid (HDW.out.call hb2).bel
  clear hb2
  go_wp2
  go_ret
  exact ⟨by rw [HE.out, HX.out]; rfl, HB.out⟩

set_option maxHeartbeats 2000000 in
set_option maxRecDepth 100000 in
theorem specFText_two (n d : Int) (w : World) (hd : DoorW w) (hv : fracB n d = true) (h1 : d ≠ 1) :
    Calls Tryd.prog 49 #[.agg #[.int .i64 n, .int .i64 d]] w fun e w' => e = .returned (.string ⟨(ftx n d).toArray⟩) ∧ Below w.heap.size w w' := by
  have hb := hv
  unfold fracB at hb
  simp only [decide_eq_true_eq] at hb
  obtain ⟨d1, d2, n1, n2, _⟩ := hb
  have HV := Lib.hid hv
  obtain ⟨X, hX⟩ : ∃ X : ByteArray, (⟨(itoa n).toArray⟩ : ByteArray) = X := ⟨_, rfl⟩
  have hsx : X.size ≤ 21 := by rw [← hX]; exact itoa_length_le n (by omega) (by omega)
  have CN : Hid (∀ W, Dw w W → Calls Tryd.prog 44 #[.int .i64 n] W fun e w' => e = .returned (.string X) ∧ Below W.heap.size W w') := fun W h => by rw [← hX]; exact specDec n W (by omega) (by omega)
  obtain ⟨Y, hY⟩ : ∃ Y : ByteArray, (⟨(itoa d).toArray⟩ : ByteArray) = Y := ⟨_, rfl⟩
  have hsy : Y.size ≤ 21 := by rw [← hY]; exact itoa_length_le d (by omega) (by omega)
  have CD : Hid (∀ W, Dw w W → Calls Tryd.prog 44 #[.int .i64 d] W fun e w' => e = .returned (.string Y) ∧ Below W.heap.size W w') := fun W h => by rw [← hY]; exact specDec d W (by omega) (by omega)
  have hz47 : (⟨#[47]⟩ : ByteArray).size = 1 := rfl
  have hm1 : X.size + (⟨#[47]⟩ : ByteArray).size ≤ 9223372036854775807 := by omega
  have hm2 : (X ++ ⟨#[47]⟩).size + Y.size ≤ 9223372036854775807 := by rw [ByteArray.size_append]; omega
  have hadd1 := fun w => run_string_add_sum (P := Tryd.prog) w X ⟨#[47]⟩ hm1
  have hadd2 := fun w => run_string_add_sum (P := Tryd.prog) w (X ++ ⟨#[47]⟩) Y hm2
  have HE : Hid ((⟨(ftx n d).toArray⟩ : ByteArray) = X ++ ⟨#[47]⟩ ++ Y) := by
    rw [Hid, ftx, if_neg h1, ← hX, ← hY, show (⟨#[47]⟩ : ByteArray) = ⟨([47] : List UInt8).toArray⟩ from rfl, bytes_app, bytes_app]
  obtain ⟨Z1, hZ1⟩ : ∃ Z1, X ++ ⟨#[47]⟩ = Z1 := ⟨_, rfl⟩
  rw [hZ1] at hadd1 hadd2 HE
  obtain ⟨Z2, hZ2⟩ : ∃ Z2, Z1 ++ Y = Z2 := ⟨_, rfl⟩
  rw [hZ2] at hadd2 HE
  clear hm1 hm2 hz47 hZ1 hZ2
  have hd1 : (d == 1) = false := beq_eq_false_iff_ne.2 h1
  have hDw : Dw w (w.alloc (.cells #[.int .i64 n, .int .i64 d] 31)) := Dw.al ⟨hd, Below.refl _ _⟩ _
  have HDW := Lib.hid hDw
  have HX := Lib.hid hX
  have HY := Lib.hid hY
  clear hv hX hY hd hDw h1
  rw [HE.out]
  go_enter Tryd.func49, Tryd.ntmps49
  have HD1 := HDW.out
  have c0 : (w.alloc (.cells #[.int .i64 n, .int .i64 d] 31)).cell? ⟨w.heap.size, 0, none⟩ = some (.int .i64 n) := by simp [go_sem]
  have c1 : (w.alloc (.cells #[.int .i64 n, .int .i64 d] 31)).cell? ⟨w.heap.size, 1, none⟩ = some (.int .i64 d) := by simp [go_sem]
  go_wp2
  go_region_held3 (fun W => W.cell? ⟨w.heap.size, 0, none⟩ = some (.int .i64 n) ∧ W.cell? ⟨w.heap.size, 1, none⟩ = some (.int .i64 d) ∧ Dw w W) (first | (go_split_ands; (refine ⟨?_, ?_, ?_⟩ <;> (first | (with_reducible assumption) | ((with_reducible apply cell_kept) <;> (with_reducible assumption)) | ((with_reducible refine cell_drF ?_); (with_reducible assumption)) | ((with_reducible refine Dw.dr ?_); (with_reducible assumption)) | ((with_reducible apply Dw.call) <;> (with_reducible assumption)))))) (first | (go_at_call 44; first | ((with_reducible refine (CN.out _ ?_).mono ?_); (focus (first | (with_reducible assumption) | ((with_reducible refine Dw.dr ?_); (with_reducible assumption)) | ((with_reducible refine Dw.call ?_ hb2); (first | (with_reducible assumption) | ((with_reducible refine Dw.dr ?_); (with_reducible assumption)))) | ((with_reducible refine Dw.dr ?_); (with_reducible refine Dw.call ?_ hb2); (first | (with_reducible assumption) | ((with_reducible refine Dw.dr ?_); (with_reducible assumption)))) | ((with_reducible refine Dw.call ?_ hb3); (first | (with_reducible assumption) | ((with_reducible refine Dw.dr ?_); (with_reducible assumption)))) | ((with_reducible refine Dw.dr ?_); (with_reducible refine Dw.call ?_ hb3); (first | (with_reducible assumption) | ((with_reducible refine Dw.dr ?_); (with_reducible assumption))))); done); rintro e w2 ⟨rfl, hb2⟩) | ((with_reducible refine (CD.out _ ?_).mono ?_); (focus (first | (with_reducible assumption) | ((with_reducible refine Dw.dr ?_); (with_reducible assumption)) | ((with_reducible refine Dw.call ?_ hb2); (first | (with_reducible assumption) | ((with_reducible refine Dw.dr ?_); (with_reducible assumption)))) | ((with_reducible refine Dw.dr ?_); (with_reducible refine Dw.call ?_ hb2); (first | (with_reducible assumption) | ((with_reducible refine Dw.dr ?_); (with_reducible assumption)))) | ((with_reducible refine Dw.call ?_ hb3); (first | (with_reducible assumption) | ((with_reducible refine Dw.dr ?_); (with_reducible assumption)))) | ((with_reducible refine Dw.dr ?_); (with_reducible refine Dw.call ?_ hb3); (first | (with_reducible assumption) | ((with_reducible refine Dw.dr ?_); (with_reducible assumption))))); done); rintro e w3 ⟨rfl, hb3⟩)))
  all_goals go_wp2
  all_goals go_ret
  all_goals (rename_i hHeld; exact ⟨rfl, hHeld.2.2.bel⟩)

set_option maxHeartbeats 2000000 in
set_option maxRecDepth 100000 in
theorem implFText_one (n d : Int) (w : World) (hd : DoorW w) (hv : fracB n d = true) (h1 : d = 1) :
    Calls Tryd.prog 19 #[.agg #[.int .i64 n, .int .i64 d]] w fun e w' => e = .returned (.tuple #[.string ⟨(ftx n d).toArray⟩, .bool true]) ∧ Below w.heap.size w w' := by
  have hb := hv
  unfold fracB at hb
  simp only [decide_eq_true_eq] at hb
  obtain ⟨d1, d2, n1, n2, _⟩ := hb
  have HV := Lib.hid hv
  obtain ⟨X, hX⟩ : ∃ X : ByteArray, (⟨(itoa n).toArray⟩ : ByteArray) = X := ⟨_, rfl⟩
  have hsx : X.size ≤ 21 := by rw [← hX]; exact itoa_length_le n (by omega) (by omega)
  have CN : Hid (∀ W, Dw w W → Calls Tryd.prog 14 #[.int .i64 n] W fun e w' => e = .returned (.string X) ∧ Below W.heap.size W w') := fun W h => by rw [← hX]; exact implDec n W (by omega) (by omega) h.door
  have HE : Hid (ftx n d = itoa n) := by rw [Hid, ftx, if_pos h1]
  subst h1
  have HX := Lib.hid hX
  have hDw : Dw w (w.alloc (.cells #[.int .i64 n, .int .i64 1] 31)) := Dw.al ⟨hd, Below.refl _ _⟩ _
  have HDW := Lib.hid hDw
  clear hv hX hd hDw
  go_enter Tryd.func19, Tryd.ntmps19
  go_wp2_with fail
  refine (implValid n 1 _).mono ?_; rw [HV.out]; rintro e w1 ⟨rfl, hb1⟩
  have c0 := cell_kept hb1 (a := ⟨w.heap.size, 0, none⟩) (v := .int .i64 n) (by simp [go_sem])
  have c1 := cell_kept hb1 (a := ⟨w.heap.size, 1, none⟩) (v := .int .i64 1) (by simp [go_sem])
  have HD1 := Lib.hid (HDW.out.call hb1)
  clear hb1
  go_wp2_with fail
  refine (CN.out _ HD1.out).mono ?_; rintro e w2 ⟨rfl, hb2⟩
  have HB := Lib.hid (HD1.out.call hb2).bel
  clear hb2
  go_wp2
  go_ret2
  exact ⟨by rw [HE.out, HX.out]; rfl, HB.out⟩

set_option maxHeartbeats 2000000 in
set_option maxRecDepth 100000 in
theorem implFText_two (n d : Int) (w : World) (hd : DoorW w) (hv : fracB n d = true) (h1 : d ≠ 1) :
    Calls Tryd.prog 19 #[.agg #[.int .i64 n, .int .i64 d]] w fun e w' => e = .returned (.tuple #[.string ⟨(ftx n d).toArray⟩, .bool true]) ∧ Below w.heap.size w w' := by
  have hb := hv
  unfold fracB at hb
  simp only [decide_eq_true_eq] at hb
  obtain ⟨d1, d2, n1, n2, _⟩ := hb
  have HV := Lib.hid hv
  obtain ⟨X, hX⟩ : ∃ X : ByteArray, (⟨(itoa n).toArray⟩ : ByteArray) = X := ⟨_, rfl⟩
  have hsx : X.size ≤ 21 := by rw [← hX]; exact itoa_length_le n (by omega) (by omega)
  have CN : Hid (∀ W, Dw w W → Calls Tryd.prog 14 #[.int .i64 n] W fun e w' => e = .returned (.string X) ∧ Below W.heap.size W w') := fun W h => by rw [← hX]; exact implDec n W (by omega) (by omega) h.door
  obtain ⟨Y, hY⟩ : ∃ Y : ByteArray, (⟨(itoa d).toArray⟩ : ByteArray) = Y := ⟨_, rfl⟩
  have hsy : Y.size ≤ 21 := by rw [← hY]; exact itoa_length_le d (by omega) (by omega)
  have CD : Hid (∀ W, Dw w W → Calls Tryd.prog 14 #[.int .i64 d] W fun e w' => e = .returned (.string Y) ∧ Below W.heap.size W w') := fun W h => by rw [← hY]; exact implDec d W (by omega) (by omega) h.door
  have hz47 : (⟨#[47]⟩ : ByteArray).size = 1 := rfl
  have hm1 : X.size + (⟨#[47]⟩ : ByteArray).size ≤ 9223372036854775807 := by omega
  have hm2 : (X ++ ⟨#[47]⟩).size + Y.size ≤ 9223372036854775807 := by rw [ByteArray.size_append]; omega
  have hadd1 := fun w => run_string_add_sum (P := Tryd.prog) w X ⟨#[47]⟩ hm1
  have hadd2 := fun w => run_string_add_sum (P := Tryd.prog) w (X ++ ⟨#[47]⟩) Y hm2
  have HE : Hid ((⟨(ftx n d).toArray⟩ : ByteArray) = X ++ ⟨#[47]⟩ ++ Y) := by
    rw [Hid, ftx, if_neg h1, ← hX, ← hY, show (⟨#[47]⟩ : ByteArray) = ⟨([47] : List UInt8).toArray⟩ from rfl, bytes_app, bytes_app]
  obtain ⟨Z1, hZ1⟩ : ∃ Z1, X ++ ⟨#[47]⟩ = Z1 := ⟨_, rfl⟩
  rw [hZ1] at hadd1 hadd2 HE
  obtain ⟨Z2, hZ2⟩ : ∃ Z2, Z1 ++ Y = Z2 := ⟨_, rfl⟩
  rw [hZ2] at hadd2 HE
  clear hm1 hm2 hz47 hZ1 hZ2
  have hd1 : (d == 1) = false := beq_eq_false_iff_ne.2 h1
  have hDw : Dw w (w.alloc (.cells #[.int .i64 n, .int .i64 d] 31)) := Dw.al ⟨hd, Below.refl _ _⟩ _
  have HDW := Lib.hid hDw
  have HX := Lib.hid hX
  have HY := Lib.hid hY
  clear hv hX hY hd hDw h1
  rw [HE.out]
  go_enter Tryd.func19, Tryd.ntmps19
  go_wp2_with fail
  refine (implValid n d _).mono ?_; rw [HV.out]; rintro e w1 ⟨rfl, hb1⟩
  have c0 := cell_kept hb1 (a := ⟨w.heap.size, 0, none⟩) (v := .int .i64 n) (by simp [go_sem])
  have c1 := cell_kept hb1 (a := ⟨w.heap.size, 1, none⟩) (v := .int .i64 d) (by simp [go_sem])
  have HD1 := HDW.out.call hb1
  clear hb1
  go_wp2
  go_region_held3 (fun W => W.cell? ⟨w.heap.size, 0, none⟩ = some (.int .i64 n) ∧ W.cell? ⟨w.heap.size, 1, none⟩ = some (.int .i64 d) ∧ Dw w W) (first | (go_split_ands; (refine ⟨?_, ?_, ?_⟩ <;> (first | (with_reducible assumption) | ((with_reducible apply cell_kept) <;> (with_reducible assumption)) | ((with_reducible refine cell_drF ?_); (with_reducible assumption)) | ((with_reducible refine Dw.dr ?_); (with_reducible assumption)) | ((with_reducible apply Dw.call) <;> (with_reducible assumption)))))) (first | (go_at_call 14; first | ((with_reducible refine (CN.out _ ?_).mono ?_); (focus (first | (with_reducible assumption) | ((with_reducible refine Dw.dr ?_); (with_reducible assumption)) | ((with_reducible refine Dw.call ?_ hb2); (first | (with_reducible assumption) | ((with_reducible refine Dw.dr ?_); (with_reducible assumption)))) | ((with_reducible refine Dw.dr ?_); (with_reducible refine Dw.call ?_ hb2); (first | (with_reducible assumption) | ((with_reducible refine Dw.dr ?_); (with_reducible assumption)))) | ((with_reducible refine Dw.call ?_ hb3); (first | (with_reducible assumption) | ((with_reducible refine Dw.dr ?_); (with_reducible assumption)))) | ((with_reducible refine Dw.dr ?_); (with_reducible refine Dw.call ?_ hb3); (first | (with_reducible assumption) | ((with_reducible refine Dw.dr ?_); (with_reducible assumption))))); done); rintro e w2 ⟨rfl, hb2⟩) | ((with_reducible refine (CD.out _ ?_).mono ?_); (focus (first | (with_reducible assumption) | ((with_reducible refine Dw.dr ?_); (with_reducible assumption)) | ((with_reducible refine Dw.call ?_ hb2); (first | (with_reducible assumption) | ((with_reducible refine Dw.dr ?_); (with_reducible assumption)))) | ((with_reducible refine Dw.dr ?_); (with_reducible refine Dw.call ?_ hb2); (first | (with_reducible assumption) | ((with_reducible refine Dw.dr ?_); (with_reducible assumption)))) | ((with_reducible refine Dw.call ?_ hb3); (first | (with_reducible assumption) | ((with_reducible refine Dw.dr ?_); (with_reducible assumption)))) | ((with_reducible refine Dw.dr ?_); (with_reducible refine Dw.call ?_ hb3); (first | (with_reducible assumption) | ((with_reducible refine Dw.dr ?_); (with_reducible assumption))))); done); rintro e w3 ⟨rfl, hb3⟩)))
  all_goals go_wp2
  all_goals go_ret2
  all_goals (rename_i hHeld; exact ⟨rfl, hHeld.2.2.bel⟩)

theorem specFText (n d : Int) (w : World) (hd : DoorW w) (hv : fracB n d = true) :
    Calls Tryd.prog 49 #[.agg #[.int .i64 n, .int .i64 d]] w fun e w' => e = .returned (.string ⟨(ftx n d).toArray⟩) ∧ Below w.heap.size w w' := by
  by_cases h1 : d = 1
  · exact specFText_one n d w hd hv h1
  · exact specFText_two n d w hd hv h1
/-- the answer of FractionText -/
def ftxV (n d : Int) : Value := if fracB n d then .tuple #[.string ⟨(ftx n d).toArray⟩, .bool true] else .tuple #[.string ⟨#[]⟩, .bool false]
theorem implFText (n d : Int) (w : World) (hd : DoorW w) :
    Calls Tryd.prog 19 #[.agg #[.int .i64 n, .int .i64 d]] w fun e w' => e = .returned (ftxV n d) ∧ Below w.heap.size w w' := by
  unfold ftxV
  cases hv : fracB n d with
  | true =>
    by_cases h1 : d = 1
    · exact implFText_one n d w hd hv h1
    · exact implFText_two n d w hd hv h1
  | false =>
    have HV := Lib.hid hv
    clear hv hd
    go_enter Tryd.func19, Tryd.ntmps19
    go_wp2_with fail
    refine (implValid n d _).mono ?_; rw [HV.out]; rintro e w1 ⟨rfl, hb1⟩
    have HB := Lib.hid (((Below.refl w.heap.size w).alloc (Nat.le_refl _) (.cells #[.int .i64 n, .int .i64 d] 31)).trans (hb1.mono (by simp)))
    clear hb1
    go_wp2
    go_ret2
    exact ⟨rfl, HB.out⟩
theorem specFTextV (n d : Int) (w : World) (hd : DoorW w) :
    Calls Tryd.prog 17 #[.agg #[.int .i64 n, .int .i64 d]] w fun e w' => e = .returned (ftxV n d) ∧ Below w.heap.size w w' := by
  unfold ftxV
  cases hv : fracB n d with
  | true =>
    have HV := Lib.hid hv
    have HD := Lib.hid (Dw.al (w := w) ⟨hd, Below.refl _ _⟩ (.cells #[.int .i64 n, .int .i64 d] 31))
    clear hv hd
    go_enter Tryd.func17, Tryd.ntmps17
    go_wp2_with fail
    refine (l01FIs_any n d _).mono ?_; rw [HV.out]; rintro e w1 ⟨rfl, hb1⟩
    have c0 := cell_kept hb1 (a := ⟨w.heap.size, 0, none⟩) (v := .int .i64 n) (by simp [go_sem])
    have c1 := cell_kept hb1 (a := ⟨w.heap.size, 1, none⟩) (v := .int .i64 d) (by simp [go_sem])
    have HD1 := Lib.hid (HD.out.call hb1)
    clear hb1
    go_wp2_with fail
    refine (specFText n d _ HD1.out.door HV.out).mono ?_; rintro e w2 ⟨rfl, hb2⟩
    have HB := Lib.hid (HD1.out.call hb2).bel
    clear hb2
    go_wp2
    go_ret2
    exact ⟨rfl, HB.out⟩
  | false =>
    have HV := Lib.hid hv
    clear hv hd
    go_enter Tryd.func17, Tryd.ntmps17
    go_wp2_with fail
    refine (l01FIs_any n d _).mono ?_; rw [HV.out]; rintro e w1 ⟨rfl, hb1⟩
    have HB := Lib.hid (((Below.refl w.heap.size w).alloc (Nat.le_refl _) (.cells #[.int .i64 n, .int .i64 d] 31)).trans (hb1.mono (by simp)))
    clear hb1
    go_wp2
    go_ret2
    exact ⟨rfl, HB.out⟩
theorem walk_FnExactFractionText (n d : Int) (w : World) (_wn : (Lit.int .i64 n).wf = true) (_wd : (Lit.int .i64 d).wf = true) (hd : DoorW w) :
    Calls Tryd.prog 5 #[.agg #[.int .i64 n, .int .i64 d]] w fun e w' => e = .returned (.bool true) ∧ Below w.heap.size w w' := by
  obtain ⟨X, b, hXb⟩ : ∃ (X : ByteArray) (b : Bool), ftxV n d = .tuple #[.string X, .bool b] := by
    unfold ftxV; split
    · exact ⟨_, _, rfl⟩
    · exact ⟨_, _, rfl⟩
  have HS := Lib.hid (fun W (h : Dw w W) => specFTextV n d W h.door)
  have HI := Lib.hid (fun W (h : Dw w W) => implFText n d W h.door)
  rw [hXb] at HS HI
  have HD := Lib.hid (Dw.al (w := w) ⟨hd, Below.refl _ _⟩ (.cells #[.int .i64 n, .int .i64 d] 28))
  clear hXb hd
  go_enter Tryd.func5, Tryd.ntmps5
  go_wp2_with fail
  refine (toFraction_any _ _ _).mono ?_; rintro e w1 ⟨rfl, hb1⟩
  have c0 := cell_kept hb1 (a := ⟨w.heap.size, 0, none⟩) (v := .int .i64 n) (by simp [go_sem])
  have c1 := cell_kept hb1 (a := ⟨w.heap.size, 1, none⟩) (v := .int .i64 d) (by simp [go_sem])
  have HD1 := Lib.hid (HD.out.call hb1)
  clear hb1
  go_wp2_with fail
  refine (HS.out _ HD1.out).mono ?_; rintro e w2 ⟨rfl, hb2⟩
  have d0 := cell_kept hb2 c0
  have d1 := cell_kept hb2 c1
  have HD2 := Lib.hid (HD1.out.call hb2)
  clear hb2 c0 c1
  go_wp2_with fail
  refine (toFraction_any _ _ _).mono ?_; rintro e w3 ⟨rfl, hb3⟩
  have HD3 := Lib.hid (HD2.out.call hb3)
  clear hb3 d0 d1
  go_wp2_with fail
  refine (HI.out _ HD3.out).mono ?_; rintro e w4 ⟨rfl, hb4⟩
  have HB := Lib.hid (HD3.out.call hb4).bel
  clear hb4
  go_wp2
  go_ret
  exact ⟨rfl, HB.out⟩
end Go.Proofs.YthigopehalkoaaaDoor
