/- Three numbers with dots between them. -/
import Derived.Test.YtmhkeiccemfpeaaDoorJoinW
import Derived.Test.YtmhkeiccemfpeaaDoorDecLaw
import Derived.Test.YtmhkeiccemfpeaaDoorLTf
import Derived.Deep.RegionHeld3
namespace Go.Proofs.YtmhkeiccemfpeaaDoor
open Go.RowKit
set_option linter.unusedVariables false
set_option linter.unusedSimpArgs false
structure DwD (w W : World) : Prop where
  door : DoorW W
  bel : Below w.heap.size w W
theorem DwD.dr {w W : World} (h : DwD w W) : DwD w W.drew := ⟨⟨h.door.tab⟩, ⟨h.bel.os, h.bel.tape, h.bel.output, h.bel.size, h.bel.block⟩⟩
theorem DwD.call {w W W1 : World} (h : DwD w W) (hb : Below W.heap.size W W1) : DwD w W1 := ⟨h.door.on hb, h.bel.trans (hb.mono h.bel.size)⟩
theorem cell_drD {W : World} {a : Addr} {v : Value} (h : W.cell? a = some v) : W.drew.cell? a = some v := h
theorem cell_keptD {w w' : World} {a : Addr} {v : Value} (b : Below w.heap.size w w') (h : w.cell? a = some v) : w'.cell? a = some v :=
  (b.cell (World.block_lt_of_cell? w _ h)).trans h
def bdL (x y z : Int) : List UInt8 := Lib.itoa x ++ [46] ++ Lib.itoa y ++ [46] ++ Lib.itoa z
def bdF (F : List Int) (k : Nat) : List UInt8 := bdL (F.getD (k * 3) 0) (F.getD (k * 3 + 1) 0) (F.getD (k * 3 + 2) 0)
theorem itoa21 (x : Int) (h : -1000000 ≤ x ∧ x ≤ 1000000) : (Lib.itoa x).length ≤ 21 := Lib.itoa_length_le x (by omega) (by omega)
theorem bdL_len (x y z : Int) (hx : -1000000 ≤ x ∧ x ≤ 1000000) (hy : -1000000 ≤ y ∧ y ≤ 1000000) (hz : -1000000 ≤ z ∧ z ≤ 1000000) : (bdL x y z).length ≤ 65 := by
  have h1 := itoa21 x hx
  have h2 := itoa21 y hy
  have h3 := itoa21 z hz
  simp only [bdL, List.length_append, List.length_cons, List.length_nil]; omega
theorem dot_join (x y z : Int) : (⟨(bdL x y z).toArray⟩ : ByteArray) = (((⟨(Lib.itoa x).toArray⟩ ++ ⟨#[46]⟩) ++ ⟨(Lib.itoa y).toArray⟩) ++ ⟨#[46]⟩) ++ ⟨(Lib.itoa z).toArray⟩ := by
  have e1 : (⟨#[46]⟩ : ByteArray) = ⟨([46] : List UInt8).toArray⟩ := rfl
  rw [e1, bytes_appL, bytes_appL, bytes_appL, bytes_appL]; rfl
theorem row_join (o : List UInt8) (x y z : Int) : (⟨(o ++ [44] ++ bdL x y z).toArray⟩ : ByteArray) = ⟨o.toArray⟩ ++ (((((⟨#[44]⟩ ++ ⟨(Lib.itoa x).toArray⟩) ++ ⟨#[46]⟩) ++ ⟨(Lib.itoa y).toArray⟩) ++ ⟨#[46]⟩) ++ ⟨(Lib.itoa z).toArray⟩) := by
  have e1 : (⟨#[46]⟩ : ByteArray) = ⟨([46] : List UInt8).toArray⟩ := rfl
  have e2 : (⟨#[44]⟩ : ByteArray) = ⟨([44] : List UInt8).toArray⟩ := rfl
  rw [e1, e2, bytes_appL, bytes_appL, bytes_appL, bytes_appL, bytes_appL, bytes_appL]
  simp [bdL]
set_option maxHeartbeats 8000000 in
set_option maxRecDepth 100000 in
theorem implDot (x y z : Int) (w : World) (hx : -1000000 ≤ x ∧ x ≤ 1000000) (hy : -1000000 ≤ y ∧ y ≤ 1000000) (hz : -1000000 ≤ z ∧ z ≤ 1000000) (hd : DoorW w) :
    Calls Tryd.prog 17 #[.agg #[.int .i64 x, .int .i64 y, .int .i64 z]] w fun e w' => e = .returned (.string ⟨(bdL x y z).toArray⟩) ∧ Below w.heap.size w w' := by
  have HE := Lib.hid (dot_join x y z)
  have CX : Hid (∀ W, DwD w W → Calls Tryd.prog 28 #[.int .i64 x] W fun e w' => e = .returned (.string ⟨(Lib.itoa x).toArray⟩) ∧ Below W.heap.size W w') := fun W h => implDec x W (by omega) (by omega) h.door
  have CY : Hid (∀ W, DwD w W → Calls Tryd.prog 28 #[.int .i64 y] W fun e w' => e = .returned (.string ⟨(Lib.itoa y).toArray⟩) ∧ Below W.heap.size W w') := fun W h => implDec y W (by omega) (by omega) h.door
  have CZ : Hid (∀ W, DwD w W → Calls Tryd.prog 28 #[.int .i64 z] W fun e w' => e = .returned (.string ⟨(Lib.itoa z).toArray⟩) ∧ Below W.heap.size W w') := fun W h => implDec z W (by omega) (by omega) h.door
  obtain ⟨X, hX⟩ : ∃ Q : ByteArray, (⟨(Lib.itoa x).toArray⟩ : ByteArray) = Q := ⟨_, rfl⟩
  have sX : X.size ≤ 21 := by rw [← hX]; exact Lib.itoa_length_le x (by omega) (by omega)
  obtain ⟨Y, hY⟩ : ∃ Q : ByteArray, (⟨(Lib.itoa y).toArray⟩ : ByteArray) = Q := ⟨_, rfl⟩
  have sY : Y.size ≤ 21 := by rw [← hY]; exact Lib.itoa_length_le y (by omega) (by omega)
  obtain ⟨Z, hZ⟩ : ∃ Q : ByteArray, (⟨(Lib.itoa z).toArray⟩ : ByteArray) = Q := ⟨_, rfl⟩
  have sZ : Z.size ≤ 21 := by rw [← hZ]; exact Lib.itoa_length_le z (by omega) (by omega)
  rw [hX] at HE CX
  rw [hY] at HE CY
  rw [hZ] at HE CZ
  have h46 : (⟨#[46]⟩ : ByteArray).size = 1 := rfl
  have aP1 := fun w => run_string_add_sum (P := Tryd.prog) w X ⟨#[46]⟩ (by omega)
  have sP1 : (X ++ ⟨#[46]⟩).size ≤ 22 := by rw [ByteArray.size_append]; omega
  obtain ⟨P1, hP1⟩ : ∃ Q, X ++ ⟨#[46]⟩ = Q := ⟨_, rfl⟩
  rw [hP1] at aP1 sP1 HE
  have aP2 := fun w => run_string_add_sum (P := Tryd.prog) w P1 Y (by omega)
  have sP2 : (P1 ++ Y).size ≤ 43 := by rw [ByteArray.size_append]; omega
  obtain ⟨P2, hP2⟩ : ∃ Q, P1 ++ Y = Q := ⟨_, rfl⟩
  rw [hP2] at aP2 sP2 HE
  have aP3 := fun w => run_string_add_sum (P := Tryd.prog) w P2 ⟨#[46]⟩ (by omega)
  have sP3 : (P2 ++ ⟨#[46]⟩).size ≤ 44 := by rw [ByteArray.size_append]; omega
  obtain ⟨P3, hP3⟩ : ∃ Q, P2 ++ ⟨#[46]⟩ = Q := ⟨_, rfl⟩
  rw [hP3] at aP3 sP3 HE
  have aP4 := fun w => run_string_add_sum (P := Tryd.prog) w P3 Z (by omega)
  have sP4 : (P3 ++ Z).size ≤ 65 := by rw [ByteArray.size_append]; omega
  obtain ⟨P4, hP4⟩ : ∃ Q, P3 ++ Z = Q := ⟨_, rfl⟩
  rw [hP4] at aP4 sP4 HE
  rw [HE.out]
  have hDw : DwD w (w.alloc (.cells #[.int .i64 x, .int .i64 y, .int .i64 z] 48)) := ⟨hd.on ((Below.refl _ _).alloc (Nat.le_refl _) _), (Below.refl _ _).alloc (Nat.le_refl _) _⟩
  have c0 : (w.alloc (.cells #[.int .i64 x, .int .i64 y, .int .i64 z] 48)).cell? ⟨w.heap.size, 0, none⟩ = some (.int .i64 x) := by simp [go_sem]
  have c1 : (w.alloc (.cells #[.int .i64 x, .int .i64 y, .int .i64 z] 48)).cell? ⟨w.heap.size, 1, none⟩ = some (.int .i64 y) := by simp [go_sem]
  have c2 : (w.alloc (.cells #[.int .i64 x, .int .i64 y, .int .i64 z] 48)).cell? ⟨w.heap.size, 2, none⟩ = some (.int .i64 z) := by simp [go_sem]
  clear hX hY hZ hP1 hP2 hP3 hP4 sX sY sZ sP1 sP2 sP3 sP4 h46 hd hx hy hz HE
  go_enter Tryd.func17, Tryd.ntmps17
  go_wp2
  go_region_held3 (fun W => W.cell? ⟨w.heap.size, 0, none⟩ = some (.int .i64 x) ∧ W.cell? ⟨w.heap.size, 1, none⟩ = some (.int .i64 y) ∧ W.cell? ⟨w.heap.size, 2, none⟩ = some (.int .i64 z) ∧ DwD w W) (first | (go_split_ands; (refine ⟨?_, ?_, ?_, ?_⟩ <;> (first | (with_reducible assumption) | ((with_reducible apply cell_keptD) <;> (with_reducible assumption)) | ((with_reducible refine cell_drD ?_); (with_reducible assumption)) | ((with_reducible refine DwD.dr ?_); (with_reducible assumption)) | ((with_reducible apply DwD.call) <;> (with_reducible assumption)))))) (first | (go_at_call 28; first | ((with_reducible refine (CX.out _ ?_).mono ?_); (focus ((repeat (first | (with_reducible assumption) | (with_reducible refine DwD.dr ?_) | (with_reducible refine DwD.call ?_ hbX) | (with_reducible refine DwD.call ?_ hbY) | (with_reducible refine DwD.call ?_ hbZ))); done)); rintro e wX ⟨rfl, hbX⟩) | ((with_reducible refine (CY.out _ ?_).mono ?_); (focus ((repeat (first | (with_reducible assumption) | (with_reducible refine DwD.dr ?_) | (with_reducible refine DwD.call ?_ hbX) | (with_reducible refine DwD.call ?_ hbY) | (with_reducible refine DwD.call ?_ hbZ))); done)); rintro e wY ⟨rfl, hbY⟩) | ((with_reducible refine (CZ.out _ ?_).mono ?_); (focus ((repeat (first | (with_reducible assumption) | (with_reducible refine DwD.dr ?_) | (with_reducible refine DwD.call ?_ hbX) | (with_reducible refine DwD.call ?_ hbY) | (with_reducible refine DwD.call ?_ hbZ))); done)); rintro e wZ ⟨rfl, hbZ⟩)))
  all_goals go_wp2
  all_goals go_ret
  all_goals (rename_i hHeld; exact ⟨rfl, hHeld.2.2.2.bel⟩)
end Go.Proofs.YtmhkeiccemfpeaaDoor
