/- DiagramText, on both sides. -/
import Derived.Test.YtemjohkieehojaaDoorJoinW
import Derived.Test.YtemjohkieehojaaDoorDecLaw
import Derived.Test.YtemjohkieehojaaDoorDiaIs
import Derived.Deep.RegionHeld3
namespace Go.Proofs.YtemjohkieehojaaDoor
open Go.RowKit
set_option linter.unusedVariables false
set_option linter.unusedSimpArgs false
theorem bytes_appL (a b : List UInt8) : ((⟨a.toArray⟩ : ByteArray) ++ (⟨b.toArray⟩ : ByteArray)) = ⟨(a ++ b).toArray⟩ := by
  apply ByteArray.ext
  rw [ByteArray.data_append]
  simp
theorem ret_txt {a b : ByteArray} {c d : Bool} (h : a = b) (h2 : c = d) : Ending.returned (.tuple #[.string a, .bool c]) = .returned (.tuple #[.string b, .bool d]) := by rw [h, h2]
structure DwD (w W : World) : Prop where
  door : DoorW W
  bel : Below w.heap.size w W
theorem DwD.dr {w W : World} (h : DwD w W) : DwD w W.drew := ⟨⟨h.door.tab⟩, ⟨h.bel.os, h.bel.tape, h.bel.output, h.bel.size, h.bel.block⟩⟩
theorem DwD.call {w W W1 : World} (h : DwD w W) (hb : Below W.heap.size W W1) : DwD w W1 := ⟨h.door.on hb, h.bel.trans (hb.mono h.bel.size)⟩
theorem cell_drD {W : World} {a : Addr} {v : Value} (h : W.cell? a = some v) : W.drew.cell? a = some v := h
theorem cell_keptD {w w' : World} {a : Addr} {v : Value} (b : Below w.heap.size w w') (h : w.cell? a = some v) : w'.cell? a = some v :=
  (b.cell (World.block_lt_of_cell? w _ h)).trans h
def bdL (x y z : Int) : List UInt8 := Lib.itoa x ++ [46] ++ Lib.itoa y ++ [46] ++ Lib.itoa z
def bdF (F : List Int) (k : Nat) : List UInt8 := bdL (F.getD (k * 3) 0) (F.getD (k * 3 + 1) 0) (F.getD (k * 3 + 2) 0)
def dtL (e : Int) (F : List Int) : Nat → List UInt8
  | 0 => Lib.itoa e
  | k + 1 => dtL e F k ++ [44] ++ bdF F k
def dtS (e : Int) (F : List Int) : Nat → List ByteArray
  | 0 => [⟨(Lib.itoa e).toArray⟩]
  | k + 1 => dtS e F k ++ [⟨(bdF F k).toArray⟩]
theorem dtS_len (e : Int) (F : List Int) : ∀ k, (dtS e F k).length = k + 1
  | 0 => rfl
  | k + 1 => by rw [dtS, List.length_append, dtS_len e F k]; rfl
theorem dtS_join (e : Int) (F : List Int) : ∀ k, jnL (dtS e F k) (k + 1) = dtL e F k
  | 0 => by rw [jnL_one _ (by simp [dtS])]; rfl
  | k + 1 => by
    have h := jnL_succ (dtS e F (k + 1)) (k + 1) (by omega) (by rw [dtS_len]; omega)
    rw [h, dtL, ← dtS_join e F k]
    have h1 : jnL (dtS e F (k + 1)) (k + 1) = jnL (dtS e F k) (k + 1) := by
      unfold jnL
      rw [dtS, List.take_append_of_le_length (by rw [dtS_len]; exact Nat.le_refl _)]
    have h2 : (dtS e F (k + 1)).getD (k + 1) ByteArray.empty = ⟨(bdF F k).toArray⟩ := by
      rw [dtS, List.getD_eq_getElem?_getD, List.getElem?_append_right (by rw [dtS_len]; exact Nat.le_refl _), dtS_len]
      simp
    rw [h1, h2]
def ansD (e : Int) (n : Nat) (F : List Int) : ByteArray := if diaB e n F = true then ⟨(dtL e F n).toArray⟩ else ⟨#[]⟩
theorem itoa21 (x : Int) (h : -1000000 ≤ x ∧ x ≤ 1000000) : (Lib.itoa x).length ≤ 21 := Lib.itoa_length_le x (by omega) (by omega)
theorem bdL_len (x y z : Int) (hx : -1000000 ≤ x ∧ x ≤ 1000000) (hy : -1000000 ≤ y ∧ y ≤ 1000000) (hz : -1000000 ≤ z ∧ z ≤ 1000000) : (bdL x y z).length ≤ 65 := by
  have h1 := itoa21 x hx
  have h2 := itoa21 y hy
  have h3 := itoa21 z hz
  simp only [bdL, List.length_append, List.length_cons, List.length_nil]; omega
theorem dia_at {e : Int} {n : Nat} {F : List Int} (h : diaB e n F = true) : (1 ≤ e ∧ e ≤ 10) ∧ n ≤ 24 ∧ ∀ k, k < n → (-1000000 ≤ F.getD (k * 3) 0 ∧ F.getD (k * 3) 0 ≤ 1000000) ∧ (-1000000 ≤ F.getD (k * 3 + 1) 0 ∧ F.getD (k * 3 + 1) 0 ≤ 1000000) ∧ (-1000000 ≤ F.getD (k * 3 + 2) 0 ∧ F.getD (k * 3 + 2) 0 ≤ 1000000) := by
  unfold diaB at h
  simp only [Bool.and_eq_true, decide_eq_true_eq] at h
  obtain ⟨⟨h1, h2⟩, h3⟩ := h
  refine ⟨h1, h2, fun k hk => ?_⟩
  have h4 := List.all_eq_true.1 h3 k (List.mem_range.2 hk)
  unfold bokK at h4
  have h5 := of_decide_eq_true h4
  obtain ⟨-, a1, a2, a3, a4, a5, a6⟩ := h5
  omega
theorem bdF_len {e : Int} {n : Nat} {F : List Int} (h : diaB e n F = true) (k : Nat) (hk : k < n) : (bdF F k).length ≤ 65 := by
  obtain ⟨h1, h2, h3⟩ := (dia_at h).2.2 k hk
  exact bdL_len _ _ _ h1 h2 h3
theorem dtL_len {e : Int} {n : Nat} {F : List Int} (h : diaB e n F = true) : ∀ k, k ≤ n → (dtL e F k).length ≤ 21 + 66 * k
  | 0, _ => by rw [dtL]; exact itoa21 e (by have := (dia_at h).1; omega)
  | k + 1, hk => by
    have h1 := dtL_len h k (by omega)
    have h2 := bdF_len h k (by omega)
    rw [dtL]
    simp only [List.length_append, List.length_cons, List.length_nil]; omega
theorem dtS_sizes {e : Int} {n : Nat} {F : List Int} (h : diaB e n F = true) : ∀ k, k ≤ n → ∀ s ∈ dtS e F k, s.size ≤ 100
  | 0, _, s, hs => by
    simp [dtS] at hs
    rw [hs]
    have := itoa21 e (by have := (dia_at h).1; omega)
    exact Nat.le_trans this (by omega)
  | k + 1, hk, s, hs => by
    rw [dtS, List.mem_append] at hs
    rcases hs with hs | hs
    · exact dtS_sizes h k (by omega) s hs
    · simp at hs
      rw [hs]
      have := bdF_len h k (by omega)
      exact Nat.le_trans this (by omega)
theorem dot_join (x y z : Int) : (⟨(bdL x y z).toArray⟩ : ByteArray) = (((⟨(Lib.itoa x).toArray⟩ ++ ⟨#[46]⟩) ++ ⟨(Lib.itoa y).toArray⟩) ++ ⟨#[46]⟩) ++ ⟨(Lib.itoa z).toArray⟩ := by
  have e1 : (⟨#[46]⟩ : ByteArray) = ⟨([46] : List UInt8).toArray⟩ := rfl
  rw [e1, bytes_appL, bytes_appL, bytes_appL, bytes_appL]; rfl
theorem row_join (o : List UInt8) (x y z : Int) : (⟨(o ++ [44] ++ bdL x y z).toArray⟩ : ByteArray) = ⟨o.toArray⟩ ++ (((((⟨#[44]⟩ ++ ⟨(Lib.itoa x).toArray⟩) ++ ⟨#[46]⟩) ++ ⟨(Lib.itoa y).toArray⟩) ++ ⟨#[46]⟩) ++ ⟨(Lib.itoa z).toArray⟩) := by
  have e1 : (⟨#[46]⟩ : ByteArray) = ⟨([46] : List UInt8).toArray⟩ := rfl
  have e2 : (⟨#[44]⟩ : ByteArray) = ⟨([44] : List UInt8).toArray⟩ := rfl
  rw [e1, e2, bytes_appL, bytes_appL, bytes_appL, bytes_appL, bytes_appL, bytes_appL]
  simp [bdL]
set_option maxHeartbeats 16000000 in
set_option maxRecDepth 100000 in
theorem specDTx (p B : Nat) (e : Int) (a : Option Addr) (n cap : Nat) (F : List Int) (w : World) (hp : At2 w p (.int .i64 e) (.slice a n cap)) (hr : Recs w B (.slice a n cap) n F) (hv : diaB e n F = true) (hd : DoorW w) :
    Calls Tryd.prog 32 #[.pointer (some ⟨p, 0, none⟩)] w fun r w' => r = .returned (.string ⟨(dtL e F n).toArray⟩) ∧ Below w.heap.size w w' := by
  obtain ⟨⟨he1, he2⟩, hn24, -⟩ := dia_at hv
  have HV := Lib.hid hv
  have HP := Lib.hid hp
  have HR := Lib.hid hr
  have HD := Lib.hid hd
  have hpl := hp.lt
  have HDE := Lib.hid (specDec e w (by omega) (by omega))
  obtain ⟨p0, p1, _, _⟩ := hp
  clear hr hv hd
  go_enter Tryd.func32, Tryd.ntmps32
  go_wp2_with fail
  refine HDE.out.mono ?_; rintro r w1 ⟨rfl, hb1⟩
  have HB1 := Lib.hid hb1
  clear hb1
  go_wp2
  clear p0 p1
  go_loopw [3, 4, 5] (fun ov iv bv wr => ∃ k : Nat, k ≤ n ∧ iv = .int .i64 (k : Int) ∧ ov = .string ⟨(dtL e F k).toArray⟩ ∧ Below w.heap.size w wr) (fun _ iv _ _ => n - (intOf iv).toNat)
  case atStart => exact ⟨0, Nat.zero_le _, rfl, rfl, HB1.out⟩
  case round =>
    obtain ⟨k, hk, rfl, rfl, hB⟩ := hrel
    obtain ⟨d0, d1, _, _⟩ := HP.out.below hB hpl
    have HB := Lib.hid hB
    have hbs := hB.size
    by_cases hlt : k < n
    · obtain ⟨hx, hy, hz⟩ := (dia_at HV.out).2.2 k hlt
      have hol := dtL_len HV.out k (by omega)
      have HRW : Hid (dtL e F (k + 1) = dtL e F k ++ [44] ++ bdL (F.getD (k * 3) 0) (F.getD (k * 3 + 1) 0) (F.getD (k * 3 + 2) 0)) := rfl
      obtain ⟨g, x, y, z, rfl, -, -, ⟨e0, e1, e2⟩, x0, x1, x2⟩ := (HR.out.keep hB (Nat.le_refl _)).at k hlt
      rw [e0] at hx HRW
      rw [e1] at hy HRW
      rw [e2] at hz HRW
      clear e0 e1 e2 hB
      have CX : Hid (∀ W, DwD w W → Calls Tryd.prog 53 #[.int .i64 x] W fun e w' => e = .returned (.string ⟨(Lib.itoa x).toArray⟩) ∧ Below W.heap.size W w') := fun W h => specDec x W (by omega) (by omega)
      have CY : Hid (∀ W, DwD w W → Calls Tryd.prog 53 #[.int .i64 y] W fun e w' => e = .returned (.string ⟨(Lib.itoa y).toArray⟩) ∧ Below W.heap.size W w') := fun W h => specDec y W (by omega) (by omega)
      have CZ : Hid (∀ W, DwD w W → Calls Tryd.prog 53 #[.int .i64 z] W fun e w' => e = .returned (.string ⟨(Lib.itoa z).toArray⟩) ∧ Below W.heap.size W w') := fun W h => specDec z W (by omega) (by omega)
      have HE := (congrArg (fun l : List UInt8 => (⟨l.toArray⟩ : ByteArray)) HRW.out).trans (row_join (dtL e F k) x y z)
      have hOs : (⟨(dtL e F k).toArray⟩ : ByteArray).size ≤ 21 + 66 * k := hol
      obtain ⟨O, hO⟩ : ∃ O : ByteArray, (⟨(dtL e F k).toArray⟩ : ByteArray) = O := ⟨_, rfl⟩
      rw [hO] at HE hOs ⊢
      obtain ⟨X, hX⟩ : ∃ Q : ByteArray, (⟨(Lib.itoa x).toArray⟩ : ByteArray) = Q := ⟨_, rfl⟩
      have sX : X.size ≤ 21 := by rw [← hX]; exact Lib.itoa_length_le x (by omega) (by omega)
      obtain ⟨Y, hY⟩ : ∃ Q : ByteArray, (⟨(Lib.itoa y).toArray⟩ : ByteArray) = Q := ⟨_, rfl⟩
      have sY : Y.size ≤ 21 := by rw [← hY]; exact Lib.itoa_length_le y (by omega) (by omega)
      obtain ⟨Z, hZ⟩ : ∃ Q : ByteArray, (⟨(Lib.itoa z).toArray⟩ : ByteArray) = Q := ⟨_, rfl⟩
      have sZ : Z.size ≤ 21 := by rw [← hZ]; exact Lib.itoa_length_le z (by omega) (by omega)
      rw [hX] at HE CX
      rw [hY] at HE CY
      rw [hZ] at HE CZ
      have h46 : (⟨#[46]⟩ : ByteArray).size = 1 := rfl
      have h44 : (⟨#[44]⟩ : ByteArray).size = 1 := rfl
      have aP0 := fun w => run_string_add_sum (P := Tryd.prog) w ⟨#[44]⟩ X (by omega)
      have sP0 : (⟨#[44]⟩ ++ X).size ≤ 22 := by rw [ByteArray.size_append]; omega
      obtain ⟨P0, hP0⟩ : ∃ Q, ⟨#[44]⟩ ++ X = Q := ⟨_, rfl⟩
      rw [hP0] at aP0 sP0 HE
      have aP1 := fun w => run_string_add_sum (P := Tryd.prog) w P0 ⟨#[46]⟩ (by omega)
      have sP1 : (P0 ++ ⟨#[46]⟩).size ≤ 23 := by rw [ByteArray.size_append]; omega
      obtain ⟨P1, hP1⟩ : ∃ Q, P0 ++ ⟨#[46]⟩ = Q := ⟨_, rfl⟩
      rw [hP1] at aP1 sP1 HE
      have aP2 := fun w => run_string_add_sum (P := Tryd.prog) w P1 Y (by omega)
      have sP2 : (P1 ++ Y).size ≤ 44 := by rw [ByteArray.size_append]; omega
      obtain ⟨P2, hP2⟩ : ∃ Q, P1 ++ Y = Q := ⟨_, rfl⟩
      rw [hP2] at aP2 sP2 HE
      have aP3 := fun w => run_string_add_sum (P := Tryd.prog) w P2 ⟨#[46]⟩ (by omega)
      have sP3 : (P2 ++ ⟨#[46]⟩).size ≤ 45 := by rw [ByteArray.size_append]; omega
      obtain ⟨P3, hP3⟩ : ∃ Q, P2 ++ ⟨#[46]⟩ = Q := ⟨_, rfl⟩
      rw [hP3] at aP3 sP3 HE
      have aP4 := fun w => run_string_add_sum (P := Tryd.prog) w P3 Z (by omega)
      have sP4 : (P3 ++ Z).size ≤ 66 := by rw [ByteArray.size_append]; omega
      obtain ⟨P4, hP4⟩ : ∃ Q, P3 ++ Z = Q := ⟨_, rfl⟩
      rw [hP4] at aP4 sP4 HE
      have aP5 := fun w => run_string_add_sum (P := Tryd.prog) w O P4 (by omega)
      have sP5 : (O ++ P4).size ≤ 3000 := by rw [ByteArray.size_append]; omega
      obtain ⟨P5, hP5⟩ : ∃ Q, O ++ P4 = Q := ⟨_, rfl⟩
      rw [hP5] at aP5 sP5 HE
      have HEE := Lib.hid HE
      have hba : Below w.heap.size w (wr.alloc (.cells #[.int .i64 x, .int .i64 y, .int .i64 z] 60)) := HB.out.alloc hbs _
      have HDw : DwD w (wr.alloc (.cells #[.int .i64 x, .int .i64 y, .int .i64 z] 60)) := ⟨HD.out.on hba, hba⟩
      have q0 : (wr.alloc (.cells #[.int .i64 x, .int .i64 y, .int .i64 z] 60)).cell? ⟨wr.heap.size, 0, none⟩ = some (.int .i64 x) := by simp [go_sem]
      have q1 : (wr.alloc (.cells #[.int .i64 x, .int .i64 y, .int .i64 z] 60)).cell? ⟨wr.heap.size, 1, none⟩ = some (.int .i64 y) := by simp [go_sem]
      have q2 : (wr.alloc (.cells #[.int .i64 x, .int .i64 y, .int .i64 z] 60)).cell? ⟨wr.heap.size, 2, none⟩ = some (.int .i64 z) := by simp [go_sem]
      clear hX hY hZ hO hP0 hP1 hP2 hP3 hP4 hP5 sX sY sZ sP0 sP1 sP2 sP3 sP4 sP5 h46 h44 hx hy hz HE hba hol hOs
      go_wp2
      go_region_held3 (fun W => W.cell? ⟨wr.heap.size, 0, none⟩ = some (.int .i64 x) ∧ W.cell? ⟨wr.heap.size, 1, none⟩ = some (.int .i64 y) ∧ W.cell? ⟨wr.heap.size, 2, none⟩ = some (.int .i64 z) ∧ DwD w W) (first | (go_split_ands; (refine ⟨?_, ?_, ?_, ?_⟩ <;> (first | (with_reducible assumption) | ((with_reducible apply cell_keptD) <;> (with_reducible assumption)) | ((with_reducible refine cell_drD ?_); (with_reducible assumption)) | ((with_reducible refine DwD.dr ?_); (with_reducible assumption)) | ((with_reducible apply DwD.call) <;> (with_reducible assumption)))))) (first | (go_at_call 53; first | ((with_reducible refine (CX.out _ ?_).mono ?_); (focus ((repeat (first | (with_reducible assumption) | (with_reducible refine DwD.dr ?_) | (with_reducible refine DwD.call ?_ hbX) | (with_reducible refine DwD.call ?_ hbY) | (with_reducible refine DwD.call ?_ hbZ))); done)); rintro e wX ⟨rfl, hbX⟩) | ((with_reducible refine (CY.out _ ?_).mono ?_); (focus ((repeat (first | (with_reducible assumption) | (with_reducible refine DwD.dr ?_) | (with_reducible refine DwD.call ?_ hbX) | (with_reducible refine DwD.call ?_ hbY) | (with_reducible refine DwD.call ?_ hbZ))); done)); rintro e wY ⟨rfl, hbY⟩) | ((with_reducible refine (CZ.out _ ?_).mono ?_); (focus ((repeat (first | (with_reducible assumption) | (with_reducible refine DwD.dr ?_) | (with_reducible refine DwD.call ?_ hbX) | (with_reducible refine DwD.call ?_ hbY) | (with_reducible refine DwD.call ?_ hbZ))); done)); rintro e wZ ⟨rfl, hbZ⟩)))
      all_goals go_wp2
      all_goals go_roundw
      all_goals first
        | (case rel => rename_i hHeld; exact ⟨k + 1, by omega, by go_num, by rw [HEE.out], hHeld.2.2.2.bel⟩)
        | (case measure => simp [intOf]; omega)
        | skip
    · obtain rfl : k = n := by omega
      go_wp2
      go_ret
      exact ⟨rfl, hB⟩
end Go.Proofs.YtemjohkieehojaaDoor
