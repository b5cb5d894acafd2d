/- FlowText, the document's side. -/
import Derived.Test.YtmhkeiccemfpeaaDoorFTm
namespace Go.Proofs.YtmhkeiccemfpeaaDoor
open Go.RowKit
set_option linter.unusedVariables false
set_option linter.unusedSimpArgs false
set_option maxHeartbeats 16000000 in
set_option maxRecDepth 100000 in
theorem specFTx (p B : Nat) (da : Option Addr) (dn dc : Nat) (ds : List Int) (wa : Option Addr) (wn wc : Nat) (F : List Int) (w : World) (hp : At2 w p (.slice da dn dc) (.slice wa wn wc)) (hf : Fl w B da dn dc ds wa wn wc F) (hv : FlowOk ds wn F) (hd : DoorW w) :
    Calls Tryd.prog 12 #[.pointer (some ⟨p, 0, none⟩)] w fun r w' => r = .returned (.string ⟨(flT ds F wn).toArray⟩) ∧ Below w.heap.size w w' := by
  obtain ⟨hv1, hv2, hv3, -, -⟩ := fl_at hv
  have hdn := hf.n
  have hdn8 : dn ≤ 8 := by omega
  have HV := Lib.hid hv
  have HOK := Lib.hid (fl_okT hv).1
  have HP := Lib.hid hp
  have HA := Lib.hid hf.d.arg
  have HR := Lib.hid hf.r
  have HN := Lib.hid hdn
  have HD := Lib.hid hd
  have hpl := hp.lt
  clear hf hv hd hp hdn
  go_enter Tryd.func12, Tryd.ntmps12
  go_wp2
  go_loopw [3, 4] (fun ov iv wr => ∃ k : Nat, k ≤ dn ∧ iv = .int .i64 (k : Int) ∧ ov = .string ⟨(ltx (ds.take k)).toArray⟩ ∧ Below w.heap.size w wr) (fun _ iv _ => dn - (intOf iv).toNat)
  case atStart => exact ⟨0, Nat.zero_le _, rfl, rfl, Below.refl _ _⟩
  case round =>
    obtain ⟨k, hk, rfl, rfl, hB⟩ := hrel
    have hlk := ltx_take_len HOK.out k
    have HB := Lib.hid hB
    obtain ⟨d0, d1, _, _⟩ := HP.out.below hB hpl
    by_cases hlt : k < dn
    · have hkl : k < ds.length := by have := HN.out; omega
      obtain ⟨b, off, rfl, hbl, hc⟩ := HA.out.get k hkl
      obtain ⟨y0, y1⟩ := okT_at HOK.out k hkl
      have HTK := Lib.hid (take_succ_getD ds k hkl)
      obtain ⟨y, hy⟩ : ∃ y, ds.getD k 0 = y := ⟨_, rfl⟩
      rw [hy] at hc y0 y1 HTK
      have hc2 := (hB.cell (p := ⟨b, off + k, none⟩) hbl).trans hc
      have HDC := Lib.hid (fun W => specDec y W (by omega) (by omega))
      have hys : (Lib.itoa y).length ≤ 20 := itoa_len y (by omega)
      clear hy hB hc y0 y1
      obtain ⟨X, hX⟩ : ∃ X : ByteArray, (⟨(Lib.itoa y).toArray⟩ : ByteArray) = X := ⟨_, rfl⟩
      have hXs : X.size ≤ 20 := by rw [← hX]; exact hys
      rw [hX] at HDC
      by_cases h0 : k = 0
      · have HEQ : Hid ((⟨(ltx (ds.take (k + 1))).toArray⟩ : ByteArray) = ⟨#[]⟩ ++ X) := by
          rw [Hid, HTK.out, h0, List.take_zero, ltx_one, ← hX, show (⟨#[]⟩ : ByteArray) = ⟨([] : List UInt8).toArray⟩ from rfl, bytes_appL, List.nil_append]
        have HE0 : Hid ((⟨(ltx (ds.take k)).toArray⟩ : ByteArray) = ⟨#[]⟩) := by rw [Hid, h0]; rfl
        have t0 : ¬ (0 : Int) < (k : Int) := by omega
        have t1 : ¬ 0 < k := by omega
        have a1 := fun w => run_string_add_sum (P := Tryd.prog) w ⟨#[]⟩ X (by have : (⟨#[]⟩ : ByteArray).size = 0 := rfl; omega)
        obtain ⟨Z, hZ⟩ : ∃ Z, (⟨#[]⟩ : ByteArray) ++ X = Z := ⟨_, rfl⟩
        rw [hZ] at a1 HEQ
        rw [HE0.out]
        clear h0 hX hZ
        go_wp2_with fail
        refine (HDC.out _).mono ?_; rintro e w2 ⟨rfl, hb2⟩
        have HB2 := Lib.hid (HB.out.trans (hb2.mono HB.out.size))
        clear hb2 hc2
        go_wp2
        go_roundw
        case rel => exact ⟨k + 1, by omega, by go_num, by rw [HEQ.out], HB2.out⟩
        case measure => simp [intOf]; omega
      · have hne : ds.take k ≠ [] := by
          intro e
          have := congrArg List.length e
          rw [List.length_take, List.length_nil] at this; omega
        have HEQ : Hid ((⟨(ltx (ds.take (k + 1))).toArray⟩ : ByteArray) = (⟨(ltx (ds.take k)).toArray⟩ ++ ⟨#[44]⟩) ++ X) := by
          rw [Hid, HTK.out, ltx_snoc _ _ hne, ← hX, show (⟨#[44]⟩ : ByteArray) = ⟨([44] : List UInt8).toArray⟩ from rfl, bytes_appL, bytes_appL, List.append_assoc]
        have t0 : (0 : Int) < (k : Int) := by omega
        have t1 : 0 < k := by omega
        have hOs : (⟨(ltx (ds.take k)).toArray⟩ : ByteArray).size ≤ 21 * 64 := hlk
        obtain ⟨O, hO⟩ : ∃ O : ByteArray, (⟨(ltx (ds.take k)).toArray⟩ : ByteArray) = O := ⟨_, rfl⟩
        rw [hO] at HEQ hOs ⊢
        have h44 : (⟨#[44]⟩ : ByteArray).size = 1 := rfl
        have a1 := fun w => run_string_add_sum (P := Tryd.prog) w O ⟨#[44]⟩ (by omega)
        have z1 : (O ++ ⟨#[44]⟩).size ≤ 21 * 64 + 1 := by rw [ByteArray.size_append]; omega
        obtain ⟨Y, hY⟩ : ∃ Y, O ++ (⟨#[44]⟩ : ByteArray) = Y := ⟨_, rfl⟩
        rw [hY] at a1 HEQ z1
        have a2 := fun w => run_string_add_sum (P := Tryd.prog) w Y X (by omega)
        obtain ⟨Z, hZ⟩ : ∃ Z, Y ++ X = Z := ⟨_, rfl⟩
        rw [hZ] at a2 HEQ
        clear h0 hX hZ hY hO hne hlk hOs z1 h44
        go_wp2_with fail
        refine (HDC.out _).mono ?_; rintro e w2 ⟨rfl, hb2⟩
        have HB2 := Lib.hid (HB.out.trans (hb2.mono HB.out.size))
        clear hb2 hc2
        go_wp2
        go_roundw
        case rel => exact ⟨k + 1, by omega, by go_num, by rw [HEQ.out], HB2.out⟩
        case measure => simp [intOf]; omega
    · have hlen : ds.take k = ds := List.take_of_length_le (by have := HN.out; omega)
      rw [hlen] at hlk ⊢
      have HO0 : Hid ((⟨(oL ds F 0).toArray⟩ : ByteArray) = ⟨(ltx ds).toArray⟩ ++ ⟨#[47]⟩) := by
        rw [Hid, show (⟨#[47]⟩ : ByteArray) = ⟨([47] : List UInt8).toArray⟩ from rfl, bytes_appL]
        unfold oL
        rw [wrL, List.append_nil]
      have hLs : (⟨(ltx ds).toArray⟩ : ByteArray).size ≤ 21 * 64 := hlk
      obtain ⟨L, hL⟩ : ∃ L : ByteArray, (⟨(ltx ds).toArray⟩ : ByteArray) = L := ⟨_, rfl⟩
      rw [hL] at hLs HO0 ⊢
      have h47 : (⟨#[47]⟩ : ByteArray).size = 1 := rfl
      have a47 := fun w => run_string_add_sum (P := Tryd.prog) w L ⟨#[47]⟩ (by omega)
      obtain ⟨L2, hL2⟩ : ∃ Q, L ++ (⟨#[47]⟩ : ByteArray) = Q := ⟨_, rfl⟩
      rw [hL2] at a47 HO0
      clear hL hL2 hlen hlk hLs h47 hB
      go_wp2
      clear a47
      go_loopw [3, 5, 6] (fun ov iv bv wr => ∃ k : Nat, k ≤ wn ∧ iv = .int .i64 (k : Int) ∧ ov = .string ⟨(oL ds F k).toArray⟩ ∧ Below w.heap.size w wr) (fun _ iv _ _ => wn - (intOf iv).toNat)
      case atStart => exact ⟨0, Nat.zero_le _, rfl, by rw [HO0.out], HB.out⟩
      case round =>
        obtain ⟨k, hk, rfl, rfl, hB⟩ := hrel
        obtain ⟨d0, d1, _, _⟩ := HP.out.below hB hpl
        have HB := Lib.hid hB
        have hbs := hB.size
        by_cases hlt : k < wn
        · obtain ⟨hx, hy, hz⟩ := (fl_at HV.out).2.2.2.2 k hlt
          have hol := oL_len HV.out k (by omega)
          have HBD : Hid (bdF F k = bdL (F.getD (k * 3) 0) (F.getD (k * 3 + 1) 0) (F.getD (k * 3 + 2) 0)) := rfl
          obtain ⟨g, x, y, z, rfl, -, -, ⟨e0, e1, e2⟩, x0, x1, x2⟩ := (HR.out.keep hB (Nat.le_refl _)).at k hlt
          rw [e0] at hx HBD
          rw [e1] at hy HBD
          rw [e2] at hz HBD
          clear e0 e1 e2 hB
          have CX : Hid (∀ W, DwD w W → Calls Tryd.prog 23 #[.int .i64 x] W fun e w' => e = .returned (.string ⟨(Lib.itoa x).toArray⟩) ∧ Below W.heap.size W w') := fun W h => specDec x W (by omega) (by omega)
          have CY : Hid (∀ W, DwD w W → Calls Tryd.prog 23 #[.int .i64 y] W fun e w' => e = .returned (.string ⟨(Lib.itoa y).toArray⟩) ∧ Below W.heap.size W w') := fun W h => specDec y W (by omega) (by omega)
          have CZ : Hid (∀ W, DwD w W → Calls Tryd.prog 23 #[.int .i64 z] W fun e w' => e = .returned (.string ⟨(Lib.itoa z).toArray⟩) ∧ Below W.heap.size W w') := fun W h => specDec z W (by omega) (by omega)
          have hOs : (⟨(oL ds F k).toArray⟩ : ByteArray).size ≤ 3000 := hol
          have HDJ := dot_join x y z
          have h46 : (⟨#[46]⟩ : ByteArray).size = 1 := rfl
          have h44 : (⟨#[44]⟩ : ByteArray).size = 1 := rfl
          obtain ⟨X, hX⟩ : ∃ Q : ByteArray, (⟨(Lib.itoa x).toArray⟩ : ByteArray) = Q := ⟨_, rfl⟩
          have sX : X.size ≤ 21 := by rw [← hX]; exact Lib.itoa_length_le x (by omega) (by omega)
          obtain ⟨Y, hY⟩ : ∃ Q : ByteArray, (⟨(Lib.itoa y).toArray⟩ : ByteArray) = Q := ⟨_, rfl⟩
          have sY : Y.size ≤ 21 := by rw [← hY]; exact Lib.itoa_length_le y (by omega) (by omega)
          obtain ⟨Z, hZ⟩ : ∃ Q : ByteArray, (⟨(Lib.itoa z).toArray⟩ : ByteArray) = Q := ⟨_, rfl⟩
          have sZ : Z.size ≤ 21 := by rw [← hZ]; exact Lib.itoa_length_le z (by omega) (by omega)
          rw [hX] at HDJ CX
          rw [hY] at HDJ CY
          rw [hZ] at HDJ CZ
          have hba : Below w.heap.size w (wr.alloc (.cells #[.int .i64 x, .int .i64 y, .int .i64 z] 46)) := HB.out.alloc hbs _
          have HDw : DwD w (wr.alloc (.cells #[.int .i64 x, .int .i64 y, .int .i64 z] 46)) := ⟨HD.out.on hba, hba⟩
          have q0 : (wr.alloc (.cells #[.int .i64 x, .int .i64 y, .int .i64 z] 46)).cell? ⟨wr.heap.size, 0, none⟩ = some (.int .i64 x) := by simp [go_sem]
          have q1 : (wr.alloc (.cells #[.int .i64 x, .int .i64 y, .int .i64 z] 46)).cell? ⟨wr.heap.size, 1, none⟩ = some (.int .i64 y) := by simp [go_sem]
          have q2 : (wr.alloc (.cells #[.int .i64 x, .int .i64 y, .int .i64 z] 46)).cell? ⟨wr.heap.size, 2, none⟩ = some (.int .i64 z) := by simp [go_sem]
          by_cases h0 : k = 0
          · skip
            have HE : (⟨(oL ds F (k + 1)).toArray⟩ : ByteArray) = ⟨(oL ds F k).toArray⟩ ++ ⟨(bdF F k).toArray⟩ := by
              subst h0; exact o_first ds F
            rw [HBD.out, HDJ] at HE
            have t0 : ¬ (0 : Int) < (k : Int) := by omega
            have t1 : ¬ 0 < k := by omega
            obtain ⟨O, hO⟩ : ∃ O : ByteArray, (⟨(oL ds F k).toArray⟩ : ByteArray) = O := ⟨_, rfl⟩
            rw [hO] at HE hOs ⊢
            have aP1 := fun w => run_string_add_sum (P := Tryd.prog) w X ⟨#[46]⟩ (by omega)
            have sP1 : (X ++ ⟨#[46]⟩).size ≤ 22 := by rw [ByteArray.size_append]; omega
            obtain ⟨P1, hP1⟩ : ∃ Q, X ++ ⟨#[46]⟩ = Q := ⟨_, rfl⟩
            rw [hP1] at aP1 sP1 HE
            have aP2 := fun w => run_string_add_sum (P := Tryd.prog) w P1 Y (by omega)
            have sP2 : (P1 ++ Y).size ≤ 43 := by rw [ByteArray.size_append]; omega
            obtain ⟨P2, hP2⟩ : ∃ Q, P1 ++ Y = Q := ⟨_, rfl⟩
            rw [hP2] at aP2 sP2 HE
            have aP3 := fun w => run_string_add_sum (P := Tryd.prog) w P2 ⟨#[46]⟩ (by omega)
            have sP3 : (P2 ++ ⟨#[46]⟩).size ≤ 44 := by rw [ByteArray.size_append]; omega
            obtain ⟨P3, hP3⟩ : ∃ Q, P2 ++ ⟨#[46]⟩ = Q := ⟨_, rfl⟩
            rw [hP3] at aP3 sP3 HE
            have aP4 := fun w => run_string_add_sum (P := Tryd.prog) w P3 Z (by omega)
            have sP4 : (P3 ++ Z).size ≤ 65 := by rw [ByteArray.size_append]; omega
            obtain ⟨P4, hP4⟩ : ∃ Q, P3 ++ Z = Q := ⟨_, rfl⟩
            rw [hP4] at aP4 sP4 HE
            have aP5 := fun w => run_string_add_sum (P := Tryd.prog) w O P4 (by omega)
            have sP5 : (O ++ P4).size ≤ 3100 := by rw [ByteArray.size_append]; omega
            obtain ⟨P5, hP5⟩ : ∃ Q, O ++ P4 = Q := ⟨_, rfl⟩
            rw [hP5] at aP5 sP5 HE
            have HEE := Lib.hid HE
            clear hX hY hZ hO hP1 hP2 hP3 hP4 hP5 sX sY sZ sP1 sP2 sP3 sP4 sP5 h46 h44 hx hy hz HE hba hol hOs h0 HDJ
            go_wp2
            go_region_held3 (fun W => W.cell? ⟨wr.heap.size, 0, none⟩ = some (.int .i64 x) ∧ W.cell? ⟨wr.heap.size, 1, none⟩ = some (.int .i64 y) ∧ W.cell? ⟨wr.heap.size, 2, none⟩ = some (.int .i64 z) ∧ DwD w W) (first | (go_split_ands; (refine ⟨?_, ?_, ?_, ?_⟩ <;> (first | (with_reducible assumption) | ((with_reducible apply cell_keptD) <;> (with_reducible assumption)) | ((with_reducible refine cell_drD ?_); (with_reducible assumption)) | ((with_reducible refine DwD.dr ?_); (with_reducible assumption)) | ((with_reducible apply DwD.call) <;> (with_reducible assumption)))))) (first | (go_at_call 23; first | ((with_reducible refine (CX.out _ ?_).mono ?_); (focus ((repeat (first | (with_reducible assumption) | (with_reducible refine DwD.dr ?_) | (with_reducible refine DwD.call ?_ hbX) | (with_reducible refine DwD.call ?_ hbY) | (with_reducible refine DwD.call ?_ hbZ))); done)); rintro e wX ⟨rfl, hbX⟩) | ((with_reducible refine (CY.out _ ?_).mono ?_); (focus ((repeat (first | (with_reducible assumption) | (with_reducible refine DwD.dr ?_) | (with_reducible refine DwD.call ?_ hbX) | (with_reducible refine DwD.call ?_ hbY) | (with_reducible refine DwD.call ?_ hbZ))); done)); rintro e wY ⟨rfl, hbY⟩) | ((with_reducible refine (CZ.out _ ?_).mono ?_); (focus ((repeat (first | (with_reducible assumption) | (with_reducible refine DwD.dr ?_) | (with_reducible refine DwD.call ?_ hbX) | (with_reducible refine DwD.call ?_ hbY) | (with_reducible refine DwD.call ?_ hbZ))); done)); rintro e wZ ⟨rfl, hbZ⟩)))
            all_goals go_wp2
            all_goals go_roundw
            all_goals first
              | (case rel => rename_i hHeld; exact ⟨k + 1, by omega, by go_num, by rw [HEE.out], hHeld.2.2.2.bel⟩)
              | (case measure => simp [intOf]; omega)
              | skip
          · skip
            have HE := o_next ds F k h0
            rw [HBD.out, HDJ] at HE
            have t0 : (0 : Int) < (k : Int) := by omega
            have t1 : 0 < k := by omega
            obtain ⟨O1, hO⟩ : ∃ O : ByteArray, (⟨(oL ds F k).toArray⟩ : ByteArray) = O := ⟨_, rfl⟩
            rw [hO] at HE hOs ⊢
            have aO := fun w => run_string_add_sum (P := Tryd.prog) w O1 ⟨#[44]⟩ (by omega)
            have sO : (O1 ++ ⟨#[44]⟩).size ≤ 3001 := by rw [ByteArray.size_append]; omega
            obtain ⟨O, hO⟩ : ∃ Q, O1 ++ ⟨#[44]⟩ = Q := ⟨_, rfl⟩
            rw [hO] at aO sO HE
            have aP1 := fun w => run_string_add_sum (P := Tryd.prog) w X ⟨#[46]⟩ (by omega)
            have sP1 : (X ++ ⟨#[46]⟩).size ≤ 22 := by rw [ByteArray.size_append]; omega
            obtain ⟨P1, hP1⟩ : ∃ Q, X ++ ⟨#[46]⟩ = Q := ⟨_, rfl⟩
            rw [hP1] at aP1 sP1 HE
            have aP2 := fun w => run_string_add_sum (P := Tryd.prog) w P1 Y (by omega)
            have sP2 : (P1 ++ Y).size ≤ 43 := by rw [ByteArray.size_append]; omega
            obtain ⟨P2, hP2⟩ : ∃ Q, P1 ++ Y = Q := ⟨_, rfl⟩
            rw [hP2] at aP2 sP2 HE
            have aP3 := fun w => run_string_add_sum (P := Tryd.prog) w P2 ⟨#[46]⟩ (by omega)
            have sP3 : (P2 ++ ⟨#[46]⟩).size ≤ 44 := by rw [ByteArray.size_append]; omega
            obtain ⟨P3, hP3⟩ : ∃ Q, P2 ++ ⟨#[46]⟩ = Q := ⟨_, rfl⟩
            rw [hP3] at aP3 sP3 HE
            have aP4 := fun w => run_string_add_sum (P := Tryd.prog) w P3 Z (by omega)
            have sP4 : (P3 ++ Z).size ≤ 65 := by rw [ByteArray.size_append]; omega
            obtain ⟨P4, hP4⟩ : ∃ Q, P3 ++ Z = Q := ⟨_, rfl⟩
            rw [hP4] at aP4 sP4 HE
            have aP5 := fun w => run_string_add_sum (P := Tryd.prog) w O P4 (by omega)
            have sP5 : (O ++ P4).size ≤ 3100 := by rw [ByteArray.size_append]; omega
            obtain ⟨P5, hP5⟩ : ∃ Q, O ++ P4 = Q := ⟨_, rfl⟩
            rw [hP5] at aP5 sP5 HE
            have HEE := Lib.hid HE
            clear hX hY hZ hO hP1 hP2 hP3 hP4 hP5 sX sY sZ sP1 sP2 sP3 sP4 sP5 h46 h44 hx hy hz HE hba hol hOs h0 HDJ sO
            go_wp2
            go_region_held3 (fun W => W.cell? ⟨wr.heap.size, 0, none⟩ = some (.int .i64 x) ∧ W.cell? ⟨wr.heap.size, 1, none⟩ = some (.int .i64 y) ∧ W.cell? ⟨wr.heap.size, 2, none⟩ = some (.int .i64 z) ∧ DwD w W) (first | (go_split_ands; (refine ⟨?_, ?_, ?_, ?_⟩ <;> (first | (with_reducible assumption) | ((with_reducible apply cell_keptD) <;> (with_reducible assumption)) | ((with_reducible refine cell_drD ?_); (with_reducible assumption)) | ((with_reducible refine DwD.dr ?_); (with_reducible assumption)) | ((with_reducible apply DwD.call) <;> (with_reducible assumption)))))) (first | (go_at_call 23; first | ((with_reducible refine (CX.out _ ?_).mono ?_); (focus ((repeat (first | (with_reducible assumption) | (with_reducible refine DwD.dr ?_) | (with_reducible refine DwD.call ?_ hbX) | (with_reducible refine DwD.call ?_ hbY) | (with_reducible refine DwD.call ?_ hbZ))); done)); rintro e wX ⟨rfl, hbX⟩) | ((with_reducible refine (CY.out _ ?_).mono ?_); (focus ((repeat (first | (with_reducible assumption) | (with_reducible refine DwD.dr ?_) | (with_reducible refine DwD.call ?_ hbX) | (with_reducible refine DwD.call ?_ hbY) | (with_reducible refine DwD.call ?_ hbZ))); done)); rintro e wY ⟨rfl, hbY⟩) | ((with_reducible refine (CZ.out _ ?_).mono ?_); (focus ((repeat (first | (with_reducible assumption) | (with_reducible refine DwD.dr ?_) | (with_reducible refine DwD.call ?_ hbX) | (with_reducible refine DwD.call ?_ hbY) | (with_reducible refine DwD.call ?_ hbZ))); done)); rintro e wZ ⟨rfl, hbZ⟩)))
            all_goals go_wp2
            all_goals go_roundw
            all_goals first
              | (case rel => rename_i hHeld; exact ⟨k + 1, by omega, by go_num, by rw [HEE.out], hHeld.2.2.2.bel⟩)
              | (case measure => simp [intOf]; omega)
              | skip
        · obtain rfl : k = wn := by omega
          go_wp2
          go_ret
          exact ⟨rfl, hB⟩
theorem specFT_f (B : Nat) (da : Option Addr) (dn dc : Nat) (ds : List Int) (wa : Option Addr) (wn wc : Nat) (F : List Int) (w : World) (hf : Fl w B da dn dc ds wa wn wc F) (hdl : dn ≤ 1048576) (hwl : wn ≤ 1048576) (hv : ¬ FlowOk ds wn F) :
    Calls Tryd.prog 5 #[.agg #[.slice da dn dc, .slice wa wn wc]] w fun r w' => r = .returned (.tuple #[.string ⟨#[]⟩, .bool false]) ∧ Below w.heap.size w w' := by
  have hb0 : Below w.heap.size w (w.alloc (.cells #[.slice da dn dc, .slice wa wn wc] 31)) := (Below.refl _ _).alloc (Nat.le_refl _) _
  have HI := Lib.hid (l08Is_any w.heap.size B da dn dc ds wa wn wc F _ (At2.new w _ _ 31) (hf.keep hb0 (Nat.le_refl _)) hdl hwl)
  have HB0 := Lib.hid hb0
  clear hf hb0
  go_enter Tryd.func5, Tryd.ntmps5
  go_wp2_with fail
  refine HI.out.mono ?_; rintro r w1 ⟨hb1, ok, rfl, hok⟩
  have HB1 := Lib.hid (HB0.out.trans (hb1.mono HB0.out.size))
  obtain rfl : ok = false := by cases ok with | false => rfl | true => exact absurd (hok.1 rfl) hv
  clear hok hb1
  go_wp2
  go_ret2
  exact ⟨rfl, HB1.out⟩
theorem specFT_t (B : Nat) (da : Option Addr) (dn dc : Nat) (ds : List Int) (wa : Option Addr) (wn wc : Nat) (F : List Int) (w : World) (hf : Fl w B da dn dc ds wa wn wc F) (hdl : dn ≤ 1048576) (hwl : wn ≤ 1048576) (hv : FlowOk ds wn F) (hd : DoorW w) :
    Calls Tryd.prog 5 #[.agg #[.slice da dn dc, .slice wa wn wc]] w fun r w' => r = .returned (.tuple #[.string ⟨(flT ds F wn).toArray⟩, .bool true]) ∧ Below w.heap.size w w' := by
  have hb0 : Below w.heap.size w (w.alloc (.cells #[.slice da dn dc, .slice wa wn wc] 31)) := (Below.refl _ _).alloc (Nat.le_refl _) _
  have HP := Lib.hid (At2.new w (.slice da dn dc) (.slice wa wn wc) 31)
  have HF := Lib.hid (hf.keep hb0 (Nat.le_refl _))
  have HI := Lib.hid (l08Is_any w.heap.size B da dn dc ds wa wn wc F _ HP.out HF.out hdl hwl)
  have HB0 := Lib.hid hb0
  have hlt : w.heap.size < (w.alloc (.cells #[.slice da dn dc, .slice wa wn wc] 31)).heap.size := by simp
  have HV := Lib.hid hv
  have HD := Lib.hid hd
  clear hf hb0 hv hd
  go_enter Tryd.func5, Tryd.ntmps5
  go_wp2_with fail
  refine HI.out.mono ?_; rintro r w1 ⟨hb1, ok, rfl, hok⟩
  have HB1 := Lib.hid (HB0.out.trans (hb1.mono HB0.out.size))
  obtain rfl : ok = true := hok.2 HV.out
  have HT := Lib.hid (specFTx w.heap.size B da dn dc ds wa wn wc F w1 (HP.out.below hb1 hlt) (HF.out.keep hb1 (Nat.le_refl _)) HV.out (HD.out.on HB1.out))
  clear hok hb1
  go_wp2_with fail
  refine HT.out.mono ?_; rintro r w2 ⟨rfl, hb2⟩
  have HB2 := Lib.hid (HB1.out.trans (hb2.mono HB1.out.size))
  clear hb2
  go_wp2
  go_ret2
  exact ⟨rfl, HB2.out⟩
end Go.Proofs.YtmhkeiccemfpeaaDoor
