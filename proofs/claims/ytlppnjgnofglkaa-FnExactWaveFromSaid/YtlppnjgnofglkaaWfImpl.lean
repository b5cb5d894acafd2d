/- A wave by its edges, on the side of the program. -/
import Derived.Test.YtlppnjgnofglkaaWfSpec
namespace Go.Proofs.Ytlppnjgnofglkaa
open Go.RowKit
set_option linter.unusedVariables false
theorem builder_drawnW {T e : TypeId} {B b : Nat} {bs : List Value} {w : World} (h : Lib.IsBuilderF T e B b bs w) (n : Nat) : Lib.IsBuilderF T e B b bs (w.drewN n) := h

set_option maxHeartbeats 4000000 in
set_option maxRecDepth 100000 in
theorem implFrom (B C : Nat) (ga gb : Nat) (ca cb : Nat) (U D : List Int) (n : Nat) (w : World) (hU : Ints w B (.slice (some ⟨ga, 0, none⟩) U.length ca) U) (hD : Ints w C (.slice (some ⟨gb, 0, none⟩) D.length cb) D) (hn : n ≤ 400) (hlU : U.length ≤ 1048576) (hlD : D.length ≤ 1048576)
    (hrU : risesB U ((n : Int) - 1) = true) (hrD : risesB D ((n : Int) - 1) = true) :
    Calls Try.prog 6 #[.slice (some ⟨ga, 0, none⟩) U.length ca, .slice (some ⟨gb, 0, none⟩) D.length cb, .int .i64 (n : Int)] w fun e w' => e = .returned (.tuple #[.string (wfRes U D n).1, .bool (wfRes U D n).2]) ∧ Below w.heap.size w w' := by
  have HU := Lib.hid hU
  have HD := Lib.hid hD
  have wn : IntKind.i64.wrap ((n : Int) - 1) = (n : Int) - 1 := IntWalk.i64_in _ (by omega)
  have SU := Lib.hid (fun w h => (implSet B (some ⟨ga, 0, none⟩) ca U ((n : Int) - 1) w h hlU).mono (R' := fun e w' => e = .returned (.bool true) ∧ ∃ q, w' = w.drewN q) (fun e w' h => by rw [hrU] at h; exact h))
  have SD := Lib.hid (fun w h => (implSet C (some ⟨gb, 0, none⟩) cb D ((n : Int) - 1) w h hlD).mono (R' := fun e w' => e = .returned (.bool true) ∧ ∃ q, w' = w.drewN q) (fun e w' h => by rw [hrD] at h; exact h))
  have RU := Lib.hid hrU
  have RD := Lib.hid hrD
  clear hU hD hrU hrD
  go_enter Try.func6, Try.ntmps6
  go_wp2_with fail
  refine (within_i64_t _ _ _ _ (by omega) (by omega)).mono ?_; rintro e w' ⟨rfl, rfl⟩
  go_wp2_with fail
  refine (SU.out _ HU.out).mono ?_; rintro e w' ⟨rfl, q1, rfl⟩
  go_wp2_with fail
  refine (SD.out _ (HD.out.drewW q1)).mono ?_; rintro e w' ⟨rfl, q2, rfl⟩
  obtain ⟨W0, hW0⟩ : ∃ W0, (w.drewN q1).drewN q2 = W0 := ⟨_, rfl⟩
  have HS0 := Lib.hid (show w.heap.size ≤ W0.heap.size by rw [← hW0]; exact Nat.le_refl _)
  have hb0 : Below w.heap.size w W0 := by rw [← hW0]; exact belowW (belowW (Below.refl _ _) _) _
  have HB0 := Lib.hid hb0
  clear hb0
  have HU0 := Lib.hid (show Ints W0 B (.slice (some ⟨ga, 0, none⟩) U.length ca) U by rw [← hW0]; exact (HU.out.drewW q1).drewW q2)
  have HD0 := Lib.hid (show Ints W0 C (.slice (some ⟨gb, 0, none⟩) D.length cb) D by rw [← hW0]; exact (HD.out.drewW q1).drewW q2)
  have hW0' : w.drewN (q1 + q2) = W0 := by rw [← hW0, World.drewN_drewN]
  try rw [hW0]
  try rw [hW0']
  clear hW0 hW0'
  go_wp2
  go_loopw [9, 33] (fun lv iv wr => ∃ (i : Nat) (L : List UInt8) (x : UInt8), i ≤ n ∧ iv = .int .i64 (i : Int) ∧ lv = .int .i32 (x.toNat : Int) ∧ (x = 48 ∨ x = 49) ∧ wfR U D i = some (L, x) ∧ L.length = i ∧ Lib.IsBuilderF TB TU W0.heap.size W0.heap.size (Lib.byteCells L) wr ∧ Below W0.heap.size W0 wr) (fun _ iv _ => n - (intOf iv).toNat)
  case atStart => exact ⟨0, [], 48, Nat.zero_le _, rfl, rfl, .inl rfl, rfl, rfl, Lib.IsBuilderF.of (Lib.fresh_isBuilder TB TU W0), (Below.refl _ _).alloc (Nat.le_refl _) _⟩
  case round =>
    obtain ⟨i, L, x, hi2, rfl, rfl, xH, hF, hLn, hbl, hB⟩ := hrel
    have hbs := hB.size
    have hsz := builderW_lt hbl
    by_cases hlt : i < n
    · have HHU := Lib.hid (search_any B ga 0 ca U (i : Int) ((n : Int) - 1) wr (HU0.out.keep hB (Nat.le_refl _)) hlU RU.out)
      have HHD := Lib.hid (fun q => search_any C gb 0 cb D (i : Int) ((n : Int) - 1) (wr.drewN q) ((HD0.out.keep hB (Nat.le_refl _)).drewW q) hlD RD.out)
      have HF := Lib.hid hF
      have HL := Lib.hid hLn
      have HBL := Lib.hid hbl
      have HBW := Lib.hid hB
      clear hF hbl hLn hB
      cases hu : hasB U (i : Int) with
      | false =>
        cases hd : hasB D (i : Int) with
        | false =>
          have EU := Lib.hid hu
          have ED := Lib.hid hd
          rw [hu] at HHU
          rw [hd] at HHD
          clear hu hd
          rcases xH with rfl | rfl
          · have HN := Lib.hid (wfR_next HF.out (c := 48) (by rw [EU.out, ED.out]; decide))
            go_wp2_with fail
            refine HHU.out.mono ?_; rintro e w' ⟨⟨m1, rfl⟩, q3, rfl⟩
            go_wp2_with fail
            refine (HHD.out q3).mono ?_; rintro e w' ⟨⟨m2, rfl⟩, q4, rfl⟩
            go_wp2_with fail
            refine (writeRune_low W0.heap.size W0.heap.size _ 48 _ (by omega) (by omega) (builder_drawnW HBL.out (q3 + q4)) (by rw [Lib.byteCells_length, HL.out]; omega) (by show _ ≤ (World.heap _).size; exact hbs)).mono ?_
            rintro e W1 ⟨rfl, g1, b1, k1⟩
            have HG := Lib.hid g1
            have HB1 := Lib.hid ((belowW HBW.out (q3 + q4)).trans b1)
            clear g1 b1 k1
            go_wp2
            go_roundw
            case rel => exact ⟨i + 1, L ++ [48], 48, by omega, by go_num, rfl, .inl rfl, HN.out, by rw [List.length_append, HL.out]; rfl, by rw [bytes_oneW]; exact Or.inr HG.out, HB1.out⟩
            case measure => simp [intOf]; omega
          · have HN := Lib.hid (wfR_next HF.out (c := 49) (by rw [EU.out, ED.out]; decide))
            go_wp2_with fail
            refine HHU.out.mono ?_; rintro e w' ⟨⟨m1, rfl⟩, q3, rfl⟩
            go_wp2_with fail
            refine (HHD.out q3).mono ?_; rintro e w' ⟨⟨m2, rfl⟩, q4, rfl⟩
            go_wp2_with fail
            refine (writeRune_low W0.heap.size W0.heap.size _ 49 _ (by omega) (by omega) (builder_drawnW HBL.out (q3 + q4)) (by rw [Lib.byteCells_length, HL.out]; omega) (by show _ ≤ (World.heap _).size; exact hbs)).mono ?_
            rintro e W1 ⟨rfl, g1, b1, k1⟩
            have HG := Lib.hid g1
            have HB1 := Lib.hid ((belowW HBW.out (q3 + q4)).trans b1)
            clear g1 b1 k1
            go_wp2
            go_roundw
            case rel => exact ⟨i + 1, L ++ [49], 49, by omega, by go_num, rfl, .inr rfl, HN.out, by rw [List.length_append, HL.out]; rfl, by rw [bytes_oneW]; exact Or.inr HG.out, HB1.out⟩
            case measure => simp [intOf]; omega
        | true =>
          have EU := Lib.hid hu
          have ED := Lib.hid hd
          rw [hu] at HHU
          rw [hd] at HHD
          clear hu hd
          rcases xH with rfl | rfl
          · have HN := Lib.hid (wfRes_none (wfR_stop HF.out (by rw [EU.out, ED.out]; decide) n hlt))
            go_wp2_with fail
            refine HHU.out.mono ?_; rintro e w' ⟨⟨m1, rfl⟩, q3, rfl⟩
            go_wp2_with fail
            refine (HHD.out q3).mono ?_; rintro e w' ⟨⟨m2, rfl⟩, q4, rfl⟩
            go_wp2
            go_ret2
            exact ⟨by rw [HN.out]; rfl, HB0.out.trans ((belowW HBW.out _).mono HS0.out)⟩
          · have HN := Lib.hid (wfR_next HF.out (c := 48) (by rw [EU.out, ED.out]; decide))
            go_wp2_with fail
            refine HHU.out.mono ?_; rintro e w' ⟨⟨m1, rfl⟩, q3, rfl⟩
            go_wp2_with fail
            refine (HHD.out q3).mono ?_; rintro e w' ⟨⟨m2, rfl⟩, q4, rfl⟩
            go_wp2_with fail
            refine (levelOfW _ _).mono ?_; rintro e w' ⟨rfl, rfl⟩
            go_wp2_with fail
            refine (writeRune_low W0.heap.size W0.heap.size _ 48 _ (by omega) (by omega) (builder_drawnW HBL.out (q3 + q4)) (by rw [Lib.byteCells_length, HL.out]; omega) (by show _ ≤ (World.heap _).size; exact hbs)).mono ?_
            rintro e W1 ⟨rfl, g1, b1, k1⟩
            have HG := Lib.hid g1
            have HB1 := Lib.hid ((belowW HBW.out (q3 + q4)).trans b1)
            clear g1 b1 k1
            go_wp2
            go_roundw
            case rel => exact ⟨i + 1, L ++ [48], 48, by omega, by go_num, rfl, .inl rfl, HN.out, by rw [List.length_append, HL.out]; rfl, by rw [bytes_oneW]; exact Or.inr HG.out, HB1.out⟩
            case measure => simp [intOf]; omega
      | true =>
        cases hd : hasB D (i : Int) with
        | false =>
          have EU := Lib.hid hu
          have ED := Lib.hid hd
          rw [hu] at HHU
          rw [hd] at HHD
          clear hu hd
          rcases xH with rfl | rfl
          · have HN := Lib.hid (wfR_next HF.out (c := 49) (by rw [EU.out, ED.out]; decide))
            go_wp2_with fail
            refine HHU.out.mono ?_; rintro e w' ⟨⟨m1, rfl⟩, q3, rfl⟩
            go_wp2_with fail
            refine (HHD.out q3).mono ?_; rintro e w' ⟨⟨m2, rfl⟩, q4, rfl⟩
            go_wp2_with fail
            refine (levelOfW _ _).mono ?_; rintro e w' ⟨rfl, rfl⟩
            go_wp2_with fail
            refine (writeRune_low W0.heap.size W0.heap.size _ 49 _ (by omega) (by omega) (builder_drawnW HBL.out (q3 + q4)) (by rw [Lib.byteCells_length, HL.out]; omega) (by show _ ≤ (World.heap _).size; exact hbs)).mono ?_
            rintro e W1 ⟨rfl, g1, b1, k1⟩
            have HG := Lib.hid g1
            have HB1 := Lib.hid ((belowW HBW.out (q3 + q4)).trans b1)
            clear g1 b1 k1
            go_wp2
            go_roundw
            case rel => exact ⟨i + 1, L ++ [49], 49, by omega, by go_num, rfl, .inr rfl, HN.out, by rw [List.length_append, HL.out]; rfl, by rw [bytes_oneW]; exact Or.inr HG.out, HB1.out⟩
            case measure => simp [intOf]; omega
          · have HN := Lib.hid (wfRes_none (wfR_stop HF.out (by rw [EU.out, ED.out]; decide) n hlt))
            go_wp2_with fail
            refine HHU.out.mono ?_; rintro e w' ⟨⟨m1, rfl⟩, q3, rfl⟩
            go_wp2_with fail
            refine (HHD.out q3).mono ?_; rintro e w' ⟨⟨m2, rfl⟩, q4, rfl⟩
            go_wp2
            go_ret2
            exact ⟨by rw [HN.out]; rfl, HB0.out.trans ((belowW HBW.out _).mono HS0.out)⟩
        | true =>
          have EU := Lib.hid hu
          have ED := Lib.hid hd
          rw [hu] at HHU
          rw [hd] at HHD
          clear hu hd
          rcases xH with rfl | rfl
          · have HN := Lib.hid (wfRes_none (wfR_stop HF.out (by rw [EU.out, ED.out]; decide) n hlt))
            go_wp2_with fail
            refine HHU.out.mono ?_; rintro e w' ⟨⟨m1, rfl⟩, q3, rfl⟩
            go_wp2_with fail
            refine (HHD.out q3).mono ?_; rintro e w' ⟨⟨m2, rfl⟩, q4, rfl⟩
            go_wp2
            go_ret2
            exact ⟨by rw [HN.out]; rfl, HB0.out.trans ((belowW HBW.out _).mono HS0.out)⟩
          · have HN := Lib.hid (wfRes_none (wfR_stop HF.out (by rw [EU.out, ED.out]; decide) n hlt))
            go_wp2_with fail
            refine HHU.out.mono ?_; rintro e w' ⟨⟨m1, rfl⟩, q3, rfl⟩
            go_wp2_with fail
            refine (HHD.out q3).mono ?_; rintro e w' ⟨⟨m2, rfl⟩, q4, rfl⟩
            go_wp2
            go_ret2
            exact ⟨by rw [HN.out]; rfl, HB0.out.trans ((belowW HBW.out _).mono HS0.out)⟩
    · have hie : i = n := by omega
      have HX := Lib.hid (wfRes_some (U := U) (D := D) (n := n) (L := L) (lv := x) (by rw [← hie]; exact hF))
      clear hie hF
      go_wp2_with fail
      refine (Try.Builder_String_any_k W0.heap.size W0.heap.size _ _ hbl hbs).mono ?_
      rintro e w' ⟨rfl, _, hb2, _⟩
      go_wp2
      go_ret2
      exact ⟨by rw [HX.out]; rfl, HB0.out.trans ((hB.trans hb2).mono HS0.out)⟩
end Go.Proofs.Ytlppnjgnofglkaa
