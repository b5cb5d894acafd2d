/- The model's list of numbers out of a text. -/
import Derived.Test.YtemjohkieehojaaDoorPieM
import Derived.Test.YtemjohkieehojaaDoorReadSpec
import Derived.Test.YtemjohkieehojaaDoorPut
namespace Go.Proofs.YtemjohkieehojaaDoor
open Go.RowKit
set_option linter.unusedVariables false
set_option linter.unusedSimpArgs false
theorem str_ne2 {s : ByteArray} (h : s ≠ (⟨#[110, 111, 110, 101]⟩ : ByteArray)) : (s.toList == [110, 111, 110, 101]) = false := by
  have := str_ne' (X := s) (s := (⟨#[110, 111, 110, 101]⟩ : ByteArray)) h
  simpa using this
set_option maxHeartbeats 4000000 in
set_option maxRecDepth 100000 in
theorem specNums (s : ByteArray) (w : World) (hs : s.size ≤ 1048576) (hne : s ≠ (⟨#[110, 111, 110, 101]⟩ : ByteArray)) :
    Calls Tryd.prog 18 #[.string s] w fun e w' => ∃ v, e = .returned (.tuple #[v, .bool (numL 1000000000000000 64 (pcs 44 s.data.toList)).isSome]) ∧ Ints w' w.heap.size v ((numL 1000000000000000 64 (pcs 44 s.data.toList)).getD []) ∧ Below w.heap.size w w' := by
  obtain ⟨i0, hi, hz0, hz1, hz2⟩ := info_parts info_i64
  have n1 : (s.toList == [110, 111, 110, 101]) = false := str_ne2 hne
  clear hne
  go_enter Tryd.func18, Tryd.ntmps18
  go_wp2
  go_loopw [4, 5, 6, 7, 8] (fun v fv iv uv bv wr => ∃ (i fr : Nat) (D : List (List UInt8)) (L : List Int), i ≤ s.size + 1 ∧ iv = .int .i64 (i : Int) ∧ fv = .int .i64 (fr : Int) ∧ Hid (fr ≤ i) ∧ Hid (PcI 44 s.data.toList fr i D) ∧ Hid (nums 1000000000000000 D = some L) ∧ Hid (L.length ≤ 64) ∧ Ints wr w.heap.size v L ∧ Below w.heap.size w wr) (fun _ _ iv _ _ _ => s.size + 1 - (intOf iv).toNat)
  case atStart => exact ⟨0, 0, [], [], Nat.zero_le _, rfl, rfl, Nat.le_refl _, pcI_start _ _, rfl, Nat.zero_le _, Ints.lit w, (Below.refl _ _).alloc (Nat.le_refl _) _⟩
  case round =>
    obtain ⟨i, fr, D, L, hi1, rfl, rfl, HF, HC, HQ, HL, hbuf, hB⟩ := hrel
    have HB := Lib.hid hbuf
    have HBW := Lib.hid hB
    have hsz := hB.size
    have hl64 := HL.out
    have hfr := HF.out
    have hw1 : IntKind.i64.wrap ((i : Int) + 1) = ((i + 1 : Nat) : Int) := by rw [IntWalk.i64_in _ (by omega)]; omega
    obtain ⟨a0, cap0, hvv, -, -⟩ := hbuf.form
    subst hvv
    clear hbuf hB
    by_cases hlt : i ≤ s.size
    · by_cases hend : i = s.size
      · have hend2 : ¬ i < s.size := by omega
        have HX : Hid ((s.extract fr i).data.toList = (s.data.toList.take i).drop fr) := by rw [Hid, Lib.extract_eq, List.drop_take]
        obtain ⟨R, hR⟩ := pcI_next HC.out (by simp; omega) (fun hl => absurd hl (by simp; omega))
        have HR := Lib.hid hR
        have HN := Lib.hid (pcI_end HC.out (by rw [hend]; simp) (i + 1))
        obtain ⟨p, hp⟩ : ∃ p, (s.data.toList.take i).drop fr = p := ⟨_, rfl⟩
        rw [hp] at HX HR HN
        obtain ⟨y, hy⟩ : ∃ y, s.extract fr i = y := ⟨_, rfl⟩
        have hys : y.size ≤ 1048576 := by rw [← hy, ByteArray.size_extract]; omega
        rw [hy] at HX
        have HV := Lib.hid (l01Value_any y wr hys)
        rw [HX.out] at HV
        clear hp hys hR hend
        cases hrd : rd 1000000000000000 p with
        | none =>
          have HE : Hid (numL 1000000000000000 64 (pcs 44 s.data.toList) = none) := by rw [Hid, HR.out]; exact numL_bad HQ.out hrd
          rw [hrd] at HV
          clear hrd
          go_wp2_with fail
          refine HV.out.mono ?_; rintro e w2 ⟨rfl, hb2⟩
          have HW2 := Lib.hid (HBW.out.trans (hb2.mono hsz))
          clear hb2
          go_wp2
          go_ret2
          exact ⟨_, by rw [HE.out]; rfl, by rw [HE.out]; exact Ints.nil _ _, HW2.out⟩
        | some x =>
          by_cases h64 : L.length = 64
          · have HE : Hid (numL 1000000000000000 64 (pcs 44 s.data.toList) = none) := by rw [Hid, HR.out]; exact numL_long HQ.out h64
            have t64 : ((L.length : Int) == 64) = true := by simp; omega
            have t65 : (L.length == 64) = true := by simp; omega
            clear h64
            rw [hrd] at HV
            clear hrd
            go_wp2_with fail
            refine HV.out.mono ?_; rintro e w2 ⟨rfl, hb2⟩
            have HW2 := Lib.hid (HBW.out.trans (hb2.mono hsz))
            clear hb2
            go_wp2
            go_ret2
            exact ⟨_, by rw [HE.out]; rfl, by rw [HE.out]; exact Ints.nil _ _, HW2.out⟩
          · have t64 : ((L.length : Int) == 64) = false := by simp; omega
            have HQ2 := Lib.hid (nums_snoc HQ.out hrd)
            have hL2 : (L ++ [x]).length ≤ 64 := by simp; omega
            rw [hrd] at HV
            clear hrd
            go_wp2_with fail
            refine HV.out.mono ?_; rintro e w2 ⟨rfl, hb2⟩
            have HW2 := Lib.hid (HBW.out.trans (hb2.mono hsz))
            have HB2 := Lib.hid (HB.out.keep hb2 (Nat.le_refl _))
            have hs2 : w.heap.size ≤ w2.heap.size := Nat.le_trans hsz hb2.size
            clear hb2
            go_wp2_with (at_builtin; refine wpList_append_own _ rfl _ _ 22 rfl w.heap.size 2 i0 (.int .i64 0) 1 8 Tryd.underlying22 hi hz0 hz1 hz2 rfl (by decide) _ _ _ rfl (HB2.out.alloc _) ⟨w2.heap.size, 0, none⟩ 1 1 [.int .i64 x] rfl rfl ?c1 ?c2 ?c3 ?c4 ?c5 ?_)
            try (case c1 => exact cell_one_new _ _ _)
            case c2 => simp [Value.oneCell']
            case c3 => have := HL.out; unfold maxLen; omega
            case c4 => have := HL.out; omega
            case c5 => first | (simp; omega) | omega | skip
            intro v' w3 hown' hgrow _
            have HO := Lib.hid (ints_snocP hown')
            have HW := Lib.hid (ints_belowP HW2.out HB2.out _ hgrow)
            clear hown' hgrow
            go_wp2
            go_roundw
            case rel => exact ⟨i + 1, i + 1, _, _, by omega, by go_num, by go_num, Nat.le_refl _, HN, HQ2, hL2, HO.out, HW.out⟩
            case measure => simp [intOf]; omega
      · have hi2 : i < s.size := by omega
        have hgl : s.data.toList[i]'(by simpa using hi2) = s[i] := rfl
        by_cases h44 : s[i] = 44
        · have b44 : ((s[i].toNat : Int) == 44) = true := by rw [h44]; rfl
          have HX : Hid ((s.extract fr i).data.toList = (s.data.toList.take i).drop fr) := by rw [Hid, Lib.extract_eq, List.drop_take]
          obtain ⟨R, hR⟩ := pcI_next HC.out (by simp; omega) (fun hl => by rw [hgl]; exact h44)
          have HR := Lib.hid hR
          have HN := Lib.hid (pcI_cut HC.out (by simpa using hi2) (by rw [hgl]; exact h44))
          obtain ⟨p, hp⟩ : ∃ p, (s.data.toList.take i).drop fr = p := ⟨_, rfl⟩
          rw [hp] at HX HR HN
          obtain ⟨y, hy⟩ : ∃ y, s.extract fr i = y := ⟨_, rfl⟩
          have hys : y.size ≤ 1048576 := by rw [← hy, ByteArray.size_extract]; omega
          rw [hy] at HX
          have HV := Lib.hid (l01Value_any y wr hys)
          rw [HX.out] at HV
          clear hp hys hR h44 hgl
          cases hrd : rd 1000000000000000 p with
          | none =>
            have HE : Hid (numL 1000000000000000 64 (pcs 44 s.data.toList) = none) := by rw [Hid, HR.out]; exact numL_bad HQ.out hrd
            rw [hrd] at HV
            clear hrd
            go_wp2_with fail
            refine HV.out.mono ?_; rintro e w2 ⟨rfl, hb2⟩
            have HW2 := Lib.hid (HBW.out.trans (hb2.mono hsz))
            clear hb2
            go_wp2
            go_ret2
            exact ⟨_, by rw [HE.out]; rfl, by rw [HE.out]; exact Ints.nil _ _, HW2.out⟩
          | some x =>
            by_cases h64 : L.length = 64
            · have HE : Hid (numL 1000000000000000 64 (pcs 44 s.data.toList) = none) := by rw [Hid, HR.out]; exact numL_long HQ.out h64
              have t64 : ((L.length : Int) == 64) = true := by simp; omega
              have t65 : (L.length == 64) = true := by simp; omega
              clear h64
              rw [hrd] at HV
              clear hrd
              go_wp2_with fail
              refine HV.out.mono ?_; rintro e w2 ⟨rfl, hb2⟩
              have HW2 := Lib.hid (HBW.out.trans (hb2.mono hsz))
              clear hb2
              go_wp2
              go_ret2
              exact ⟨_, by rw [HE.out]; rfl, by rw [HE.out]; exact Ints.nil _ _, HW2.out⟩
            · have t64 : ((L.length : Int) == 64) = false := by simp; omega
              have HQ2 := Lib.hid (nums_snoc HQ.out hrd)
              have hL2 : (L ++ [x]).length ≤ 64 := by simp; omega
              rw [hrd] at HV
              clear hrd
              go_wp2_with fail
              refine HV.out.mono ?_; rintro e w2 ⟨rfl, hb2⟩
              have HW2 := Lib.hid (HBW.out.trans (hb2.mono hsz))
              have HB2 := Lib.hid (HB.out.keep hb2 (Nat.le_refl _))
              have hs2 : w.heap.size ≤ w2.heap.size := Nat.le_trans hsz hb2.size
              clear hb2
              go_wp2_with (at_builtin; refine wpList_append_own _ rfl _ _ 22 rfl w.heap.size 2 i0 (.int .i64 0) 1 8 Tryd.underlying22 hi hz0 hz1 hz2 rfl (by decide) _ _ _ rfl (HB2.out.alloc _) ⟨w2.heap.size, 0, none⟩ 1 1 [.int .i64 x] rfl rfl ?c1 ?c2 ?c3 ?c4 ?c5 ?_)
              try (case c1 => exact cell_one_new _ _ _)
              case c2 => simp [Value.oneCell']
              case c3 => have := HL.out; unfold maxLen; omega
              case c4 => have := HL.out; omega
              case c5 => first | (simp; omega) | omega | skip
              intro v' w3 hown' hgrow _
              have HO := Lib.hid (ints_snocP hown')
              have HW := Lib.hid (ints_belowP HW2.out HB2.out _ hgrow)
              clear hown' hgrow
              go_wp2
              go_roundw
              case rel => exact ⟨i + 1, i + 1, _, _, by omega, by go_num, by go_num, Nat.le_refl _, HN, HQ2, hL2, HO.out, HW.out⟩
              case measure => simp [intOf]; omega
        · have b44 : ((s[i].toNat : Int) == 44) = false := by
            simp only [beq_eq_false_iff_ne, ne_eq]
            intro e
            exact h44 (UInt8.toNat_inj.1 (by have : (44 : UInt8).toNat = 44 := rfl; omega))
          have HN := Lib.hid (pcI_none HC.out (by simpa using hi2) (by rw [hgl]; exact h44))
          go_wp2
          go_roundw
          case rel => exact ⟨i + 1, fr, D, L, by omega, by go_num, rfl, Nat.le_succ_of_le hfr, HN, HQ, HL, HB.out, HBW.out⟩
          case measure => simp [intOf]; omega
    · obtain rfl : i = s.size + 1 := by omega
      have HE : Hid (numL 1000000000000000 64 (pcs 44 s.data.toList) = some L) := by
        rcases HC.out with ⟨h1, _⟩ | ⟨_, h2⟩
        · simp at h1; omega
        · rw [Hid, h2]; exact numL_all HQ.out hl64
      go_wp2
      go_ret2
      exact ⟨_, by rw [HE.out]; rfl, by rw [HE.out]; exact HB.out, HBW.out⟩
end Go.Proofs.YtemjohkieehojaaDoor
