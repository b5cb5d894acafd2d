/- A text cut at a byte: the model's cut. -/
import Derived.Test.YtemjohkieehojaaDoorPieM
import Derived.Test.YtemjohkieehojaaDoorScoG
import Derived.Test.YtemjohkieehojaaDoorBytes
import Derived.Test.YtemjohkieehojaaDoorIn64
import Derived.Lib.Explode
namespace Go.Proofs.YtemjohkieehojaaDoor
open Go.RowKit
set_option linter.unusedVariables false
set_option linter.unusedSimpArgs false
def Bs (L : List (List UInt8)) : List ByteArray := L.map (fun l => ⟨l.toArray⟩)
theorem Bs_len (L : List (List UInt8)) : (Bs L).length = L.length := by simp [Bs]
theorem Bs_snoc (L : List (List UInt8)) (x : List UInt8) : Bs (L ++ [x]) = Bs L ++ [⟨x.toArray⟩] := by simp [Bs]
theorem Bs_get (L : List (List UInt8)) (k : Nat) (h : k < (Bs L).length) : (Bs L)[k] = ⟨(L[k]'(by rwa [Bs_len] at h)).toArray⟩ := by simp [Bs]
theorem bs_self (x : ByteArray) (l : List UInt8) (h : x.data.toList = l) : x = ⟨l.toArray⟩ := by subst h; cases x; simp
theorem pcs_mem_lenS (c : UInt8) : ∀ (T p : List UInt8), p ∈ pcs c T → p.length ≤ T.length
  | [], p, h => by simp [pcs] at h; subst h; simp
  | b :: r, p, h => by
    have ih := pcs_mem_lenS c r
    unfold pcs at h
    split at h
    · rcases List.mem_cons.1 h with rfl | h
      · simp
      · have := ih p h; simp; omega
    · cases hr : pcs c r with
      | nil => rw [hr] at h; simp at h; subst h; simp
      | cons q qs =>
        rw [hr] at h ih
        rcases List.mem_cons.1 h with rfl | h
        · have := ih q (by simp); simp; omega
        · have := ih p (by simp [h]); simp; omega
theorem pcI_len {c : UInt8} {T : List UInt8} {fr i : Nat} {D : List (List UInt8)} (h : PcI c T fr i D) : D.length ≤ T.length + 1 ∧ (fr ≤ i ∨ i = T.length + 1) := by
  have h0 := pcs_len c T
  rcases h with ⟨h1, h2, h3, h4⟩ | ⟨h1, h2⟩
  · rw [h3, List.length_append] at h0; omega
  · rw [← h2]; omega
set_option maxHeartbeats 4000000 in
set_option maxRecDepth 100000 in
theorem specCutG (c : UInt8) (cn : Int) (hcn : cn = (c.toNat : Int)) (s : ByteArray) (w : World) (hs : s.size ≤ 1048576) :
    Calls Tryd.prog 29 #[.string s, .int .u8 cn] w fun e w' => ∃ v, e = .returned v ∧ Strs w' w.heap.size v (Bs (pcs c s.data.toList)) ∧ Below w.heap.size w w' := by
  obtain ⟨i0, hi, hz0, hz1, hz2⟩ := info_parts info_str
  have HCN := Lib.hid hcn
  clear hcn
  go_enter Tryd.func29, Tryd.ntmps29
  go_wp2
  go_loopw [5, 6, 7] (fun v fv iv wr => ∃ (i fr : Nat) (D : List (List UInt8)), i ≤ s.size + 1 ∧ iv = .int .i64 (i : Int) ∧ fv = .int .i64 (fr : Int) ∧ fr ≤ s.size + 1 ∧ Hid (PcI c s.data.toList fr i D) ∧ Strs wr w.heap.size v (Bs D) ∧ Below w.heap.size w wr) (fun _ _ iv _ => s.size + 1 - (intOf iv).toNat)
  case atStart => exact ⟨0, 0, [], Nat.zero_le _, rfl, rfl, Nat.zero_le _, pcI_start _ _, Strs.lit w, (Below.refl _ _).alloc (Nat.le_refl _) _⟩
  case round =>
    obtain ⟨i, fr, D, hi1, rfl, rfl, hf1, HC, hbuf, hB⟩ := hrel
    have hdl := (pcI_len HC.out).1
    have hfi := (pcI_len HC.out).2
    rw [show s.data.toList.length = s.size by simp] at hdl hfi
    have HL : Hid ((Bs D).length ≤ 1048577) := by rw [Hid, Bs_len]; omega
    have HB := Lib.hid hbuf
    have HBW := Lib.hid hB
    have hsz := hB.size
    clear hbuf hB
    by_cases hlt : i ≤ s.size
    · have hfr : fr ≤ i := by omega
      have t0 : ¬ (s.size : Int) < (i : Int) := by omega
      by_cases hend : i = s.size
      · have t1 : ((i : Int) == (s.size : Int)) = true := by simp; omega
        have HX : Hid ((⟨((s.data.toList.take i).drop fr).toArray⟩ : ByteArray) = s.extract fr i) := by rw [Hid]; exact (bs_self _ _ (by rw [Lib.extract_eq, List.drop_take])).symm
        have HN := Lib.hid (pcI_end HC.out (by rw [hend]; simp) (i + 1))
        have HD := Lib.hid (Bs_snoc D ((s.data.toList.take i).drop fr))
        rw [HX.out] at HD
        have hi2 : i ≤ s.size := hlt
        obtain ⟨y, hy⟩ : ∃ y, s.extract fr i = y := ⟨_, rfl⟩
        rw [hy] at HD
        have hw1 : IntKind.i64.wrap ((i : Int) + 1) = ((i + 1 : Nat) : Int) := by rw [IntWalk.i64_in _ (by omega)]; omega
        clear HX hend
        go_wp2_with (at_builtin; refine wpList_append_own _ rfl _ _ 56 rfl w.heap.size 9 i0 (.string ByteArray.empty) 1 16 Tryd.underlying56 hi hz0 hz1 hz2 rfl (by decide) _ _ _ rfl (HB.out.alloc _) ⟨wr.heap.size, 0, none⟩ 1 1 [.string y] rfl rfl ?c1 ?c2 ?c3 ?c4 ?c5 ?_)
        try (case c1 => exact cell_one_new _ _ _)
        case c2 => simp [Value.oneCell']
        case c3 => have := HL.out; unfold maxLen; omega
        case c4 => have := HL.out; omega
        case c5 => first | (simp; omega) | omega | skip
        intro v' w2 hown' hgrow _
        have HO := Lib.hid (Strs.snoc hown')
        have HW := Lib.hid (Strs.below HBW.out HB.out _ hgrow)
        clear hown' hgrow
        go_wp2
        go_roundw
        case rel => exact ⟨i + 1, i + 1, _, by omega, by go_num, by go_num, by omega, HN, by rw [HD.out]; exact HO.out, HW.out⟩
        case measure => simp [intOf]; omega
      · have hi2 : i < s.size := by omega
        have t1 : ((i : Int) == (s.size : Int)) = false := by simp; omega
        have hgl : s.data.toList[i]'(by simpa using hi2) = s[i] := rfl
        have hw1 : IntKind.i64.wrap ((i : Int) + 1) = ((i + 1 : Nat) : Int) := by rw [IntWalk.i64_in _ (by omega)]; omega
        by_cases h10 : s[i] = c
        · have b10 : ((s[i].toNat : Int) == cn) = true := by rw [h10, HCN.out]; simp
          have HX : Hid ((⟨((s.data.toList.take i).drop fr).toArray⟩ : ByteArray) = s.extract fr i) := by rw [Hid]; exact (bs_self _ _ (by rw [Lib.extract_eq, List.drop_take])).symm
          have HN := Lib.hid (pcI_cut HC.out (by simpa using hi2) (by rw [hgl]; exact h10))
          have HD := Lib.hid (Bs_snoc D ((s.data.toList.take i).drop fr))
          rw [HX.out] at HD
          obtain ⟨y, hy⟩ : ∃ y, s.extract fr i = y := ⟨_, rfl⟩
          rw [hy] at HD
          clear HX hend h10 hgl
          go_wp2_with (at_builtin; refine wpList_append_own _ rfl _ _ 56 rfl w.heap.size 9 i0 (.string ByteArray.empty) 1 16 Tryd.underlying56 hi hz0 hz1 hz2 rfl (by decide) _ _ _ rfl (HB.out.alloc _) ⟨wr.heap.size, 0, none⟩ 1 1 [.string y] rfl rfl ?d1 ?d2 ?d3 ?d4 ?d5 ?_)
          try (case d1 => exact cell_one_new _ _ _)
          case d2 => simp [Value.oneCell']
          case d3 => have := HL.out; unfold maxLen; omega
          case d4 => have := HL.out; omega
          case d5 => first | (simp; omega) | omega | skip
          intro v' w2 hown' hgrow _
          have HO := Lib.hid (Strs.snoc hown')
          have HW := Lib.hid (Strs.below HBW.out HB.out _ hgrow)
          clear hown' hgrow
          go_wp2
          go_roundw
          case rel => exact ⟨i + 1, i + 1, _, by omega, by go_num, by go_num, by omega, HN, by rw [HD.out]; exact HO.out, HW.out⟩
          case measure => simp [intOf]; omega
        · have b10 : ((s[i].toNat : Int) == cn) = false := by
            apply beq_eq_false_iff_ne.2
            intro e
            exact h10 (by apply UInt8.toNat_inj.1; have := HCN.out; omega)
          have HN := Lib.hid (pcI_none HC.out (by simpa using hi2) (by rw [hgl]; exact h10))
          clear hend h10 hgl
          go_wp2
          go_roundw
          case rel => exact ⟨i + 1, fr, D, by omega, by go_num, rfl, hf1, HN, HB.out, HBW.out⟩
          case measure => simp [intOf]; omega
    · have t0 : (s.size : Int) < (i : Int) := by omega
      have HE : Hid (pcs c s.data.toList = D) := by
        rw [Hid]
        rcases HC.out with ⟨h1, _⟩ | ⟨_, h2⟩
        · rw [show s.data.toList.length = s.size by simp] at h1; omega
        · exact h2
      go_wp2
      go_ret
      exact ⟨_, rfl, by rw [HE.out]; exact HB.out, HBW.out⟩
end Go.Proofs.YtemjohkieehojaaDoor
