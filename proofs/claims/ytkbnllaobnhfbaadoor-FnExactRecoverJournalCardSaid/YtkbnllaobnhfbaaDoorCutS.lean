/- A text cut at its newlines: the model's cut, and its whole lines. -/
import Derived.Test.YtkbnllaobnhfbaaDoorRecM
import Derived.Test.YtkbnllaobnhfbaaDoorScoI
import Derived.Test.YtkbnllaobnhfbaaDoorBytes
import Derived.Lib.Explode
namespace Go.Proofs.YtkbnllaobnhfbaaDoor
open Go.RowKit
set_option linter.unusedVariables false
set_option linter.unusedSimpArgs false
def Bs (L : List (List UInt8)) : List ByteArray := L.map (fun l => ⟨l.toArray⟩)
theorem Bs_len (L : List (List UInt8)) : (Bs L).length = L.length := by simp [Bs]
theorem Bs_snoc (L : List (List UInt8)) (x : List UInt8) : Bs (L ++ [x]) = Bs L ++ [⟨x.toArray⟩] := by simp [Bs]
theorem Bs_get (L : List (List UInt8)) (k : Nat) (h : k < (Bs L).length) : (Bs L)[k] = ⟨(L[k]'(by rwa [Bs_len] at h)).toArray⟩ := by simp [Bs]
theorem bs_self (x : ByteArray) (l : List UInt8) (h : x.data.toList = l) : x = ⟨l.toArray⟩ := by subst h; cases x; simp
theorem Strs.snoc {w1 : World} {B : Nat} {v : Value} {l : List ByteArray} {x : ByteArray} (h : w1.ownsRow B 9 1 v (l.length + 1) (l.map Value.string ++ [.string x])) : Strs w1 B v (l ++ [x]) := by
  unfold Strs
  rw [List.map_append, List.length_append]; exact h
theorem Strs.below {w wr w1 : World} {v : Value} {l : List ByteArray} {B : Nat} (hB : Below B w wr) (hbuf : Strs wr B v l) (o : Obj) (hg : (wr.alloc o).grownBy w1 v.ownBlock) (hs : w.heap.size ≤ B := by exact Nat.le_refl _) (hBr : B ≤ wr.heap.size := by first | assumption | omega) : Below B w w1 :=
  (hB.alloc hBr o).grown hg (by simp; omega) (fun k e => ((World.ownsRow.alloc hbuf o).lt k e).1)
theorem seg_step (T : List UInt8) (fr i : Nat) (h : fr ≤ i) (hi : i < T.length) : (T.take (i + 1)).drop fr = (T.take i).drop fr ++ [T[i]] := by
  rw [List.take_succ_eq_append_getElem hi, List.drop_append_of_le_length (by simp; omega)]
theorem seg_rest (T : List UInt8) (fr i : Nat) (h : fr ≤ i) (hi : i ≤ T.length) : T.drop fr = (T.take i).drop fr ++ T.drop i := by
  conv => lhs; rw [← List.take_append_drop i T]
  rw [List.drop_append_of_le_length (by simp; omega)]
/-- how far the cut has come -/
def CutI (T : List UInt8) (fr i : Nat) (D : List (List UInt8)) : Prop := (i ≤ T.length ∧ fr ≤ i ∧ cutAll T = D ++ cutAll (T.drop fr) ∧ free 10 ((T.take i).drop fr)) ∨ (i = T.length + 1 ∧ cutAll T = D)
theorem cutI_start (T : List UInt8) : CutI T 0 0 [] := .inl ⟨Nat.zero_le _, Nat.le_refl _, by simp, by intro b hb; simp at hb⟩
theorem cutI_none {T : List UInt8} {fr i : Nat} {D : List (List UInt8)} (h : CutI T fr i D) (hi : i < T.length) (hn : T[i] ≠ 10) : CutI T fr (i + 1) D := by
  rcases h with ⟨h1, h2, h3, h4⟩ | ⟨h1, _⟩
  · refine .inl ⟨by omega, by omega, h3, ?_⟩
    rw [seg_step T fr i h2 hi]
    exact free_app h4 (by intro b hb; simp at hb; rw [hb]; exact hn)
  · omega
theorem cutI_nl {T : List UInt8} {fr i : Nat} {D : List (List UInt8)} (h : CutI T fr i D) (hi : i < T.length) (hn : T[i] = 10) : CutI T (i + 1) (i + 1) (D ++ [(T.take i).drop fr]) := by
  rcases h with ⟨h1, h2, h3, h4⟩ | ⟨h1, _⟩
  · refine .inl ⟨by omega, Nat.le_refl _, ?_, by intro b hb; rw [List.drop_eq_nil_of_le (by simp; omega)] at hb; simp at hb⟩
    rw [h3, seg_rest T fr i h2 (by omega), List.drop_eq_getElem_cons hi, hn, cutAll_nl _ _ h4, List.append_assoc]; rfl
  · omega
theorem cutI_end {T : List UInt8} {fr i : Nat} {D : List (List UInt8)} (h : CutI T fr i D) (hi : i = T.length) (F : Nat) : CutI T F (i + 1) (D ++ [(T.take i).drop fr]) := by
  rcases h with ⟨h1, h2, h3, h4⟩ | ⟨h1, _⟩
  · refine .inr ⟨by omega, ?_⟩
    have h5 := seg_rest T fr i h2 (by omega)
    rw [List.drop_eq_nil_of_le (show T.length ≤ i by omega), List.append_nil] at h5
    rw [h3, h5, cutAll_end _ h4]
  · omega
theorem cutAll_len : ∀ T : List UInt8, (cutAll T).length ≤ T.length + 1
  | [] => by simp [cutAll]
  | b :: r => by
    have := cutAll_len r
    unfold cutAll
    split
    · simp; omega
    · cases h : cutAll r with
      | nil => simp
      | cons q qs => rw [h] at this; simp at this ⊢; omega
theorem cutI_len {T : List UInt8} {fr i : Nat} {D : List (List UInt8)} (h : CutI T fr i D) : D.length ≤ T.length + 1 ∧ (fr ≤ i ∨ i = T.length + 1) := by
  have h0 := cutAll_len T
  rcases h with ⟨h1, h2, h3, h4⟩ | ⟨h1, h2⟩
  · rw [h3, List.length_append] at h0; omega
  · rw [← h2]; omega
set_option maxHeartbeats 4000000 in
set_option maxRecDepth 100000 in
theorem specCut (s : ByteArray) (w : World) (hs : s.size ≤ 4000) :
    Calls Tryd.prog 70 #[.string s, .int .u8 10] w fun e w' => ∃ v, e = .returned v ∧ Strs w' w.heap.size v (Bs (cutAll s.data.toList)) ∧ Below w.heap.size w w' := by
  obtain ⟨i0, hi, hz0, hz1, hz2⟩ := info_parts info_str
  go_enter Tryd.func70, Tryd.ntmps70
  go_wp2
  go_loopw [5, 6, 7] (fun v fv iv wr => ∃ (i fr : Nat) (D : List (List UInt8)), i ≤ s.size + 1 ∧ iv = .int .i64 (i : Int) ∧ fv = .int .i64 (fr : Int) ∧ fr ≤ s.size + 1 ∧ Hid (CutI s.data.toList fr i D) ∧ Strs wr w.heap.size v (Bs D) ∧ Below w.heap.size w wr) (fun _ _ iv _ => s.size + 1 - (intOf iv).toNat)
  case atStart => exact ⟨0, 0, [], Nat.zero_le _, rfl, rfl, Nat.zero_le _, cutI_start _, Strs.lit w, (Below.refl _ _).alloc (Nat.le_refl _) _⟩
  case round =>
    obtain ⟨i, fr, D, hi1, rfl, rfl, hf1, HC, hbuf, hB⟩ := hrel
    have hdl := (cutI_len HC.out).1
    have hfi := (cutI_len HC.out).2
    rw [show s.data.toList.length = s.size by simp] at hdl hfi
    have HL : Hid ((Bs D).length ≤ 4001) := by rw [Hid, Bs_len]; omega
    have HB := Lib.hid hbuf
    have HBW := Lib.hid hB
    have hsz := hB.size
    clear hbuf hB
    by_cases hlt : i ≤ s.size
    · have hfr : fr ≤ i := by omega
      have t0 : ¬ (s.size : Int) < (i : Int) := by omega
      by_cases hend : i = s.size
      · have t1 : ((i : Int) == (s.size : Int)) = true := by simp; omega
        have HX : Hid ((⟨((s.data.toList.take i).drop fr).toArray⟩ : ByteArray) = s.extract fr i) := by rw [Hid]; exact (bs_self _ _ (by rw [Lib.extract_eq, List.drop_take])).symm
        have HN := Lib.hid (cutI_end HC.out (by rw [hend]; simp) (i + 1))
        have HD := Lib.hid (Bs_snoc D ((s.data.toList.take i).drop fr))
        rw [HX.out] at HD
        have hi2 : i ≤ s.size := hlt
        obtain ⟨y, hy⟩ : ∃ y, s.extract fr i = y := ⟨_, rfl⟩
        rw [hy] at HD
        have hw1 : IntKind.i64.wrap ((i : Int) + 1) = ((i + 1 : Nat) : Int) := by rw [IntWalk.i64_in _ (by omega)]; omega
        clear HX hend
        go_wp2_with (at_builtin; refine wpList_append_own _ rfl _ _ 22 rfl w.heap.size 9 i0 (.string ByteArray.empty) 1 16 Tryd.underlying22 hi hz0 hz1 hz2 rfl (by decide) _ _ _ rfl (HB.out.alloc _) ⟨wr.heap.size, 0, none⟩ 1 1 [.string y] rfl rfl ?c1 ?c2 ?c3 ?c4 ?c5 ?_)
        try (case c1 => exact cell_one_new _ _ _)
        case c2 => simp [Value.oneCell']
        case c3 => have := HL.out; unfold maxLen; omega
        case c4 => have := HL.out; omega
        case c5 => first | (simp; omega) | omega | skip
        intro v' w2 hown' hgrow _
        have HO := Lib.hid (Strs.snoc hown')
        have HW := Lib.hid (Strs.below HBW.out HB.out _ hgrow)
        clear hown' hgrow
        go_wp2
        go_roundw
        case rel => exact ⟨i + 1, i + 1, _, by omega, by go_num, by go_num, by omega, HN, by rw [HD.out]; exact HO.out, HW.out⟩
        case measure => simp [intOf]; omega
      · have hi2 : i < s.size := by omega
        have t1 : ((i : Int) == (s.size : Int)) = false := by simp; omega
        have hgl : s.data.toList[i]'(by simpa using hi2) = s[i] := rfl
        have hw1 : IntKind.i64.wrap ((i : Int) + 1) = ((i + 1 : Nat) : Int) := by rw [IntWalk.i64_in _ (by omega)]; omega
        by_cases h10 : s[i] = 10
        · have b10 : ((s[i].toNat : Int) == 10) = true := by rw [h10]; rfl
          have HX : Hid ((⟨((s.data.toList.take i).drop fr).toArray⟩ : ByteArray) = s.extract fr i) := by rw [Hid]; exact (bs_self _ _ (by rw [Lib.extract_eq, List.drop_take])).symm
          have HN := Lib.hid (cutI_nl HC.out (by simpa using hi2) (by rw [hgl]; exact h10))
          have HD := Lib.hid (Bs_snoc D ((s.data.toList.take i).drop fr))
          rw [HX.out] at HD
          obtain ⟨y, hy⟩ : ∃ y, s.extract fr i = y := ⟨_, rfl⟩
          rw [hy] at HD
          clear HX hend h10 hgl
          go_wp2_with (at_builtin; refine wpList_append_own _ rfl _ _ 22 rfl w.heap.size 9 i0 (.string ByteArray.empty) 1 16 Tryd.underlying22 hi hz0 hz1 hz2 rfl (by decide) _ _ _ rfl (HB.out.alloc _) ⟨wr.heap.size, 0, none⟩ 1 1 [.string y] rfl rfl ?d1 ?d2 ?d3 ?d4 ?d5 ?_)
          try (case d1 => exact cell_one_new _ _ _)
          case d2 => simp [Value.oneCell']
          case d3 => have := HL.out; unfold maxLen; omega
          case d4 => have := HL.out; omega
          case d5 => first | (simp; omega) | omega | skip
          intro v' w2 hown' hgrow _
          have HO := Lib.hid (Strs.snoc hown')
          have HW := Lib.hid (Strs.below HBW.out HB.out _ hgrow)
          clear hown' hgrow
          go_wp2
          go_roundw
          case rel => exact ⟨i + 1, i + 1, _, by omega, by go_num, by go_num, by omega, HN, by rw [HD.out]; exact HO.out, HW.out⟩
          case measure => simp [intOf]; omega
        · have b10 : ((s[i].toNat : Int) == 10) = false := by
            apply beq_eq_false_iff_ne.2
            intro e
            exact h10 (by apply UInt8.toNat_inj.1; rw [show (10 : UInt8).toNat = 10 from rfl]; omega)
          have HN := Lib.hid (cutI_none HC.out (by simpa using hi2) (by rw [hgl]; exact h10))
          clear hend h10 hgl
          go_wp2
          go_roundw
          case rel => exact ⟨i + 1, fr, D, by omega, by go_num, rfl, hf1, HN, HB.out, HBW.out⟩
          case measure => simp [intOf]; omega
    · have t0 : (s.size : Int) < (i : Int) := by omega
      have HE : Hid (cutAll s.data.toList = D) := by
        rw [Hid]
        rcases HC.out with ⟨h1, _⟩ | ⟨_, h2⟩
        · rw [show s.data.toList.length = s.size by simp] at h1; omega
        · exact h2
      go_wp2
      go_ret
      exact ⟨_, rfl, by rw [HE.out]; exact HB.out, HBW.out⟩
end Go.Proofs.YtkbnllaobnhfbaaDoor
