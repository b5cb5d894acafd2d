/- What a journal's beginning holds: the program's side. -/
import Derived.Test.YtkbnllaobnhfbaaDoorRecS
import Derived.Test.YtkbnllaobnhfbaaDoorJouI
import Derived.ScopeJumps
import Derived.WalkMore
namespace Go.Proofs.YtkbnllaobnhfbaaDoor
open Go.RowKit
set_option linter.unusedVariables false
set_option linter.unusedSimpArgs false
theorem told_len (t : List UInt8) : (Lib.cut t [10]).1.length ≤ t.length := by
  by_cases h : cutK 10 t < t.length
  · rw [cut_hit 10 t h]; simp; omega
  · rw [cut_miss 10 t h]; exact Nat.le_refl _
theorem line_len (t : List UInt8) : (Lib.cut t [32]).2.1.length ≤ t.length := by
  by_cases h : cutK 32 t < t.length
  · rw [cut_hit 32 t h]; simp
  · rw [cut_miss 32 t h]; exact Nat.zero_le _
/-- how far the program has come -/
def RecP (R : List (List UInt8) × Nat) (N : Nat) (t : List UInt8) (c : Int) (D : List (List UInt8)) : Prop :=
  (R = (D ++ (recM c (wholeL t)).1, (N - t.length) + (recM c (wholeL t)).2) ∧ t.length ≤ N) ∧ 0 ≤ c ∧ c ≤ 64900 ∧ D.length + t.length ≤ N
theorem recP_start (T : List UInt8) : RecP (recM 0 (wholeL T)) T.length T 0 [] := ⟨⟨by simp, Nat.le_refl _⟩, by omega, by omega, by simp⟩
theorem recP_no {R : List (List UInt8) × Nat} {N : Nat} {t : List UInt8} {c : Int} {D : List (List UInt8)} {k : Nat} (h : RecP R N t c D) (hk : t.length = k) (hn : ¬ entL c (lineP t) <+: t) : R = (D, N - k) := by
  rw [h.1.1, step_no hn, hk]; simp
theorem recP_yes {R : List (List UInt8) × Nat} {N : Nat} {t b : List UInt8} {c : Int} {D : List (List UInt8)} (h : RecP R N t c D) (hy : t = entL c (lineP t) ++ b) : RecP R N b (checkL c (lineP t)) (D ++ [lineP t]) ∧ b.length < t.length := by
  obtain ⟨⟨h1, h2⟩, h3, h4, h5⟩ := h
  have hs := step_yes h3 h4 hy
  have hlen : t.length = (entL c (lineP t)).length + b.length := by
    have := congrArg List.length hy
    rwa [List.length_append] at this
  have he := (entL_len c (lineP t) h3 h4).1
  obtain ⟨k0, k1⟩ := checkL_bd c (lineP t) h3 h4
  refine ⟨⟨⟨?_, by omega⟩, k0, k1, by simp; omega⟩, by omega⟩
  rw [h1, hs]
  simp only [List.append_assoc, List.cons_append, List.nil_append, Prod.mk.injEq, true_and]
  omega
theorem implRec_big (s : ByteArray) (w : World) (hs : 4000 < s.size) (hm : s.size ≤ 1048576) :
    Calls Tryd.prog 22 #[.string s] w fun e w' => e = .returned (.tuple #[.slice none 0 0, .int .i64 0, .bool false]) ∧ w = w' := by
  have t1 : (4000 : Int) < (s.size : Int) := by omega
  go_enter Tryd.func22, Tryd.ntmps22
  go_wp2
  go_step3
  go_wp2
  try rw [Exit.noGoto_ret]
  go_ret3
  exact ⟨rfl, rfl⟩
set_option maxHeartbeats 16000000 in
set_option maxRecDepth 1000000 in
theorem implRec (s : ByteArray) (w : World) (hs : s.size ≤ 4000) (hd : DoorW w) (mx : Int) (hmx : w.cell? ⟨1, 0, none⟩ = some (.int .i64 mx)) :
    Calls Tryd.prog 22 #[.string s] w fun e w' => ∃ v, e = .returned (.tuple #[v, .int .i64 ((recM 0 (wholeL s.data.toList)).2 : Nat), .bool true]) ∧ Strs w' w.heap.size v (Bs (recM 0 (wholeL s.data.toList)).1) ∧ Below w.heap.size w w' := by
  obtain ⟨i0, hi, hz0, hz1, hz2⟩ := info_parts info_str
  have HD := Lib.hid hd
  have HMX : Hid (∀ W, Below w.heap.size w W → W.cell? ⟨1, 0, none⟩ = some (.int .i64 mx)) := fun W h => (h.cell (p := ⟨1, 0, none⟩) (World.block_lt_of_cell? w _ hmx)).trans hmx
  have HRI0 := recP_start s.data.toList
  rw [show s.data.toList.length = s.size by simp] at HRI0
  obtain ⟨R, hR⟩ : ∃ R, recM 0 (wholeL s.data.toList) = R := ⟨_, rfl⟩
  rw [hR] at HRI0 ⊢
  have HRI := Lib.hid HRI0
  have t0 : ¬ (4000 : Int) < (s.size : Int) := by omega
  clear hR HRI0 hd hmx
  go_enter Tryd.func22, Tryd.ntmps22
  go_wp2
  refine wp_scope_jumps 0 (fun a' w' => ∃ (v : Value) (c : Int) (t : ByteArray) (D : List (List UInt8)) (u1 u2 u3 u4 u8 u9 u10 u11 u12 u13 u14 u15 u16 u17 u18 u19 u20 u21 u22 u23 u24 u25 u26 u27 u28 u29 u30 u31 u32 u33 u34 u35 u36 u37 u38 u39 u40 u41 u42 u43 u44 u45 u46 u47 u48 u49 u50 u51 u52 u53 u54 u55 u56 u57 u58 : Value), a' = { tmps := #[.string s, u1, u2, u3, u4, v, .int .i64 c, .string t, u8, u9, u10, u11, u12, u13, u14, u15, u16, u17, u18, u19, u20, u21, u22, u23, u24, u25, u26, u27, u28, u29, u30, u31, u32, u33, u34, u35, u36, u37, u38, u39, u40, u41, u42, u43, u44, u45, u46, u47, u48, u49, u50, u51, u52, u53, u54, u55, u56, u57, u58], defers := [] } ∧ RecP R s.size t.data.toList c D ∧ Strs w' w.heap.size v (Bs D) ∧ Below w.heap.size w w') (fun a' _ => match a'.tmps.getD 7 undef with | .string t => t.size | _ => 0) rfl ?_ ?_
  · go_wp2
    go_step3
    have HCU := Lib.hid (Tryd.strings_Cut s ⟨#[10]⟩ mx w (by omega) (by exact HMX.out _ (Below.refl w.heap.size w)))
    obtain ⟨td, htd⟩ : ∃ td : ByteArray, (⟨(Lib.cut s.data.toList (⟨#[10]⟩ : ByteArray).data.toList).1.toArray⟩ : ByteArray) = td := ⟨_, rfl⟩
    have HTD : Hid (td.data.toList = (Lib.cut s.data.toList [10]).1) := by rw [Hid, ← htd]
    have htds : td.size ≤ s.size := by
      have h1 := told_len s.data.toList
      rw [← HTD.out, show td.data.toList.length = td.size by simp, show s.data.toList.length = s.size by simp] at h1
      exact h1
    rw [htd] at HCU
    clear htd
    go_wp2_with fail
    refine HCU.out.mono ?_; rintro e w2 ⟨rfl, q, hq⟩
    have HB2 : Hid (Below w.heap.size w w2) := by rw [hq]; exact below_dr (Below.refl w.heap.size w) q
    have HS2 : Hid (Strs w2 w.heap.size (.slice none 0 0) (Bs [])) := by rw [hq]; exact (Strs.nil w w.heap.size).keep (below_dr (Below.refl _ _) q) (Nat.le_refl _)
    have HCV := Lib.hid (Tryd.strings_Cut td ⟨#[32]⟩ mx w2 (by omega) (by exact HMX.out _ HB2.out))
    obtain ⟨l, hl⟩ : ∃ l : ByteArray, (⟨(Lib.cut td.data.toList (⟨#[32]⟩ : ByteArray).data.toList).2.1.toArray⟩ : ByteArray) = l := ⟨_, rfl⟩
    have HLL : Hid (l.data.toList = lineP s.data.toList) := by rw [Hid, ← hl]; unfold lineP; rw [← HTD.out]
    have hls : l.size ≤ td.size := by
      have h1 := line_len td.data.toList
      rw [show td.data.toList.length = td.size by simp] at h1
      rw [← hl]; exact h1
    rw [hl] at HCV
    clear hl hq
    go_wp2_with fail
    refine HCV.out.mono ?_; rintro e w3 ⟨rfl, q2, hq⟩
    have HB3 : Hid (Below w.heap.size w w3) := by rw [hq]; exact below_dr HB2.out q2
    have HS3 : Hid (Strs w3 w.heap.size (.slice none 0 0) (Bs [])) := by rw [hq]; exact HS2.out.keep (below_dr (Below.refl _ _) q2) (Nat.le_refl _)
    clear hq
    obtain ⟨-, j0, j1, hdl⟩ := HRI.out
    have HEN := Lib.hid (implEnt 0 l w3 j0 j1 (by omega) (HD.out.on HB3.out))
    have HEE : Hid ((⟨(entL 0 l.data.toList).toArray⟩ : ByteArray).data.toList = entL 0 (lineP s.data.toList)) := by rw [Hid, ← HLL.out]
    obtain ⟨en, hen⟩ : ∃ en : ByteArray, (⟨(entL 0 l.data.toList).toArray⟩ : ByteArray) = en := ⟨_, rfl⟩
    rw [hen] at HEN HEE
    obtain ⟨c', hc'⟩ : ∃ c', checkL 0 l.data.toList = c' := ⟨_, rfl⟩
    have HCC : Hid (checkL 0 (lineP s.data.toList) = c') := by rw [Hid, ← HLL.out]; exact hc'
    rw [hc'] at HEN
    clear hen hc' j0 j1
    go_wp2_with fail
    refine HEN.out.mono ?_; rintro e w4 ⟨rfl, hb4⟩
    have HB4 := Lib.hid (HB3.out.trans (hb4.mono HB3.out.size))
    have HS4 := Lib.hid (HS3.out.keep hb4 (Nat.le_refl _))
    clear hb4
    have HCP := Lib.hid (Tryd.strings_CutPrefix s en w4)
    cases hpre : Lib.hasPrefix s.data.toList en.data.toList with
    | false =>
      rw [hpre] at HCP
      have HRE : Hid (R = ([], s.size - s.size)) := recP_no HRI.out (by simp) (by rw [← HEE.out]; exact fun h => by simp [Lib.hasPrefix, List.isPrefixOf_iff_prefix.2 h] at hpre)
      have hRE := HRE.out
      subst hRE
      obtain ⟨t9, ht9⟩ : ∃ t9 : ByteArray, (⟨(Lib.trimPrefix s.data.toList en.data.toList).toArray⟩ : ByteArray) = t9 := ⟨_, rfl⟩
      rw [ht9] at HCP
      clear hpre ht9 HRE HRI
      have hsub : IntKind.i64.wrap ((s.size : Int) - (s.size : Int)) = ((s.size - s.size : Nat) : Int) := by rw [IntWalk.i64_in _ (by omega)]; omega
      have hsub0 : (s.size : Int) - (s.size : Int) = 0 := by omega
      go_wp2_with fail
      refine HCP.out.mono ?_; rintro e w5 ⟨rfl, h5⟩
      rw [h5]
      clear h5
      go_wp2
      simp only [Exit.jump]
      go_ret3
      exact ⟨_, by simp, HS4.out, HB4.out⟩
    | true =>
      rw [hpre] at HCP
      have hpf : en.data.toList <+: s.data.toList := by
        rw [← List.isPrefixOf_iff_prefix]; exact hpre
      obtain ⟨bh, hbh⟩ := hpf
      have htr : Lib.trimPrefix s.data.toList en.data.toList = bh := by
        unfold Lib.trimPrefix
        rw [hpre, if_pos rfl, ← hbh, List.drop_left]
      rw [htr] at HCP
      obtain ⟨t', ht'⟩ : ∃ t' : ByteArray, (⟨bh.toArray⟩ : ByteArray) = t' := ⟨_, rfl⟩
      rw [ht'] at HCP
      have htl : t'.data.toList = bh := by rw [← ht']
      have HRP0 := Lib.hid (recP_yes HRI.out (b := bh) (by rw [← HEE.out]; exact hbh.symm))
      rw [HCC.out, ← HLL.out, ← htl] at HRP0
      have HXB : Hid (Bs ([] ++ [l.data.toList]) = Bs [] ++ [l]) := by rw [Hid, Bs_snoc, ← bs_self l _ rfl]
      have HRP : Hid (RecP R s.size t'.data.toList c' ([] ++ [l.data.toList])) := HRP0.out.1
      have HLT : Hid (t'.size < s.size) := by
        have h1 := HRP0.out.2
        rw [show t'.data.toList.length = t'.size by simp, show s.data.toList.length = s.size by simp] at h1
        exact h1
      clear hpre hbh htr ht' htl HRP0
      go_wp2_with fail
      refine HCP.out.mono ?_; rintro e w5 ⟨rfl, h5⟩
      rw [h5]
      clear h5
      have hsz4 := HB4.out.size
      have HL : Hid ((Bs []).length ≤ 4001) := by rw [Hid, Bs_len]; simp
      go_wp2_with (at_builtin; refine wpList_append_own _ rfl _ _ 22 rfl w.heap.size 9 i0 (.string ByteArray.empty) 1 16 Tryd.underlying22 hi hz0 hz1 hz2 rfl (by decide) _ _ _ rfl (HS4.out.alloc _) ⟨w4.heap.size, 0, none⟩ 1 1 [.string l] rfl rfl ?a1 ?a2 ?a3 ?a4 ?a5 ?_)
      try (case a1 => exact cell_one_new _ _ _)
      case a2 => simp [Value.oneCell']
      case a3 => have := HL.out; unfold maxLen; omega
      case a4 => have := HL.out; omega
      case a5 => first | (simp; omega) | omega | skip
      intro v' w6 hown' hgrow _
      have HO := Lib.hid (Strs.snoc hown')
      have HW := Lib.hid (Strs.below HB4.out HS4.out _ hgrow)
      clear hown' hgrow
      go_wp2
      go_step3
      exact ⟨rfl, ⟨v', c', t', [] ++ [l.data.toList], _, _, _, _, _, _, _, _, _, _, _, _, _, _, _, _, _, _, _, _, _, _, _, _, _, _, _, _, _, _, _, _, _, _, _, _, _, _, _, _, _, _, _, _, _, _, _, _, _, _, _, _, _, _, _, rfl, HRP.out, by rw [HXB.out]; exact HO.out, HW.out⟩⟩
  · rintro a' wr ⟨v, c, t, D, u1, u2, u3, u4, u8, u9, u10, u11, u12, u13, u14, u15, u16, u17, u18, u19, u20, u21, u22, u23, u24, u25, u26, u27, u28, u29, u30, u31, u32, u33, u34, u35, u36, u37, u38, u39, u40, u41, u42, u43, u44, u45, u46, u47, u48, u49, u50, u51, u52, u53, u54, u55, u56, u57, u58, rfl, hri, hst, hbw⟩
    have HRI := Lib.hid hri
    have HST := Lib.hid hst
    have HBW := Lib.hid hbw
    have htN : t.size ≤ 4000 := by
      have h1 := hri.1.2
      rw [show t.data.toList.length = t.size by simp] at h1
      omega
    have htN2 : t.size ≤ s.size := by
      have h1 := hri.1.2
      rw [show t.data.toList.length = t.size by simp] at h1
      exact h1
    clear hri hst hbw
    have HCU := Lib.hid (Tryd.strings_Cut t ⟨#[10]⟩ mx wr (by omega) (by exact HMX.out _ HBW.out))
    obtain ⟨td, htd⟩ : ∃ td : ByteArray, (⟨(Lib.cut t.data.toList (⟨#[10]⟩ : ByteArray).data.toList).1.toArray⟩ : ByteArray) = td := ⟨_, rfl⟩
    have HTD : Hid (td.data.toList = (Lib.cut t.data.toList [10]).1) := by rw [Hid, ← htd]
    have htds : td.size ≤ t.size := by
      have h1 := told_len t.data.toList
      rw [← HTD.out, show td.data.toList.length = td.size by simp, show t.data.toList.length = t.size by simp] at h1
      exact h1
    rw [htd] at HCU
    clear htd
    go_wp2_with fail
    refine HCU.out.mono ?_; rintro e w2 ⟨rfl, q, hq⟩
    have HB2 : Hid (Below w.heap.size w w2) := by rw [hq]; exact below_dr HBW.out q
    have HS2 : Hid (Strs w2 w.heap.size v (Bs D)) := by rw [hq]; exact (HST.out).keep (below_dr (Below.refl _ _) q) (Nat.le_refl _)
    have HCV := Lib.hid (Tryd.strings_Cut td ⟨#[32]⟩ mx w2 (by omega) (by exact HMX.out _ HB2.out))
    obtain ⟨l, hl⟩ : ∃ l : ByteArray, (⟨(Lib.cut td.data.toList (⟨#[32]⟩ : ByteArray).data.toList).2.1.toArray⟩ : ByteArray) = l := ⟨_, rfl⟩
    have HLL : Hid (l.data.toList = lineP t.data.toList) := by rw [Hid, ← hl]; unfold lineP; rw [← HTD.out]
    have hls : l.size ≤ td.size := by
      have h1 := line_len td.data.toList
      rw [show td.data.toList.length = td.size by simp] at h1
      rw [← hl]; exact h1
    rw [hl] at HCV
    clear hl hq
    go_wp2_with fail
    refine HCV.out.mono ?_; rintro e w3 ⟨rfl, q2, hq⟩
    have HB3 : Hid (Below w.heap.size w w3) := by rw [hq]; exact below_dr HB2.out q2
    have HS3 : Hid (Strs w3 w.heap.size v (Bs D)) := by rw [hq]; exact HS2.out.keep (below_dr (Below.refl _ _) q2) (Nat.le_refl _)
    clear hq
    obtain ⟨-, j0, j1, hdl⟩ := HRI.out
    have HEN := Lib.hid (implEnt c l w3 j0 j1 (by omega) (HD.out.on HB3.out))
    have HEE : Hid ((⟨(entL c l.data.toList).toArray⟩ : ByteArray).data.toList = entL c (lineP t.data.toList)) := by rw [Hid, ← HLL.out]
    obtain ⟨en, hen⟩ : ∃ en : ByteArray, (⟨(entL c l.data.toList).toArray⟩ : ByteArray) = en := ⟨_, rfl⟩
    rw [hen] at HEN HEE
    obtain ⟨c', hc'⟩ : ∃ c', checkL c l.data.toList = c' := ⟨_, rfl⟩
    have HCC : Hid (checkL c (lineP t.data.toList) = c') := by rw [Hid, ← HLL.out]; exact hc'
    rw [hc'] at HEN
    clear hen hc' j0 j1
    go_wp2_with fail
    refine HEN.out.mono ?_; rintro e w4 ⟨rfl, hb4⟩
    have HB4 := Lib.hid (HB3.out.trans (hb4.mono HB3.out.size))
    have HS4 := Lib.hid (HS3.out.keep hb4 (Nat.le_refl _))
    clear hb4
    have HCP := Lib.hid (Tryd.strings_CutPrefix t en w4)
    cases hpre : Lib.hasPrefix t.data.toList en.data.toList with
    | false =>
      rw [hpre] at HCP
      have HRE : Hid (R = (D, s.size - t.size)) := recP_no HRI.out (by simp) (by rw [← HEE.out]; exact fun h => by simp [Lib.hasPrefix, List.isPrefixOf_iff_prefix.2 h] at hpre)
      have hRE := HRE.out
      subst hRE
      obtain ⟨t9, ht9⟩ : ∃ t9 : ByteArray, (⟨(Lib.trimPrefix t.data.toList en.data.toList).toArray⟩ : ByteArray) = t9 := ⟨_, rfl⟩
      rw [ht9] at HCP
      clear hpre ht9 HRE HRI
      have hsub : IntKind.i64.wrap ((s.size : Int) - (t.size : Int)) = ((s.size - t.size : Nat) : Int) := by rw [IntWalk.i64_in _ (by omega)]; omega
      have hsub0 : (s.size : Int) - (s.size : Int) = 0 := by omega
      go_wp2_with fail
      refine HCP.out.mono ?_; rintro e w5 ⟨rfl, h5⟩
      rw [h5]
      clear h5
      go_wp2
      simp only [Exit.jump]
      go_ret3
      exact ⟨_, rfl, HS4.out, HB4.out⟩
    | true =>
      rw [hpre] at HCP
      have hpf : en.data.toList <+: t.data.toList := by
        rw [← List.isPrefixOf_iff_prefix]; exact hpre
      obtain ⟨bh, hbh⟩ := hpf
      have htr : Lib.trimPrefix t.data.toList en.data.toList = bh := by
        unfold Lib.trimPrefix
        rw [hpre, if_pos rfl, ← hbh, List.drop_left]
      rw [htr] at HCP
      obtain ⟨t', ht'⟩ : ∃ t' : ByteArray, (⟨bh.toArray⟩ : ByteArray) = t' := ⟨_, rfl⟩
      rw [ht'] at HCP
      have htl : t'.data.toList = bh := by rw [← ht']
      have HRP0 := Lib.hid (recP_yes HRI.out (b := bh) (by rw [← HEE.out]; exact hbh.symm))
      rw [HCC.out, ← HLL.out, ← htl] at HRP0
      have HXB : Hid (Bs (D ++ [l.data.toList]) = Bs D ++ [l]) := by rw [Hid, Bs_snoc, ← bs_self l _ rfl]
      have HRP : Hid (RecP R s.size t'.data.toList c' (D ++ [l.data.toList])) := HRP0.out.1
      have HLT : Hid (t'.size < t.size) := by
        have h1 := HRP0.out.2
        rw [show t'.data.toList.length = t'.size by simp, show t.data.toList.length = t.size by simp] at h1
        exact h1
      clear hpre hbh htr ht' htl HRP0
      go_wp2_with fail
      refine HCP.out.mono ?_; rintro e w5 ⟨rfl, h5⟩
      rw [h5]
      clear h5
      have hsz4 := HB4.out.size
      have HL : Hid ((Bs D).length ≤ 4001) := by rw [Hid, Bs_len]; omega
      go_wp2_with (at_builtin; refine wpList_append_own _ rfl _ _ 22 rfl w.heap.size 9 i0 (.string ByteArray.empty) 1 16 Tryd.underlying22 hi hz0 hz1 hz2 rfl (by decide) _ _ _ rfl (HS4.out.alloc _) ⟨w4.heap.size, 0, none⟩ 1 1 [.string l] rfl rfl ?b1 ?b2 ?b3 ?b4 ?b5 ?_)
      try (case b1 => exact cell_one_new _ _ _)
      case b2 => simp [Value.oneCell']
      case b3 => have := HL.out; unfold maxLen; omega
      case b4 => have := HL.out; omega
      case b5 => first | (simp; omega) | omega | skip
      intro v' w6 hown' hgrow _
      have HO := Lib.hid (Strs.snoc hown')
      have HW := Lib.hid (Strs.below HB4.out HS4.out _ hgrow)
      clear hown' hgrow
      go_wp2
      go_step3
      exact ⟨rfl, ⟨v', c', t', D ++ [l.data.toList], _, _, _, _, _, _, _, _, _, _, _, _, _, _, _, _, _, _, _, _, _, _, _, _, _, _, _, _, _, _, _, _, _, _, _, _, _, _, _, _, _, _, _, _, _, _, _, _, _, _, _, _, _, _, _, rfl, HRP.out, by rw [HXB.out]; exact HO.out, HW.out⟩, HLT.out⟩
end Go.Proofs.YtkbnllaobnhfbaaDoor
