/- What a journal's beginning holds: the model's side. -/
import Derived.Test.YtkbnllaobnhfbaaDoorCutS
import Derived.Test.YtkbnllaobnhfbaaDoorJouS
namespace Go.Proofs.YtkbnllaobnhfbaaDoor
open Go.RowKit
set_option linter.unusedVariables false
set_option linter.unusedSimpArgs false
theorem SRow.front {w : World} {a : Option Addr} {l : List ByteArray} (h : SRow w a l) : SRow w a l.dropLast := by
  rcases h with h | ⟨b, off, h1, h2, h3⟩
  · exact .inl (by rw [h]; rfl)
  · exact .inr ⟨b, off, h1, h2, fun k hk => by
      rw [List.length_dropLast] at hk
      rw [h3 k (by omega), List.getElem_dropLast]⟩
theorem Bs_front (L : List (List UInt8)) : (Bs L).dropLast = Bs L.dropLast := by unfold Bs; rw [List.map_dropLast]
set_option maxHeartbeats 2000000 in
set_option maxRecDepth 100000 in
theorem specLines (s : ByteArray) (w : World) (hs : s.size ≤ 4000) :
    Calls Tryd.prog 41 #[.string s] w fun e w' => ∃ a cap r, e = .returned (.tuple #[.slice a (wholeL s.data.toList).length cap, .string r]) ∧ SRow w' a (Bs (wholeL s.data.toList)) ∧ Below w.heap.size w w' := by
  have HC := Lib.hid (specCut s w hs)
  have hne := cutAll_ne s.data.toList
  have hlen := cutAll_len s.data.toList
  rw [show s.data.toList.length = s.size by simp] at hlen
  have hw : (wholeL s.data.toList).length = (cutAll s.data.toList).length - 1 := by unfold wholeL; rw [List.length_dropLast]
  have hp : 1 ≤ (cutAll s.data.toList).length := by
    cases h : cutAll s.data.toList with
    | nil => exact absurd h hne
    | cons q qs => simp
  have HWB : Hid (Bs (wholeL s.data.toList) = (Bs (cutAll s.data.toList)).dropLast) := by rw [Hid, Bs_front]; rfl
  rw [hw]
  obtain ⟨C, hC⟩ : ∃ C, Bs (cutAll s.data.toList) = C := ⟨_, rfl⟩
  have hCl : (cutAll s.data.toList).length = C.length := by rw [← hC, Bs_len]
  rw [hC] at HC HWB
  rw [hCl] at hlen hp ⊢
  rw [HWB.out]
  clear hne hw hC hCl HWB
  obtain ⟨m, hm1⟩ : ∃ m, C.length = m := ⟨_, rfl⟩
  rw [hm1] at hp hlen ⊢
  obtain ⟨m', hm2⟩ : ∃ m', m - 1 = m' := ⟨_, rfl⟩
  rw [hm2]
  go_enter Tryd.func41, Tryd.ntmps41
  go_wp2_with fail
  refine HC.out.mono ?_; rintro e w1 ⟨v, rfl, hst, hb1⟩
  obtain ⟨a, cap, rfl, hm, hk⟩ := hst.form
  have HR := Lib.hid hst.row.1.front
  obtain ⟨g, rfl, _, _, hcell, _⟩ := hk m' (by omega)
  have hcap : C.length ≤ cap := by
    rcases hst with ⟨_, ⟨h1, h2⟩ | ⟨g1, cap1, cur, hv, _, _, hc, _⟩⟩
    · rw [List.length_eq_zero_iff.1 h2] at hm1; simp at hm1; omega
    · simp only [Value.slice.injEq] at hv
      omega
  have HB1 := Lib.hid hb1
  obtain ⟨y, hy⟩ : ∃ y, C[m']'(by omega) = y := ⟨_, rfl⟩
  rw [hy] at hcell
  rw [hm1] at hcap ⊢
  have hw1 : IntKind.i64.wrap ((m : Int) - 1) = (m' : Int) := by rw [IntWalk.i64_in _ (by omega)]; omega
  have hml : m' < m := by omega
  have hmc : m' ≤ cap := by omega
  clear hy hm1 hm2 hst hk hb1 hm
  go_wp2
  go_quiet (fail)
  go_wp2
  go_ret2
  exact ⟨_, _, _, rfl, HR.out.keep (below_dr (Below.refl _ _) _) (Nat.le_refl _), below_dr HB1.out _⟩
theorem cut_mem_len : ∀ (T p : List UInt8), p ∈ cutAll T → p.length ≤ T.length
  | [], p, h => by simp [cutAll] at h; rw [h]; exact Nat.zero_le _
  | b :: r, p, h => by
    have ih := cut_mem_len r
    unfold cutAll at h
    split at h
    · rcases List.mem_cons.1 h with h | h
      · rw [h]; simp
      · have := ih p h; simp; omega
    · cases hc : cutAll r with
      | nil => rw [hc] at h; simp at h; rw [h]; simp
      | cons q qs =>
        rw [hc] at h ih
        rcases List.mem_cons.1 h with h | h
        · rw [h]; have := ih q (by simp); simp; omega
        · have := ih p (by simp [h]); simp; omega
theorem whole_mem_len (T : List UInt8) (k : Nat) (h : k < (wholeL T).length) : (wholeL T)[k].length ≤ T.length :=
  cut_mem_len T _ (List.dropLast_subset _ (List.getElem_mem h))
/-- how far the reading has come -/
def RecI (W : List (List UInt8)) (i : Nat) (c : Int) (D : List (List UInt8)) (n : Nat) : Prop :=
  recM 0 W = (D ++ (recM c (W.drop i)).1, n + (recM c (W.drop i)).2) ∧ 0 ≤ c ∧ c ≤ 64900 ∧ D.length ≤ i ∧ n ≤ i * 5000
theorem recI_start (W : List (List UInt8)) : RecI W 0 0 [] 0 := ⟨by simp, by omega, by omega, by simp, by omega⟩
theorem recI_yes {W : List (List UInt8)} {i : Nat} {c : Int} {D : List (List UInt8)} {n : Nat} (h : RecI W i c D n) (hi : i < W.length) (ok : okLine c W[i] = true) (hl : W[i].length ≤ 4000) :
    RecI W (i + 1) (checkL c (W[i].drop (cutK 32 W[i] + 1))) (D ++ [W[i].drop (cutK 32 W[i] + 1)]) (n + (W[i].length + 1)) := by
  obtain ⟨h1, h2, h3, h4, h5⟩ := h
  obtain ⟨k0, k1⟩ := checkL_bd c (W[i].drop (cutK 32 W[i] + 1)) h2 h3
  refine ⟨?_, k0, k1, by simp; omega, by omega⟩
  rw [h1, List.drop_eq_getElem_cons hi, rec_yes ok]
  simp only [List.append_assoc, List.cons_append, List.nil_append]
  rw [← Nat.add_assoc]
theorem recI_no {W : List (List UInt8)} {i : Nat} {c : Int} {D : List (List UInt8)} {n : Nat} (h : RecI W i c D n) (hi : i < W.length) (ok : okLine c W[i] = false) : recM 0 W = (D, n) := by
  rw [h.1, List.drop_eq_getElem_cons hi, rec_no ok]; simp
theorem recI_end {W : List (List UInt8)} {i : Nat} {c : Int} {D : List (List UInt8)} {n : Nat} (h : RecI W i c D n) (hi : W.length ≤ i) : recM 0 W = (D, n) := by
  rw [h.1, List.drop_eq_nil_of_le hi, recM]; simp
theorem ok_nocut {c : Int} {p : List UInt8} (h : ¬ cutK 32 p < p.length) : okLine c p = false := by unfold okLine; rw [decide_eq_false h]; rfl
theorem ok_cut {c : Int} {p : List UInt8} (h : cutK 32 p < p.length) : okLine c p = decide (p.take (cutK 32 p) = Lib.itoa (checkL c (p.drop (cutK 32 p + 1)))) := by unfold okLine; rw [decide_eq_true h, Bool.true_and]
theorem cutK_le (c : UInt8) (l : List UInt8) : cutK c l ≤ l.length := by unfold cutK; exact List.findIdx_le_length
theorem cutK_stop {c : UInt8} {l : List UInt8} {j : Nat} (hj : j ≤ cutK c l) (hl : j < l.length) (h : l[j] = c) : cutK c l = j := by
  by_cases e : j < cutK c l
  · exfalso
    have := List.not_of_lt_findIdx (p := (· == c)) (xs := l) (i := j) e
    simp at this
    exact this h
  · omega
theorem cutK_next {c : UInt8} {l : List UInt8} {j : Nat} (hj : j ≤ cutK c l) (hl : j < l.length) (h : l[j] ≠ c) : j + 1 ≤ cutK c l := by
  by_cases e : j < cutK c l
  · omega
  · exfalso
    have e1 : cutK c l = j := by omega
    have h1 : cutK c l < l.length := by omega
    have := List.findIdx_getElem (w := h1)
    simp at this
    apply h
    have e2 : l.findIdx (· == c) = j := e1
    simp only [e2] at this
    exact this
theorem str_ne {x y : ByteArray} (h : x ≠ y) : (x.toList == y.toList) = false := by
  apply beq_eq_false_iff_ne.2
  intro e
  rw [Lib.toList_data, Lib.toList_data] at e
  apply h
  cases x; cases y
  simp at e
  simpa using e
theorem specRec_big (s : ByteArray) (w : World) (hs : 4000 < s.size) (hm : s.size ≤ 1048576) :
    Calls Tryd.prog 21 #[.string s] w fun e w' => e = .returned (.tuple #[.slice none 0 0, .int .i64 0, .bool false]) ∧ w = w' := by
  have t1 : (4000 : Int) < (s.size : Int) := by omega
  go_enter Tryd.func21, Tryd.ntmps21
  go_wp2
  go_ret3
  exact ⟨rfl, rfl⟩
set_option maxHeartbeats 16000000 in
set_option maxRecDepth 100000 in
theorem specRec (s : ByteArray) (w : World) (hs : s.size ≤ 4000) :
    Calls Tryd.prog 21 #[.string s] w fun e w' => ∃ v, e = .returned (.tuple #[v, .int .i64 ((recM 0 (wholeL s.data.toList)).2 : Nat), .bool true]) ∧ Strs w' w.heap.size v (Bs (recM 0 (wholeL s.data.toList)).1) ∧ Below w.heap.size w w' := by
  obtain ⟨i0, hi, hz0, hz1, hz2⟩ := info_parts info_str
  have HLI := Lib.hid (specLines s w hs)
  have HML := Lib.hid (whole_mem_len s.data.toList)
  have hwl : (wholeL s.data.toList).length ≤ 4001 := by
    have := cutAll_len s.data.toList
    unfold wholeL; rw [List.length_dropLast]; rw [show s.data.toList.length = s.size by simp] at this; omega
  have hsl : s.data.toList.length ≤ 4000 := by simpa using hs
  obtain ⟨T, hT⟩ : ∃ T, s.data.toList = T := ⟨_, rfl⟩
  rw [hT] at HLI HML hwl hsl ⊢
  obtain ⟨W, hW⟩ : ∃ W, wholeL T = W := ⟨_, rfl⟩
  rw [hW] at HLI HML hwl ⊢
  obtain ⟨R, hR⟩ : ∃ R, recM 0 W = R := ⟨_, rfl⟩
  rw [hR]
  have HR := Lib.hid hR
  obtain ⟨m, hm⟩ : ∃ m, W.length = m := ⟨_, rfl⟩
  rw [hm] at HLI hwl
  have HM := Lib.hid hm
  have t0 : ¬ (4000 : Int) < (s.size : Int) := by omega
  clear hT hW hR hm
  go_enter Tryd.func21, Tryd.ntmps21
  go_wp2_with fail
  refine HLI.out.mono ?_; rintro e w1 ⟨a, cap, rst, rfl, hrow, hb1⟩
  have HB1 := Lib.hid hb1
  have HROW := Lib.hid hrow
  have hsz1 := hb1.size
  have hal : Below w1.heap.size w1 (w1.alloc (.cells #[] 9)) := (Below.refl _ _).alloc (Nat.le_refl _) _
  have HAL := Lib.hid hal
  clear hb1 hrow hal
  go_wp2
  go_loopw [7, 8, 9, 10, 11, 12] (fun ov cv nv iv kv lv wr => ∃ (i n : Nat) (c : Int) (D : List (List UInt8)), i ≤ m ∧ iv = .int .i64 (i : Int) ∧ nv = .int .i64 (n : Int) ∧ cv = .int .i64 c ∧ Hid (RecI W i c D n) ∧ Strs wr w1.heap.size ov (Bs D) ∧ Below w1.heap.size w1 wr) (fun _ _ _ iv _ _ _ => m - (intOf iv).toNat)
  case atStart => exact ⟨0, 0, 0, [], Nat.zero_le _, rfl, rfl, rfl, recI_start W, Strs.lit w1, HAL.out⟩
  case round =>
    obtain ⟨i, n, c, D, him, rfl, rfl, rfl, HI, hbuf, hB⟩ := hrel
    have HB := Lib.hid hbuf
    have HBW := Lib.hid hB
    obtain ⟨-, j0, j1, hdl, hnl⟩ := HI.out
    have HST : Hid (Strs wr w.heap.size _ (Bs D)) := hbuf.low hsz1
    have HBB : Hid (Below w.heap.size w wr) := HB1.out.trans (hB.mono HB1.out.size)
    clear hbuf
    by_cases hlt : i < m
    · have hiW : i < W.length := by have := HM.out; omega
      have hpl := HML.out i hiW
      have HY := Lib.hid (fun h => recI_yes HI.out hiW h (by omega))
      have HNO := Lib.hid (fun h => recI_no HI.out hiW h)
      obtain ⟨b1, o1, rfl, l1, c1⟩ := HROW.out.at i (by rw [Bs_len]; exact hiW)
      rw [Bs_get] at c1
      obtain ⟨p, hp⟩ : ∃ p, W[i] = p := ⟨_, rfl⟩
      rw [hp] at c1 hpl
      have HP := Lib.hid hp
      have HY2 : Hid (okLine c p = true → RecI W (i + 1) (checkL c (p.drop (cutK 32 p + 1))) (D ++ [p.drop (cutK 32 p + 1)]) (n + (p.length + 1))) := by rw [Hid, ← hp]; exact HY.out
      have HNO2 : Hid (okLine c p = false → R = (D, n)) := by rw [Hid, ← hp, ← HR.out]; exact HNO.out
      have hPs : (⟨p.toArray⟩ : ByteArray).size = p.length := rfl
      have hPl : (⟨p.toArray⟩ : ByteArray).data.toList = p := rfl
      obtain ⟨P, hP⟩ : ∃ P : ByteArray, (⟨p.toArray⟩ : ByteArray) = P := ⟨_, rfl⟩
      rw [hP] at c1 hPs hPl
      have hP4 : P.size ≤ 4000 := by omega
      have e1 := (hB.cell (p := ⟨b1, o1 + i, none⟩) l1).trans c1
      have HC1 := Lib.hid c1
      have hPS := Lib.hid hPs
      have hPL := Lib.hid hPl
      have HCL : Hid (cutK 32 p ≤ P.size) := by rw [Hid, hPs]; exact cutK_le 32 p
      clear HY HNO hp c1 hP hPs hPl hB hpl
      go_wp2
      go_loop [11] (fun jv => ∃ j : Nat, j ≤ P.size ∧ jv = .int .i64 (j : Int) ∧ Hid (j ≤ cutK 32 p)) (fun jv => P.size - (intOf jv).toNat)
      case atStart => exact ⟨0, Nat.zero_le _, rfl, Nat.zero_le _⟩
      case round =>
        obtain ⟨j, hj, rfl, HJ⟩ := hrel
        by_cases hlt2 : j < P.size
        · have hpj : j < p.length := by have := hPS.out; omega
          have hPj : P[j] = p[j] := by
            have h1 := hPL.out
            have h2 : P.data.toList[j]? = p[j]? := by rw [h1]
            rw [List.getElem?_eq_getElem (by simpa using hlt2), List.getElem?_eq_getElem hpj] at h2
            exact Option.some.inj h2
          by_cases h32 : P[j] = 32
          · have b32 : ((P[j].toNat : Int) == 32) = true := by rw [h32]; rfl
            have b33 : ((P[j].toNat : Int) != 32) = false := by rw [h32]; rfl
            have hck : cutK 32 p = j := cutK_stop HJ.out hpj (by rw [← hPj]; exact h32)
            have hneq : ((j : Int) == (P.size : Int)) = false := by simp; omega
            have HOK := Lib.hid (ok_cut (c := c) (p := p) (by omega))
            rw [hck] at HOK HY2
            have HX1 : Hid ((P.extract (j + 1) P.size).data.toList = p.drop (j + 1)) := by rw [Hid, Lib.extract_to_end, hPL.out]
            have HX0 : Hid (P.extract 0 j = ⟨(p.take j).toArray⟩) := by rw [Hid]; exact bs_self _ _ (by rw [Lib.extract_eq, hPL.out]; rfl)
            have hxs : (P.extract (j + 1) P.size).size ≤ 4000 := by rw [ByteArray.size_extract]; omega
            have hw1 : IntKind.i64.wrap ((j : Int) + 1) = ((j + 1 : Nat) : Int) := by rw [IntWalk.i64_in _ (by omega)]; omega
            obtain ⟨x, hx⟩ : ∃ x, P.extract (j + 1) P.size = x := ⟨_, rfl⟩
            rw [hx] at HX1 hxs
            obtain ⟨O, hO⟩ : ∃ O, P.extract 0 j = O := ⟨_, rfl⟩
            rw [hO] at HX0
            rw [← HX1.out] at HOK HY2
            have HCK := Lib.hid (fun w => specCheck c x w (by unfold maxLen; omega) j0 j1)
            obtain ⟨k0, k1⟩ := checkL_bd c x.data.toList j0 j1
            have HDC := Lib.hid (fun W => specDec (checkL c x.data.toList) W (by omega) (by omega))
            obtain ⟨c', hc'⟩ : ∃ c', checkL c x.data.toList = c' := ⟨_, rfl⟩
            rw [hc'] at HOK HY2 HCK HDC
            have HXB : Hid (Bs (D ++ [x.data.toList]) = Bs D ++ [x]) := by rw [Hid, Bs_snoc, ← bs_self x _ rfl]
            clear hc' k0 k1 h32 hPj hck
            by_cases hEQ : O = ⟨(Lib.itoa c').toArray⟩
            · rw [← hEQ] at HDC
              have HYES : Hid (RecI W (i + 1) c' (D ++ [x.data.toList]) (n + (p.length + 1))) := HY2.out (by
                rw [HOK.out, decide_eq_true_eq]
                have h1 := HX0.out
                rw [hEQ] at h1
                have h2 := congrArg (fun b : ByteArray => b.data.toList) h1
                simpa using h2.symm)
              have hoo : (O.toList == O.toList) = true := by simp
              have hn1 : IntKind.i64.wrap ((P.size : Int) + 1) = ((P.size + 1 : Nat) : Int) := by rw [IntWalk.i64_in _ (by omega)]; omega
              have hn2 : IntKind.i64.wrap ((n : Int) + ((P.size + 1 : Nat) : Int)) = ((n + (P.size + 1) : Nat) : Int) := by rw [IntWalk.i64_in _ (by omega)]; omega
              have hn3 : IntKind.i64.wrap ((n : Int) + ((P.size : Int) + 1)) = ((n + (P.size + 1) : Nat) : Int) := by rw [IntWalk.i64_in _ (by omega)]; omega
              have HNN : Hid (n + (P.size + 1) = n + (p.length + 1)) := by rw [Hid, hPS.out]
              obtain ⟨n', hn'⟩ : ∃ n', n + (P.size + 1) = n' := ⟨_, rfl⟩
              rw [hn'] at hn2 hn3 HNN
              clear hEQ hn'
              go_wp2_with fail
              refine (HCK.out _).mono ?_; rintro e w' ⟨rfl, rfl⟩
              have HDN : DnJ wr wr := Below.refl _ _
              go_wp2
              go_region_held3 (fun U => U.cell? ⟨b1, o1 + i, none⟩ = some (.string P) ∧ DnJ wr U) (first | (go_split_ands; (refine ⟨?_, ?_⟩ <;> (first | (with_reducible assumption) | ((with_reducible apply cell_keptJ) <;> (with_reducible assumption)) | ((with_reducible refine cell_drJ ?_); (with_reducible assumption)) | ((with_reducible refine DnJ.dr ?_); (with_reducible assumption)) | ((with_reducible apply DnJ.call) <;> (with_reducible assumption)))))) (first | (go_at_call 43; (with_reducible refine (HDC.out _).mono ?_); rintro e w2 ⟨rfl, hb2⟩))
              rename_i hHeld
              have HB2 := Lib.hid (HB.out.keep hHeld.2 (Nat.le_refl _))
              have HBW2 := Lib.hid (HBW.out.trans (Below.mono hHeld.2 HBW.out.size))
              have hsz2 := HBW2.out.size
              have hcl2 := hHeld.1
              have HL : Hid ((Bs D).length ≤ 4001) := by rw [Hid, Bs_len]; omega
              clear hHeld e1
              go_wp2_with (at_builtin; refine wpList_append_own _ rfl _ _ 22 rfl w1.heap.size 9 i0 (.string ByteArray.empty) 1 16 Tryd.underlying22 hi hz0 hz1 hz2 rfl (by decide) _ _ _ rfl (HB2.out.alloc _) ⟨w2.heap.size, 0, none⟩ 1 1 [.string x] rfl rfl ?q1 ?q2 ?q3 ?q4 ?q5 ?_)
              try (case q1 => exact cell_one_new _ _ _)
              case q2 => simp [Value.oneCell']
              case q3 => have := HL.out; unfold maxLen; omega
              case q4 => have := HL.out; omega
              case q5 => first | (simp; omega) | omega | skip
              intro v' w5 hown' hgrow _
              have HO := Lib.hid (Strs.snoc hown')
              have HW := Lib.hid (Strs.below HBW2.out HB2.out _ hgrow)
              have hal2 : Below w1.heap.size w2 (w2.alloc (.cells #[.string x] 9)) := (Below.refl _ _).alloc hsz2 _
              have c5 := (HW.out.cell (p := ⟨b1, o1 + i, none⟩) l1)
              have c6 := c5.trans HC1.out
              clear hown' hgrow hcl2 c5 hal2
              go_wp2
              go_roundw
              case rel => exact ⟨i + 1, n', c', D ++ [x.data.toList], by omega, by go_num, rfl, rfl, (by rw [HNN.out]; exact HYES), by rw [HXB.out]; exact HO.out, HW.out⟩
              case measure => simp [intOf]; omega
            · have HRE := HNO2.out (by
                rw [HOK.out, decide_eq_false_iff_not]
                intro h
                apply hEQ
                rw [HX0.out, h])
              have hoo := str_ne hEQ
              obtain ⟨X, hX⟩ : ∃ X : ByteArray, (⟨(Lib.itoa c').toArray⟩ : ByteArray) = X := ⟨_, rfl⟩
              rw [hX] at hoo HDC
              subst HRE
              clear hEQ hX
              go_wp2_with fail
              refine (HCK.out _).mono ?_; rintro e w' ⟨rfl, rfl⟩
              have HDN : DnJ wr wr := Below.refl _ _
              go_wp2
              go_region_held3 (fun U => U.cell? ⟨b1, o1 + i, none⟩ = some (.string P) ∧ DnJ wr U) (first | (go_split_ands; (refine ⟨?_, ?_⟩ <;> (first | (with_reducible assumption) | ((with_reducible apply cell_keptJ) <;> (with_reducible assumption)) | ((with_reducible refine cell_drJ ?_); (with_reducible assumption)) | ((with_reducible refine DnJ.dr ?_); (with_reducible assumption)) | ((with_reducible apply DnJ.call) <;> (with_reducible assumption)))))) (first | (go_at_call 43; (with_reducible refine (HDC.out _).mono ?_); rintro e w2 ⟨rfl, hb2⟩))
              rename_i hHeld
              have HS2 := Lib.hid (HST.out.keep hHeld.2 (Nat.le_refl _))
              have HBB2 := Lib.hid (HBB.out.trans (Below.mono hHeld.2 HBB.out.size))
              clear hHeld e1
              go_wp2
              go_ret3
              exact ⟨_, rfl, HS2.out, HBB2.out⟩
          · have b32 : ((P[j].toNat : Int) == 32) = false := by
              apply beq_eq_false_iff_ne.2
              intro e
              exact h32 (by apply UInt8.toNat_inj.1; rw [show (32 : UInt8).toNat = 32 from rfl]; omega)
            have b33 : ((P[j].toNat : Int) != 32) = true := by rw [bne, b32]; rfl
            have HJ2 : Hid (j + 1 ≤ cutK 32 p) := cutK_next HJ.out hpj (by rw [← hPj]; exact h32)
            clear h32 hPj
            go_wp2
            go_round
            case rel => exact ⟨j + 1, by omega, by go_num, HJ2⟩
            case measure => simp [intOf]; omega
        · obtain rfl : j = P.size := by omega
          have HRE := HNO2.out (ok_nocut (by have := hPS.out; have := HJ.out; omega))
          subst HRE
          go_wp2
          go_ret3
          exact ⟨_, rfl, HST.out, HBB.out⟩
    · obtain rfl : i = m := by omega
      have HRE := recI_end HI.out (by have := HM.out; omega)
      rw [HR.out] at HRE
      subst HRE
      go_wp2
      go_ret3
      exact ⟨_, rfl, HST.out, HBB.out⟩
end Go.Proofs.YtkbnllaobnhfbaaDoor
