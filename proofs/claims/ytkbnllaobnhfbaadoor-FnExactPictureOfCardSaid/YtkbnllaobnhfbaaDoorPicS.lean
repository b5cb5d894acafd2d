/- PictureOf: the model's side. -/
import Derived.Test.YtkbnllaobnhfbaaDoorPicM
import Derived.Test.YtkbnllaobnhfbaaDoorBytes
import Derived.Test.YtkbnllaobnhfbaaDoorIn64
import Derived.Lib.AppendStr
namespace Go.Proofs.YtkbnllaobnhfbaaDoor
open Go.RowKit
set_option linter.unusedVariables false
set_option linter.unusedSimpArgs false
theorem Buf.text {w1 : World} {B : Nat} {v : Value} {l : List UInt8} {s : ByteArray} (h : w1.ownsRow B 5 1 v (l.length + s.size) (byCells l ++ Lib.strCells s)) : Buf w1 B v (l ++ s.data.toList) := by
  unfold Buf
  have e : byCells (l ++ s.data.toList) = byCells l ++ Lib.strCells s := by simp [byCells, Lib.strCells]
  rw [e, List.length_append, show s.data.toList.length = s.size by simp]; exact h
theorem Buf.below0 {w wr w1 : World} {v : Value} {l : List UInt8} (hB : Below w.heap.size w wr) (hbuf : Buf wr w.heap.size v l) (hg : wr.grownBy w1 v.ownBlock) : Below w.heap.size w w1 :=
  hB.grown hg hB.size (fun k e => (World.ownsRow.lt hbuf k e).1)
theorem byte_get {s : ByteArray} {k : Nat} (h : k < s.size) : s.data.toList.getD k 0 = s[k] := by
  rw [List.getD_eq_getElem?_getD, List.getElem?_eq_getElem (by simpa using h)]; rfl
set_option maxHeartbeats 1000000 in
theorem specPic_v (na : Option Addr) (nn nc : Nat) (ls : List ByteArray) (wa : Option Addr) (wn wc : Nat) (ms : List ByteArray) (f t : Int) (w : World) (h : Sc w na nn ls wa wn ms) (hnl : nn ≤ 1048576) (hwl : wn ≤ 1048576) (hls : ∀ k (hk : k < ls.length), ls[k].size ≤ maxLen) (hms : ∀ k (hk : k < ms.length), ms[k].size ≤ maxLen) (hv : scB ls ms = false) :
    Calls Tryd.prog 9 #[.agg #[.slice na nn nc, .slice wa wn wc], .int .i64 f, .int .i64 t] w fun e w' => e = .returned (.tuple #[.string ⟨#[]⟩, .bool false]) ∧ Below w.heap.size w w' := by
  have hb0 : Below w.heap.size w (w.alloc (.cells #[.slice na nn nc, .slice wa wn wc] 28)) := (Below.refl _ _).alloc (Nat.le_refl _) _
  have HC := Lib.hid (specSc na nn nc ls wa wn wc ms (w.alloc (.cells #[.slice na nn nc, .slice wa wn wc] 28)) (h.keep hb0 (Nat.le_refl _)) hnl hwl hls hms w.heap.size (At2.new w _ _ _))
  rw [hv] at HC
  have HB0 := Lib.hid hb0
  clear h hls hms hb0 hv
  go_enter Tryd.func9, Tryd.ntmps9
  go_wp2_with fail
  refine HC.out.mono ?_; rintro e w1 ⟨rfl, hb1⟩
  have HB1 := Lib.hid (HB0.out.trans (hb1.mono HB0.out.size))
  clear hb1
  go_wp2
  go_ret2
  exact ⟨rfl, HB1.out⟩
set_option maxHeartbeats 1000000 in
theorem specPic_f (na : Option Addr) (nn nc : Nat) (ls : List ByteArray) (wa : Option Addr) (wn wc : Nat) (ms : List ByteArray) (f t : Int) (w : World) (h : Sc w na nn ls wa wn ms) (hnl : nn ≤ 1048576) (hwl : wn ≤ 1048576) (hls : ∀ k (hk : k < ls.length), ls[k].size ≤ maxLen) (hms : ∀ k (hk : k < ms.length), ms[k].size ≤ maxLen) (hv : scB ls ms = true) (hf : ¬ (0 ≤ f ∧ f ≤ 400)) :
    Calls Tryd.prog 9 #[.agg #[.slice na nn nc, .slice wa wn wc], .int .i64 f, .int .i64 t] w fun e w' => e = .returned (.tuple #[.string ⟨#[]⟩, .bool false]) ∧ Below w.heap.size w w' := by
  have hb0 : Below w.heap.size w (w.alloc (.cells #[.slice na nn nc, .slice wa wn wc] 28)) := (Below.refl _ _).alloc (Nat.le_refl _) _
  have HC := Lib.hid (specSc na nn nc ls wa wn wc ms (w.alloc (.cells #[.slice na nn nc, .slice wa wn wc] 28)) (h.keep hb0 (Nat.le_refl _)) hnl hwl hls hms w.heap.size (At2.new w _ _ _))
  rw [hv] at HC
  have HB0 := Lib.hid hb0
  clear h hls hms hb0 hv
  go_enter Tryd.func9, Tryd.ntmps9
  go_wp2_with fail
  refine HC.out.mono ?_; rintro e w1 ⟨rfl, hb1⟩
  have HB1 := Lib.hid (HB0.out.trans (hb1.mono HB0.out.size))
  clear hb1
  go_wp2_with fail
  refine (l00In_f _ _ _ _ (by omega)).mono ?_; rintro e w' ⟨rfl, rfl⟩
  go_wp2
  go_ret2
  exact ⟨rfl, HB1.out⟩
set_option maxHeartbeats 1000000 in
theorem specPic_t (na : Option Addr) (nn nc : Nat) (ls : List ByteArray) (wa : Option Addr) (wn wc : Nat) (ms : List ByteArray) (f t : Int) (w : World) (h : Sc w na nn ls wa wn ms) (hnl : nn ≤ 1048576) (hwl : wn ≤ 1048576) (hls : ∀ k (hk : k < ls.length), ls[k].size ≤ maxLen) (hms : ∀ k (hk : k < ms.length), ms[k].size ≤ maxLen) (hv : scB ls ms = true) (hf : 0 ≤ f ∧ f ≤ 400) (ht : ¬ (1 ≤ t ∧ t ≤ 100)) :
    Calls Tryd.prog 9 #[.agg #[.slice na nn nc, .slice wa wn wc], .int .i64 f, .int .i64 t] w fun e w' => e = .returned (.tuple #[.string ⟨#[]⟩, .bool false]) ∧ Below w.heap.size w w' := by
  have hb0 : Below w.heap.size w (w.alloc (.cells #[.slice na nn nc, .slice wa wn wc] 28)) := (Below.refl _ _).alloc (Nat.le_refl _) _
  have HC := Lib.hid (specSc na nn nc ls wa wn wc ms (w.alloc (.cells #[.slice na nn nc, .slice wa wn wc] 28)) (h.keep hb0 (Nat.le_refl _)) hnl hwl hls hms w.heap.size (At2.new w _ _ _))
  rw [hv] at HC
  have HB0 := Lib.hid hb0
  clear h hls hms hb0 hv
  go_enter Tryd.func9, Tryd.ntmps9
  go_wp2_with fail
  refine HC.out.mono ?_; rintro e w1 ⟨rfl, hb1⟩
  have HB1 := Lib.hid (HB0.out.trans (hb1.mono HB0.out.size))
  clear hb1
  go_wp2_with fail
  refine (l00In_t _ _ _ _ hf.1 hf.2).mono ?_; rintro e w' ⟨rfl, rfl⟩
  go_wp2_with fail
  refine (l00In_f _ _ _ _ (by omega)).mono ?_; rintro e w' ⟨rfl, rfl⟩
  go_wp2
  go_ret2
  exact ⟨rfl, HB1.out⟩
set_option maxHeartbeats 8000000 in
set_option maxRecDepth 100000 in
theorem specPic_ok (na : Option Addr) (nn nc : Nat) (ls : List ByteArray) (wa : Option Addr) (wn wc : Nat) (ms : List ByteArray) (f t : Nat) (w : World) (h : Sc w na nn ls wa wn ms) (hnl : nn ≤ 1048576) (hwl : wn ≤ 1048576) (hls : ∀ k (hk : k < ls.length), ls[k].size ≤ maxLen) (hms : ∀ k (hk : k < ms.length), ms[k].size ≤ maxLen) (hv : scB ls ms = true) (hf : f ≤ 400) (ht : 1 ≤ t ∧ t ≤ 100) :
    Calls Tryd.prog 9 #[.agg #[.slice na nn nc, .slice wa wn wc], .int .i64 (f : Int), .int .i64 (t : Int)] w fun e w' => e = .returned (.tuple #[.string ⟨⟨picP ls ms f t nn⟩⟩, .bool true]) ∧ Below w.heap.size w w' := by
  obtain ⟨i0, hi, hz0, hz1, hz2⟩ := info_parts info_u8
  have hb0 : Below w.heap.size w (w.alloc (.cells #[.slice na nn nc, .slice wa wn wc] 28)) := (Below.refl _ _).alloc (Nat.le_refl _) _
  have HC := Lib.hid (specSc na nn nc ls wa wn wc ms (w.alloc (.cells #[.slice na nn nc, .slice wa wn wc] 28)) (h.keep hb0 (Nat.le_refl _)) hnl hwl hls hms w.heap.size (At2.new w _ _ _))
  rw [hv] at HC
  have HB0 := Lib.hid hb0
  obtain ⟨g0, g1, g2, g3⟩ := At2.new w (.slice na nn nc) (.slice wa wn wc) 28
  have hszA : w.heap.size < (w.alloc (.cells #[.slice na nn nc, .slice wa wn wc] 28)).heap.size := by simp
  have HA := Lib.hid (h.keep hb0 (Nat.le_refl _))
  have HNL := Lib.hid h.nl
  have HVL := Lib.hid h.vl
  have HSC := Lib.hid (sc_ok hv)
  have HPL := Lib.hid (fun k => picP_bd hv f t ht.2 k)
  have HLEN : Hid (wn = nn) := by rw [Hid]; have := (sc_ok hv).1.2; have := h.nl; have := h.vl; omega
  obtain ⟨wA, hwA⟩ : ∃ wA, w.alloc (.cells #[.slice na nn nc, .slice wa wn wc] 28) = wA := ⟨_, rfl⟩
  rw [hwA] at HC HB0 g0 g1 g2 g3 hszA HA
  clear h hls hms hb0 hv
  go_enter Tryd.func9, Tryd.ntmps9
  go_wp2_with fail
  refine HC.out.mono ?_; rintro e w1 ⟨rfl, hb1⟩
  have HB1 := Lib.hid (HB0.out.trans (hb1.mono HB0.out.size))
  have hg0 := (hb1.cell (p := ⟨w.heap.size, 0, none⟩) hszA).trans g0
  have hg1 := (hb1.cell (p := ⟨w.heap.size, 1, none⟩) hszA).trans g1
  have hsz1 : w.heap.size < w1.heap.size := Nat.lt_of_lt_of_le hszA hb1.size
  have HA1 := Lib.hid (HA.out.keep hb1 (Nat.le_refl _))
  clear hb1 hwA
  go_wp2_with fail
  refine (l00In_t _ _ _ _ (by omega) (by omega)).mono ?_; rintro e w' ⟨rfl, rfl⟩
  go_wp2_with fail
  refine (l00In_t _ _ _ _ (by omega) (by omega)).mono ?_; rintro e w' ⟨rfl, rfl⟩
  go_wp2
  have hw1 := HB1.out.size
  have v0 : IntKind.i64.wrap ((f : Int) + (t : Int)) = ((f + t : Nat) : Int) := by rw [IntWalk.i64_in _ (by omega)]; omega
  go_loopw [8, 9] (fun v kv wr => ∃ k : Nat, k ≤ nn ∧ kv = .int .i64 (k : Int) ∧ Buf wr w1.heap.size v (picP ls ms f t k) ∧ Below w1.heap.size w1 wr) (fun _ kv _ => nn - (intOf kv).toNat)
  case atStart => exact ⟨0, Nat.zero_le _, rfl, Buf.lit w1, (Below.refl _ _).alloc (Nat.le_refl _) _⟩
  case round =>
    obtain ⟨k, hk, rfl, hbuf, hB⟩ := hrel
    have c0 := (hB.cell (p := ⟨w.heap.size, 0, none⟩) hsz1).trans hg0
    have c1 := (hB.cell (p := ⟨w.heap.size, 1, none⟩) hsz1).trans hg1
    by_cases hlt : k < nn
    · have hkl : k < ls.length := by have := HNL.out; omega
      have hkm : k < ms.length := by have := HVL.out; have := HLEN.out; omega
      have hkw : k < wn := by have := HLEN.out; omega
      obtain ⟨b1, o1, rfl, l1, d1⟩ := HA1.out.n.get k hkl
      obtain ⟨b2, o2, rfl, l2, d2⟩ := HA1.out.v.get k hkm
      obtain ⟨hn, hw⟩ := HSC.out.2 k hkl
      have hpk := HPL.out k (by omega)
      have hrow : picP ls ms f t (k + 1) = picP ls ms f t k ++ rowP (ls.getD k ByteArray.empty).data.toList (ms.getD k ByteArray.empty).data.toList f t := rfl
      obtain ⟨x, hx⟩ : ∃ x, ls.getD k ByteArray.empty = x := ⟨_, rfl⟩
      obtain ⟨m, hm⟩ : ∃ m, ms.getD k ByteArray.empty = m := ⟨_, rfl⟩
      rw [hx] at d1 hn hrow
      rw [hm] at d2 hw hrow
      have hxl := name_len hn
      have hml := wave_len hw
      rw [show x.data.toList.length = x.size by simp] at hxl
      rw [show m.data.toList.length = m.size by simp] at hml
      obtain ⟨P, hP⟩ : ∃ P, picP ls ms f t k = P := ⟨_, rfl⟩
      rw [hP] at hbuf hpk hrow
      have HROW := Lib.hid hrow
      have e1 := (hB.cell (p := ⟨b1, o1 + k, none⟩) l1).trans d1
      have e2 := (hB.cell (p := ⟨b2, o2 + k, none⟩) l2).trans d2
      have hsz := hB.size
      have HB := Lib.hid hbuf
      have HL := Lib.hid hpk
      have HBW := Lib.hid hB
      clear hbuf hpk hrow hx hm hP hn hw hB
      go_wp2_with (at_builtin; refine Lib.wpList_append_own_string _ rfl _ _ 32 9 rfl w1.heap.size 5 i0 Tryd.underlying32 Tryd.underlying9 hi hz0 hz1 hz2 _ _ _ rfl HB.out x rfl ?c3 ?c4 ?c5 ?_)
      case c3 => have := HL.out; unfold maxLen; omega
      case c4 => have := HL.out; omega
      case c5 => exact hsz
      intro v' w2 hown' hgrow _
      have HO := Lib.hid (Buf.text hown')
      have HW2 := Lib.hid (Buf.below0 HBW.out HB.out hgrow)
      clear hown' hgrow c0 c1 e1 e2 hsz
      have c0 := (HW2.out.cell (p := ⟨w.heap.size, 0, none⟩) hsz1).trans hg0
      have c1 := (HW2.out.cell (p := ⟨w.heap.size, 1, none⟩) hsz1).trans hg1
      have e1 := (HW2.out.cell (p := ⟨b1, o1 + k, none⟩) l1).trans d1
      go_wp2
      go_loopw [8, 10] (fun v jv wr => ∃ j : Nat, x.size ≤ j ∧ j ≤ 10 ∧ jv = .int .i64 (j : Int) ∧ Buf wr w1.heap.size v (P ++ x.data.toList ++ List.replicate (j - x.size) 32) ∧ Below w1.heap.size w1 wr) (fun _ jv _ => 10 - (intOf jv).toNat)
      case atStart => exact ⟨x.size, Nat.le_refl _, hxl.2, rfl, by rw [Nat.sub_self]; simpa using HO.out, HW2.out⟩
      case round =>
        obtain ⟨j, hj0, hj1, rfl, hbuf, hB⟩ := hrel
        have HL2 : Hid ((P ++ x.data.toList ++ List.replicate (j - x.size) (32 : UInt8)).length ≤ 900) := by
          rw [Hid]; have := HL.out; simp; omega
        obtain ⟨Q, hQ⟩ : ∃ Q, (P ++ x.data.toList ++ List.replicate (j - x.size) (32 : UInt8)) = Q := ⟨_, rfl⟩
        rw [hQ] at hbuf HL2
        have HQ := Lib.hid hQ
        clear hQ
        have HB := Lib.hid hbuf
        have HBW := Lib.hid hB
        have hsz := hB.size
        clear hbuf hB c0 c1 e1
        by_cases hlt2 : j < 10
        · have HL := HL2
          have hlt3 : (j : Int) < 10 := by omega
          go_wp2_with (at_builtin; refine wpList_append_own _ rfl _ _ 32 rfl w1.heap.size 5 i0 (.int .u8 0) 1 1 Tryd.underlying32 hi hz0 hz1 hz2 rfl (by decide) _ _ _ rfl (HB.out.alloc _) ⟨wr.heap.size, 0, none⟩ 1 1 [.int .u8 ((32 : UInt8).toNat : Int)] rfl rfl ?c1 ?c2 ?c3 ?c4 ?c5 ?_)
          try (case c1 => exact cell_one_new _ _ _)
          case c2 => simp [Value.oneCell']
          case c3 => have := HL.out; unfold maxLen; omega
          case c4 => have := HL.out; omega
          case c5 => first | (simp; omega) | omega | skip
          intro v' w3 hown' hgrow _
          have HO3 := Lib.hid (Buf.snoc (b := 32) hown')
          have HW3 := Lib.hid (Buf.below HBW.out HB.out _ hgrow)
          clear hown' hgrow
          go_wp2
          go_roundw
          case rel => exact ⟨j + 1, by omega, by omega, by go_num, by rw [show j + 1 - x.size = (j - x.size) + 1 by omega, padP x.data.toList, ← List.append_assoc, HQ.out]; exact HO3.out, HW3.out⟩
          case measure => simp [intOf]; omega
        · have HJ10 : Hid (10 - x.size = j - x.size) := by rw [Hid]; omega
          have hnl10 : ¬ (j : Int) < 10 := by omega
          clear hj0 hj1 hlt2
          have c1 := (HBW.out.cell (p := ⟨w.heap.size, 1, none⟩) hsz1).trans hg1
          go_wp2
          clear c1 hsz
          go_loopw [8, 11, 12] (fun v iv bv wr => ∃ I : Nat, f ≤ I ∧ I ≤ f + t ∧ iv = .int .i64 (I : Int) ∧ Buf wr w1.heap.size v (P ++ x.data.toList ++ List.replicate (10 - x.size) 32 ++ marksP m.data.toList f (I - f)) ∧ Below w1.heap.size w1 wr) (fun _ iv _ _ => f + t - (intOf iv).toNat)
          case atStart => exact ⟨f, Nat.le_refl _, by omega, rfl, by rw [HJ10.out, HQ.out, Nat.sub_self]; simpa [marksP] using HB.out, HBW.out⟩
          case round =>
            obtain ⟨I, hI0, hI1, rfl, hbuf, hB⟩ := hrel
            obtain ⟨j, hj⟩ : ∃ j, I - f = j := ⟨_, rfl⟩
            rw [hj] at hbuf
            have HL4 : Hid ((P ++ x.data.toList ++ List.replicate (10 - x.size) (32 : UInt8) ++ marksP m.data.toList f j).length ≤ 1200) := by
              rw [Hid]; have := HL.out; simp [marksP_len]; omega
            obtain ⟨R, hR⟩ : ∃ R, (P ++ x.data.toList ++ List.replicate (10 - x.size) (32 : UInt8) ++ marksP m.data.toList f j) = R := ⟨_, rfl⟩
            rw [hR] at hbuf HL4
            have HR := Lib.hid hR
            clear hR
            have HB := Lib.hid hbuf
            have HBW := Lib.hid hB
            have hsz := hB.size
            have c1 := (hB.cell (p := ⟨w.heap.size, 1, none⟩) hsz1).trans hg1
            have e2 := (hB.cell (p := ⟨b2, o2 + k, none⟩) l2).trans d2
            clear hbuf hB
            by_cases hlt4 : I < f + t
            · have HL := HL4
              have q0 : (I : Int) < ((f + t : Nat) : Int) := by omega
              have q2 : (I : Int) < (f : Int) + (t : Int) := by omega
              have q1 : IntKind.i64.wrap ((I : Int) + 1) = ((I + 1 : Nat) : Int) := by rw [IntWalk.i64_in _ (by omega)]; omega
              have HMK := Lib.hid (marksP_succ m.data.toList f j)
              have hmk : markP m.data.toList (f + j) = if f + j < m.size then (if m.data.toList.getD (f + j) 0 = 49 then 35 else 95) else 32 := by unfold markP; rw [show m.data.toList.length = m.size by simp]
              have hI : f + j = I := by omega
              have HJ : Hid (I + 1 - f = j + 1) := by rw [Hid]; omega
              rw [hI] at HMK hmk
              have hIb : I ≤ 500 := by omega
              clear hI hj
              by_cases hin : I < m.size
              · have hby := byte_get hin
                rw [if_pos hin] at hmk
                obtain ⟨z, hz⟩ : ∃ z, m.data.toList.getD I 0 = z := ⟨_, rfl⟩
                rw [hz] at hmk hby
                by_cases h49 : z = 49
                · have b1 : (m[I].toNat : Int) = 49 := by rw [← hby, h49]; rfl
                  have b2 : ((m[I].toNat : Int) == 49) = true := by simp [b1]
                  rw [if_pos h49] at hmk
                  have HM : Hid (markP m.data.toList I = 35) := hmk
                  clear hmk hby hz b1
                  go_wp2_with (at_builtin; refine wpList_append_own _ rfl _ _ 32 rfl w1.heap.size 5 i0 (.int .u8 0) 1 1 Tryd.underlying32 hi hz0 hz1 hz2 rfl (by decide) _ _ _ rfl (HB.out.alloc _) ⟨wr.heap.size, 0, none⟩ 1 1 [.int .u8 ((35 : UInt8).toNat : Int)] rfl rfl ?c1 ?c2 ?c3 ?c4 ?c5 ?_)
                  try (case c1 => exact cell_one_new _ _ _)
                  case c2 => simp [Value.oneCell']
                  case c3 => have := HL.out; unfold maxLen; omega
                  case c4 => have := HL.out; omega
                  case c5 => first | (simp; omega) | omega | skip
                  intro v' w3 hown' hgrow _
                  have HO3 := Lib.hid (Buf.snoc (b := 35) hown')
                  have HW3 := Lib.hid (Buf.below HBW.out HB.out _ hgrow)
                  clear hown' hgrow
                  go_wp2
                  go_roundw
                  case rel => exact ⟨I + 1, by omega, by omega, by go_num, by rw [HJ.out, HMK.out, HM.out, ← List.append_assoc, HR.out]; exact HO3.out, HW3.out⟩
                  case measure => simp [intOf]; omega
                · have b1 : ¬ (m[I].toNat : Int) = 49 := fun e => h49 (by rw [hby]; apply UInt8.toNat_inj.1; rw [show (49 : UInt8).toNat = 49 from rfl]; omega)
                  have b2 : ((m[I].toNat : Int) == 49) = false := by simp [b1]
                  rw [if_neg h49] at hmk
                  have HM : Hid (markP m.data.toList I = 95) := hmk
                  clear hmk hby hz b1
                  go_wp2_with (at_builtin; refine wpList_append_own _ rfl _ _ 32 rfl w1.heap.size 5 i0 (.int .u8 0) 1 1 Tryd.underlying32 hi hz0 hz1 hz2 rfl (by decide) _ _ _ rfl (HB.out.alloc _) ⟨wr.heap.size, 0, none⟩ 1 1 [.int .u8 ((95 : UInt8).toNat : Int)] rfl rfl ?c1 ?c2 ?c3 ?c4 ?c5 ?_)
                  try (case c1 => exact cell_one_new _ _ _)
                  case c2 => simp [Value.oneCell']
                  case c3 => have := HL.out; unfold maxLen; omega
                  case c4 => have := HL.out; omega
                  case c5 => first | (simp; omega) | omega | skip
                  intro v' w3 hown' hgrow _
                  have HO3 := Lib.hid (Buf.snoc (b := 95) hown')
                  have HW3 := Lib.hid (Buf.below HBW.out HB.out _ hgrow)
                  clear hown' hgrow
                  go_wp2
                  go_roundw
                  case rel => exact ⟨I + 1, by omega, by omega, by go_num, by rw [HJ.out, HMK.out, HM.out, ← List.append_assoc, HR.out]; exact HO3.out, HW3.out⟩
                  case measure => simp [intOf]; omega
              · rw [if_neg hin] at hmk
                have HM : Hid (markP m.data.toList I = 32) := hmk
                clear hmk
                go_wp2_with (at_builtin; refine wpList_append_own _ rfl _ _ 32 rfl w1.heap.size 5 i0 (.int .u8 0) 1 1 Tryd.underlying32 hi hz0 hz1 hz2 rfl (by decide) _ _ _ rfl (HB.out.alloc _) ⟨wr.heap.size, 0, none⟩ 1 1 [.int .u8 ((32 : UInt8).toNat : Int)] rfl rfl ?c1 ?c2 ?c3 ?c4 ?c5 ?_)
                try (case c1 => exact cell_one_new _ _ _)
                case c2 => simp [Value.oneCell']
                case c3 => have := HL.out; unfold maxLen; omega
                case c4 => have := HL.out; omega
                case c5 => first | (simp; omega) | omega | skip
                intro v' w3 hown' hgrow _
                have HO3 := Lib.hid (Buf.snoc (b := 32) hown')
                have HW3 := Lib.hid (Buf.below HBW.out HB.out _ hgrow)
                clear hown' hgrow
                go_wp2
                go_roundw
                case rel => exact ⟨I + 1, by omega, by omega, by go_num, by rw [HJ.out, HMK.out, HM.out, ← List.append_assoc, HR.out]; exact HO3.out, HW3.out⟩
                case measure => simp [intOf]; omega
            · obtain rfl : j = t := by omega
              have HL := HL4
              have q0 : ¬ (I : Int) < ((f + j : Nat) : Int) := by omega
              have q2 : ¬ (I : Int) < (f : Int) + (j : Int) := by omega
              clear hj
              go_wp2_with (at_builtin; refine wpList_append_own _ rfl _ _ 32 rfl w1.heap.size 5 i0 (.int .u8 0) 1 1 Tryd.underlying32 hi hz0 hz1 hz2 rfl (by decide) _ _ _ rfl (HB.out.alloc _) ⟨wr.heap.size, 0, none⟩ 1 1 [.int .u8 ((10 : UInt8).toNat : Int)] rfl rfl ?c1 ?c2 ?c3 ?c4 ?c5 ?_)
              try (case c1 => exact cell_one_new _ _ _)
              case c2 => simp [Value.oneCell']
              case c3 => have := HL.out; unfold maxLen; omega
              case c4 => have := HL.out; omega
              case c5 => first | (simp; omega) | omega | skip
              intro v' w3 hown' hgrow _
              have HO3 := Lib.hid (Buf.snoc (b := 10) hown')
              have HW3 := Lib.hid (Buf.below HBW.out HB.out _ hgrow)
              clear hown' hgrow
              go_wp2
              go_roundw
              case rel => exact ⟨k + 1, by omega, by go_num, by rw [HROW.out]; unfold rowP; rw [show x.data.toList.length = x.size by simp, ← List.append_assoc, ← List.append_assoc, ← List.append_assoc, HR.out]; exact HO3.out, HW3.out⟩
              case measure => simp [intOf]; omega
    · obtain rfl : k = nn := by omega
      have hconv := run_buf_string _ _ _ _ hbuf
      have HB := Lib.hid hB
      clear hbuf
      go_wp2
      go_ret2
      exact ⟨rfl, HB1.out.trans (HB.out.mono HB1.out.size)⟩
end Go.Proofs.YtkbnllaobnhfbaaDoor
