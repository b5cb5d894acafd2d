/- PictureOf: the program's side. -/
import Derived.Test.YtkbnllaobnhfbaaDoorPicM
import Derived.Test.YtkbnllaobnhfbaaDoorIn64
import Derived.Test.YtkbnllaobnhfbaaDoorShelf
import Derived.Lib.BufferKept
namespace Go.Proofs.YtkbnllaobnhfbaaDoor
open Go.RowKit
set_option linter.unusedVariables false
set_option linter.unusedSimpArgs false
theorem byteCells_app (a b : List UInt8) : Lib.byteCells (a ++ b) = Lib.byteCells a ++ Lib.byteCells b := by simp [Lib.byteCells]
theorem byteCells_one (l : List UInt8) : ∀ v ∈ Lib.byteCells l, v.oneCell' = true := by
  intro v hv
  simp only [Lib.byteCells, List.mem_map] at hv
  obtain ⟨b, _, rfl⟩ := hv
  simp [Value.oneCell']
theorem byteCells_len (l : List UInt8) : (Lib.byteCells l).length = l.length := by simp [Lib.byteCells]
/-- a buffer of the call's own, at block B, holds the bytes l -/
def BufB (B : Nat) (l : List UInt8) (w : World) : Prop := Lib.IsBuffer 52 5 B B (Lib.byteCells l) w
theorem BufB.fresh (w : World) : BufB w.heap.size [] (w.alloc (.cells #[.slice none 0 0, .int .i64 0, .int .i8 0] 52)) := Lib.fresh_isBuffer 52 5 w
theorem buf_str (B : Nat) (l : List UInt8) (s : ByteArray) (w : World) (h : BufB B l w) (hB : B ≤ w.heap.size) (hl : l.length + s.size ≤ 1000000) :
    Calls Tryd.prog 30 #[.pointer (some ⟨B, 0, none⟩), .string s] w fun e w' => e = .returned (.tuple #[.int .i64 s.size, .nilIface]) ∧ BufB B (l ++ s.data.toList) w' ∧ Below B w w' := by
  refine (Tryd.Buffer_WriteString_k B B (Lib.byteCells l) s w h hB (byteCells_one l) (by rw [byteCells_len]; omega)).mono ?_
  rintro e w' ⟨h1, h2, h3, -⟩
  exact ⟨h1, by unfold BufB; rw [byteCells_app]; exact h2, h3⟩
theorem buf_byte (B : Nat) (l : List UInt8) (c : UInt8) (w : World) (h : BufB B l w) (hB : B ≤ w.heap.size) (hl : l.length + 1 ≤ 1000000) :
    Calls Tryd.prog 32 #[.pointer (some ⟨B, 0, none⟩), .int .u8 (c.toNat : Int)] w fun e w' => e = .returned .nilIface ∧ BufB B (l ++ [c]) w' ∧ Below B w w' := by
  refine (Tryd.Buffer_WriteByte_k B B (Lib.byteCells l) (c.toNat : Int) w h hB (byteCells_one l) (by rw [byteCells_len]; omega)).mono ?_
  rintro e w' ⟨h1, h2, h3, -⟩
  exact ⟨h1, by unfold BufB; rw [byteCells_app]; exact h2, h3⟩
theorem BufB.old {B : Nat} {l : List UInt8} {w w' : World} (h : BufB B l w) (hb : Below w.heap.size w w') : BufB B l w' := by
  obtain ⟨h0, v, lr, h1, h2, h3⟩ := h
  refine ⟨h0, v, lr, (hb.block B (Lib.lt_of_heap h1)).trans h1, ?_, h3⟩
  rcases h2 with ⟨k1, ⟨rfl, hn⟩ | ⟨g, cap, cur, rfl, hg, hh, rest⟩⟩
  · exact ⟨k1, .inl ⟨rfl, hn⟩⟩
  · exact ⟨k1, .inr ⟨g, cap, cur, rfl, hg, (hb.block g (Lib.lt_of_heap hh)).trans hh, rest⟩⟩
theorem rep_pad (n : Nat) : (⟨(Lib.repeatL (⟨#[32]⟩ : ByteArray).data.toList n).toArray⟩ : ByteArray).data.toList = List.replicate n 32 ∧ (⟨(Lib.repeatL (⟨#[32]⟩ : ByteArray).data.toList n).toArray⟩ : ByteArray).size = n := by
  have e : ∀ n, Lib.repeatL [(32 : UInt8)] n = List.replicate n 32 := by
    intro n
    induction n with
    | zero => rfl
    | succ n ih => rw [Lib.repeatL, ih]; rfl
  have e2 : (⟨#[32]⟩ : ByteArray).data.toList = [(32 : UInt8)] := rfl
  rw [e2, e]
  refine ⟨by simp, ?_⟩
  show (List.replicate n (32 : UInt8)).toArray.size = n
  simp
theorem mark_any (m : ByteArray) (I : Nat) (w : World) (hI : I ≤ 1000000) (hm : m.size ≤ 1000000) :
    Calls Tryd.prog 33 #[.string m, .int .i64 (I : Int)] w fun e w' => e = .returned (.int .u8 ((markP m.data.toList I).toNat : Int)) ∧ w = w' := by
  have hmk : markP m.data.toList I = if I < m.size then (if m.data.toList.getD I 0 = 49 then 35 else 95) else 32 := by unfold markP; rw [show m.data.toList.length = m.size by simp]
  go_enter Tryd.func33, Tryd.ntmps33
  by_cases hin : I < m.size
  · have hby : m.data.toList.getD I 0 = m[I] := by rw [List.getD_eq_getElem?_getD, List.getElem?_eq_getElem (by simpa using hin)]; rfl
    rw [if_pos hin] at hmk
    obtain ⟨z, hz⟩ : ∃ z, m.data.toList.getD I 0 = z := ⟨_, rfl⟩
    rw [hz] at hmk hby
    by_cases h49 : z = 49
    · have b1 : (m[I].toNat : Int) = 49 := by rw [← hby, h49]; rfl
      have b2 : ((m[I].toNat : Int) == 49) = true := by simp [b1]
      rw [if_pos h49] at hmk
      rw [hmk]
      clear hmk hby hz b1 h49
      go_wp2
      go_ret
      exact ⟨rfl, rfl⟩
    · have b1 : ¬ (m[I].toNat : Int) = 49 := fun e => h49 (by rw [hby]; apply UInt8.toNat_inj.1; rw [show (49 : UInt8).toNat = 49 from rfl]; omega)
      have b2 : ((m[I].toNat : Int) == 49) = false := by simp [b1]
      rw [if_neg h49] at hmk
      rw [hmk]
      clear hmk hby hz b1 h49
      go_wp2
      go_ret
      exact ⟨rfl, rfl⟩
  · rw [if_neg hin] at hmk
    rw [hmk]
    clear hmk
    go_wp2
    go_ret
    exact ⟨rfl, rfl⟩
set_option maxHeartbeats 1000000 in
theorem implPic_v (na : Option Addr) (nn nc : Nat) (ls : List ByteArray) (wa : Option Addr) (wn wc : Nat) (ms : List ByteArray) (f t : Int) (w : World) (h : Sc w na nn ls wa wn ms) (hnl : nn ≤ 1048576) (hwl : wn ≤ 1048576) (hls : ∀ k (hk : k < ls.length), ls[k].size ≤ maxLen) (hms : ∀ k (hk : k < ms.length), ms[k].size ≤ maxLen) (hv : scB ls ms = false) :
    Calls Tryd.prog 11 #[.agg #[.slice na nn nc, .slice wa wn wc], .int .i64 f, .int .i64 t] w fun e w' => e = .returned (.tuple #[.string ⟨#[]⟩, .bool false]) ∧ Below w.heap.size w w' := by
  have hb0 : Below w.heap.size w (w.alloc (.cells #[.slice na nn nc, .slice wa wn wc] 28)) := (Below.refl _ _).alloc (Nat.le_refl _) _
  have HC := Lib.hid (implScope na nn nc ls wa wn wc ms (w.alloc (.cells #[.slice na nn nc, .slice wa wn wc] 28)) (h.keep hb0 (Nat.le_refl _)) hnl hwl hls hms)
  rw [hv] at HC
  have HB0 := Lib.hid hb0
  clear h hls hms hb0 hv
  go_enter Tryd.func11, Tryd.ntmps11
  go_wp2_with fail
  refine HC.out.mono ?_; rintro e w1 ⟨rfl, hb1⟩
  have HB1 := Lib.hid (HB0.out.trans (hb1.mono HB0.out.size))
  clear hb1
  go_wp2
  go_ret2
  exact ⟨rfl, HB1.out⟩
set_option maxHeartbeats 1000000 in
theorem implPic_f (na : Option Addr) (nn nc : Nat) (ls : List ByteArray) (wa : Option Addr) (wn wc : Nat) (ms : List ByteArray) (f t : Int) (w : World) (h : Sc w na nn ls wa wn ms) (hnl : nn ≤ 1048576) (hwl : wn ≤ 1048576) (hls : ∀ k (hk : k < ls.length), ls[k].size ≤ maxLen) (hms : ∀ k (hk : k < ms.length), ms[k].size ≤ maxLen) (hv : scB ls ms = true) (hf : ¬ (0 ≤ f ∧ f ≤ 400)) :
    Calls Tryd.prog 11 #[.agg #[.slice na nn nc, .slice wa wn wc], .int .i64 f, .int .i64 t] w fun e w' => e = .returned (.tuple #[.string ⟨#[]⟩, .bool false]) ∧ Below w.heap.size w w' := by
  have hb0 : Below w.heap.size w (w.alloc (.cells #[.slice na nn nc, .slice wa wn wc] 28)) := (Below.refl _ _).alloc (Nat.le_refl _) _
  have HC := Lib.hid (implScope na nn nc ls wa wn wc ms (w.alloc (.cells #[.slice na nn nc, .slice wa wn wc] 28)) (h.keep hb0 (Nat.le_refl _)) hnl hwl hls hms)
  rw [hv] at HC
  have HB0 := Lib.hid hb0
  clear h hls hms hb0 hv
  go_enter Tryd.func11, Tryd.ntmps11
  go_wp2_with fail
  refine HC.out.mono ?_; rintro e w1 ⟨rfl, hb1⟩
  have HB1 := Lib.hid (HB0.out.trans (hb1.mono HB0.out.size))
  clear hb1
  go_wp2_with fail
  refine (within_i64_f _ _ _ _ (by omega)).mono ?_; rintro e w' ⟨rfl, rfl⟩
  go_wp2
  go_ret2
  exact ⟨rfl, HB1.out⟩
set_option maxHeartbeats 1000000 in
theorem implPic_t (na : Option Addr) (nn nc : Nat) (ls : List ByteArray) (wa : Option Addr) (wn wc : Nat) (ms : List ByteArray) (f t : Int) (w : World) (h : Sc w na nn ls wa wn ms) (hnl : nn ≤ 1048576) (hwl : wn ≤ 1048576) (hls : ∀ k (hk : k < ls.length), ls[k].size ≤ maxLen) (hms : ∀ k (hk : k < ms.length), ms[k].size ≤ maxLen) (hv : scB ls ms = true) (hf : 0 ≤ f ∧ f ≤ 400) (ht : ¬ (1 ≤ t ∧ t ≤ 100)) :
    Calls Tryd.prog 11 #[.agg #[.slice na nn nc, .slice wa wn wc], .int .i64 f, .int .i64 t] w fun e w' => e = .returned (.tuple #[.string ⟨#[]⟩, .bool false]) ∧ Below w.heap.size w w' := by
  have hb0 : Below w.heap.size w (w.alloc (.cells #[.slice na nn nc, .slice wa wn wc] 28)) := (Below.refl _ _).alloc (Nat.le_refl _) _
  have HC := Lib.hid (implScope na nn nc ls wa wn wc ms (w.alloc (.cells #[.slice na nn nc, .slice wa wn wc] 28)) (h.keep hb0 (Nat.le_refl _)) hnl hwl hls hms)
  rw [hv] at HC
  have HB0 := Lib.hid hb0
  clear h hls hms hb0 hv
  go_enter Tryd.func11, Tryd.ntmps11
  go_wp2_with fail
  refine HC.out.mono ?_; rintro e w1 ⟨rfl, hb1⟩
  have HB1 := Lib.hid (HB0.out.trans (hb1.mono HB0.out.size))
  clear hb1
  go_wp2_with fail
  refine (within_i64_t _ _ _ _ hf.1 hf.2).mono ?_; rintro e w' ⟨rfl, rfl⟩
  go_wp2_with fail
  refine (within_i64_f _ _ _ _ (by omega)).mono ?_; rintro e w' ⟨rfl, rfl⟩
  go_wp2
  go_ret2
  exact ⟨rfl, HB1.out⟩
set_option maxHeartbeats 8000000 in
set_option maxRecDepth 100000 in
theorem implPic_ok (na : Option Addr) (nn nc : Nat) (ls : List ByteArray) (wa : Option Addr) (wn wc : Nat) (ms : List ByteArray) (f t : Nat) (w : World) (h : Sc w na nn ls wa wn ms) (hnl : nn ≤ 1048576) (hwl : wn ≤ 1048576) (hls : ∀ k (hk : k < ls.length), ls[k].size ≤ maxLen) (hms : ∀ k (hk : k < ms.length), ms[k].size ≤ maxLen) (hv : scB ls ms = true) (hf : f ≤ 400) (ht : 1 ≤ t ∧ t ≤ 100) :
    Calls Tryd.prog 11 #[.agg #[.slice na nn nc, .slice wa wn wc], .int .i64 (f : Int), .int .i64 (t : Int)] w fun e w' => e = .returned (.tuple #[.string ⟨⟨picP ls ms f t nn⟩⟩, .bool true]) ∧ Below w.heap.size w w' := by
  have hb0 : Below w.heap.size w (w.alloc (.cells #[.slice na nn nc, .slice wa wn wc] 28)) := (Below.refl _ _).alloc (Nat.le_refl _) _
  have HC := Lib.hid (implScope na nn nc ls wa wn wc ms (w.alloc (.cells #[.slice na nn nc, .slice wa wn wc] 28)) (h.keep hb0 (Nat.le_refl _)) hnl hwl hls hms)
  rw [hv] at HC
  have HB0 := Lib.hid hb0
  obtain ⟨g0, g1, g2, g3⟩ := At2.new w (.slice na nn nc) (.slice wa wn wc) 28
  have hszA : w.heap.size < (w.alloc (.cells #[.slice na nn nc, .slice wa wn wc] 28)).heap.size := by simp
  have HA := Lib.hid (h.keep hb0 (Nat.le_refl _))
  have HNL := Lib.hid h.nl
  have HVL := Lib.hid h.vl
  have HSC := Lib.hid (sc_ok hv)
  have HPL := Lib.hid (fun k => picP_bd hv f t ht.2 k)
  have HLEN : Hid (wn = nn) := by rw [Hid]; have := (sc_ok hv).1.2; have := h.nl; have := h.vl; omega
  have hnn6 : nn ≤ 6 := by have := (sc_ok hv).1.1; have := h.nl; omega
  obtain ⟨wA, hwA⟩ : ∃ wA, w.alloc (.cells #[.slice na nn nc, .slice wa wn wc] 28) = wA := ⟨_, rfl⟩
  rw [hwA] at HC HB0 g0 g1 g2 g3 hszA HA
  clear h hls hms hb0 hv
  go_enter Tryd.func11, Tryd.ntmps11
  go_wp2_with fail
  refine HC.out.mono ?_; rintro e w1 ⟨rfl, hb1⟩
  have HB1 := Lib.hid (HB0.out.trans (hb1.mono HB0.out.size))
  have hg0 := (hb1.cell (p := ⟨w.heap.size, 0, none⟩) hszA).trans g0
  have hg1 := (hb1.cell (p := ⟨w.heap.size, 1, none⟩) hszA).trans g1
  have hsz1 : w.heap.size < w1.heap.size := Nat.lt_of_lt_of_le hszA hb1.size
  have HA1 := Lib.hid (HA.out.keep hb1 (Nat.le_refl _))
  clear hb1 hwA g0 g1 g2 g3
  go_wp2_with fail
  refine (within_i64_t _ _ _ _ (by omega) (by omega)).mono ?_; rintro e w' ⟨rfl, rfl⟩
  go_wp2_with fail
  refine (within_i64_t _ _ _ _ (by omega) (by omega)).mono ?_; rintro e w' ⟨rfl, rfl⟩
  have HB2 := Lib.hid (BufB.fresh w1)
  have hB2 : Below w1.heap.size w1 (w1.alloc (.cells #[.slice none 0 0, .int .i64 0, .int .i8 0] 52)) := (Below.refl _ _).alloc (Nat.le_refl _) _
  have HBB2 := Lib.hid hB2
  have p0 := (hB2.cell (p := ⟨w.heap.size, 0, none⟩) hsz1).trans hg0
  clear hB2
  go_wp2
  clear p0
  go_loopw [28] (fun kv wr => ∃ k : Nat, k ≤ nn ∧ kv = .int .i64 (k : Int) ∧ BufB w1.heap.size (picP ls ms f t k) wr ∧ Below w1.heap.size w1 wr) (fun kv _ => nn - (intOf kv).toNat)
  case atStart => exact ⟨0, Nat.zero_le _, rfl, HB2.out, HBB2.out⟩
  case round =>
    obtain ⟨k, hk, rfl, hbuf, hB⟩ := hrel
    by_cases hlt : k < nn
    · have hkl : k < ls.length := by have := HNL.out; omega
      have hkm : k < ms.length := by have := HVL.out; have := HLEN.out; omega
      have hkw : k < wn := by have := HLEN.out; omega
      obtain ⟨b1, o1, rfl, l1, d1⟩ := HA1.out.n.get k hkl
      obtain ⟨b2, o2, rfl, l2, d2⟩ := HA1.out.v.get k hkm
      obtain ⟨hn, hw⟩ := HSC.out.2 k hkl
      have hpk := HPL.out k (by omega)
      have hrow : picP ls ms f t (k + 1) = picP ls ms f t k ++ rowP (ls.getD k ByteArray.empty).data.toList (ms.getD k ByteArray.empty).data.toList f t := rfl
      obtain ⟨x, hx⟩ : ∃ x, ls.getD k ByteArray.empty = x := ⟨_, rfl⟩
      obtain ⟨m, hm⟩ : ∃ m, ms.getD k ByteArray.empty = m := ⟨_, rfl⟩
      rw [hx] at d1 hn hrow
      rw [hm] at d2 hw hrow
      have hxl := name_len hn
      have hml := wave_len hw
      rw [show x.data.toList.length = x.size by simp] at hxl
      rw [show m.data.toList.length = m.size by simp] at hml
      obtain ⟨P, hP⟩ : ∃ P, picP ls ms f t k = P := ⟨_, rfl⟩
      rw [hP] at hbuf hpk hrow
      have HROW := Lib.hid hrow
      have e1 := (hB.cell (p := ⟨b1, o1 + k, none⟩) l1).trans d1
      have HBF := Lib.hid hbuf
      have HBW := Lib.hid hB
      have HL := Lib.hid hpk
      clear hbuf hpk hrow hx hm hP hn hw hB
      go_wp2_with fail
      refine (buf_str _ _ x _ HBF.out HBW.out.size (by have := HL.out; omega)).mono ?_; rintro e w2 ⟨rfl, hbf, hbe⟩
      have HBF2 := Lib.hid hbf
      have HBW2 := Lib.hid (HBW.out.trans hbe)
      clear hbf hbe e1
      have v1 : IntKind.i64.wrap (10 - (x.size : Int)) = ((10 - x.size : Nat) : Int) := by rw [IntWalk.i64_in _ (by omega)]; omega
      obtain ⟨pd, hpd⟩ : ∃ pd, 10 - x.size = pd := ⟨_, rfl⟩
      rw [hpd] at v1
      have hpd2 : pd ≤ 10 := by omega
      have HPD := Lib.hid hpd
      clear hpd
      go_wp2_with fail
      refine (Tryd.strings_Repeat (⟨#[32]⟩ : ByteArray) pd _ (by omega) (by show 1 * pd ≤ _; omega)).mono ?_; rintro e w3 ⟨rfl, hb3⟩
      have HBF3 := Lib.hid (HBF2.out.old hb3)
      have HBW3 := Lib.hid (HBW2.out.trans (hb3.mono HBW2.out.size))
      clear hb3
      have HREP := Lib.hid (rep_pad pd)
      obtain ⟨rp, hrp⟩ : ∃ rp : ByteArray, (⟨(Lib.repeatL (⟨#[32]⟩ : ByteArray).data.toList pd).toArray⟩ : ByteArray) = rp := ⟨_, rfl⟩
      rw [hrp]
      rw [hrp] at HREP
      clear hrp
      go_wp2_with fail
      refine (buf_str _ _ rp _ HBF3.out HBW3.out.size (by have := HL.out; have := HREP.out.2; simp; omega)).mono ?_; rintro e w4 ⟨rfl, hbf, hbe⟩
      have HBF4 := Lib.hid hbf
      have HBW4 := Lib.hid (HBW3.out.trans hbe)
      clear hbf hbe
      have c1 := (HBW4.out.cell (p := ⟨w.heap.size, 1, none⟩) hsz1).trans hg1
      obtain ⟨Q, hQ⟩ : ∃ Q, P ++ x.data.toList ++ rp.data.toList = Q := ⟨_, rfl⟩
      rw [hQ] at HBF4
      have HQL : Hid (Q.length ≤ 900) := by rw [Hid, ← hQ]; have := HL.out; have := HREP.out.2; simp; omega
      have HQ := Lib.hid hQ
      clear hQ
      go_wp2
      clear c1
      go_loopw [41] (fun iv wr => ∃ j : Nat, j ≤ t ∧ iv = .int .i64 (j : Int) ∧ BufB w1.heap.size (Q ++ marksP m.data.toList f j) wr ∧ Below w1.heap.size w1 wr) (fun iv _ => t - (intOf iv).toNat)
      case atStart => exact ⟨0, Nat.zero_le _, rfl, by simpa [marksP] using HBF4.out, HBW4.out⟩
      case round =>
        obtain ⟨j, hj, rfl, hbuf, hB⟩ := hrel
        have HR4 : Hid ((Q ++ marksP m.data.toList f j).length ≤ 1000) := by rw [Hid]; have := HQL.out; simp [marksP_len]; omega
        obtain ⟨R, hR⟩ : ∃ R, Q ++ marksP m.data.toList f j = R := ⟨_, rfl⟩
        rw [hR] at hbuf HR4
        have HR := Lib.hid hR
        have HBF5 := Lib.hid hbuf
        have HBW5 := Lib.hid hB
        have c1 := (hB.cell (p := ⟨w.heap.size, 1, none⟩) hsz1).trans hg1
        have e2 := (hB.cell (p := ⟨b2, o2 + k, none⟩) l2).trans d2
        clear hR hbuf hB
        by_cases hlt4 : j < t
        · have v2 : IntKind.i64.wrap ((f : Int) + (j : Int)) = ((f + j : Nat) : Int) := by rw [IntWalk.i64_in _ (by omega)]; omega
          have HMK := Lib.hid (marksP_succ m.data.toList f j)
          obtain ⟨I, hI⟩ : ∃ I, f + j = I := ⟨_, rfl⟩
          rw [hI] at v2 HMK
          have hIb : I ≤ 500 := by omega
          clear hI
          go_wp2_with fail
          refine (mark_any m I _ (by omega) (by omega)).mono ?_; rintro e w' ⟨rfl, rfl⟩
          obtain ⟨mb, hmb⟩ : ∃ mb, markP m.data.toList I = mb := ⟨_, rfl⟩
          rw [hmb] at HMK ⊢
          clear hmb c1 e2
          go_wp2_with fail
          refine (buf_byte _ _ mb _ HBF5.out HBW5.out.size (by have := HR4.out; omega)).mono ?_; rintro e w6 ⟨rfl, hbf, hbe⟩
          have HBF6 := Lib.hid hbf
          have HBW6 := Lib.hid (HBW5.out.trans hbe)
          clear hbf hbe
          go_wp2
          go_roundw
          case rel => exact ⟨j + 1, by omega, by go_num, by rw [HMK.out, ← List.append_assoc, HR.out]; exact HBF6.out, HBW6.out⟩
          case measure => simp [intOf]; omega
        · obtain rfl : j = t := by omega
          clear c1 e2
          go_wp2_with fail
          refine (buf_byte _ _ 10 _ HBF5.out HBW5.out.size (by have := HR4.out; omega)).mono ?_; rintro e w6 ⟨rfl, hbf, hbe⟩
          have HBF6 := Lib.hid hbf
          have HBW6 := Lib.hid (HBW5.out.trans hbe)
          clear hbf hbe
          go_wp2
          go_roundw
          case rel => exact ⟨k + 1, by omega, by go_num, by rw [HROW.out]; unfold rowP; rw [show x.data.toList.length = x.size by simp, HPD.out, ← HREP.out.1, ← List.append_assoc, ← List.append_assoc, ← List.append_assoc, HQ.out, HR.out]; exact HBF6.out, HBW6.out⟩
          case measure => simp [intOf]; omega
    · obtain rfl : k = nn := by omega
      have HBF := Lib.hid hbuf
      have HBW := Lib.hid hB
      clear hbuf hB
      go_wp2_with fail
      refine (Tryd.Buffer_String w1.heap.size w1.heap.size _ _ HBF.out).mono ?_; rintro e w' ⟨rfl, q, rfl⟩
      go_wp2
      go_ret2
      exact ⟨rfl, below_dr (HB1.out.trans (HBW.out.mono HB1.out.size)) q⟩
end Go.Proofs.YtkbnllaobnhfbaaDoor
