/- The walk of a law: ShiftMoves is the same on both sides, its answer memory of its own. -/
import Derived.Test.YtlpdiodkolcfcaaShiftB
import Derived.Test.YtlpdiodkolcfcaaMarkI
import Derived.Test.YtlpdiodkolcfcaaLst
import Derived.Deep.RegionWith
namespace Go.Proofs.Ytlpdiodkolcfcaa
open Go.RowKit Go.Shelf
set_option linter.unusedVariables false
set_option linter.unusedSimpArgs false

def LwI (w0 W : World) : Prop := Below w0.heap.size w0 W
theorem LwI.dr {w W : World} (h : LwI w W) : LwI w W.drew := ⟨h.os, h.tape, h.output, h.size, h.block⟩
theorem LwI.drN {w W : World} (h : LwI w W) (n : Nat) : LwI w (W.drewN n) := ⟨h.os, h.tape, h.output, h.size, h.block⟩
theorem LwI.call {w W W' : World} (h : LwI w W) (hb : Below W.heap.size W W') : LwI w W' := h.trans (hb.mono h.size)
theorem LwI.callB {w W W' : World} {B : Nat} (h : LwI w W) (hb : Below B W W') (hB : w.heap.size ≤ B) : LwI w W' := h.trans (hb.mono hB)
theorem meetI {G : Prop} (X : World → Prop) (F : World → Prop) (h1 : Hid (∀ W, F W → X W) → G) (h2 : ∀ W, F W → X W) : G := h1 (Lib.hid h2)
theorem gen_endI {K : Act → World → Prop} {Q : Exit → Act → World → Prop} {E : Exit} {A : Act} (W0 : World) (F : World → Prop) (h0 : F W0) (k : ∀ W, F W → Exit.then K Q E A W) : Exit.then K Q E A W0 := k W0 h0
set_option maxHeartbeats 8000000 in
set_option maxRecDepth 100000 in
theorem walk_FnExactShiftMoves (a : Option Addr) (n cap : Nat) (l : List Int) (b : Int) (w : World) (hn : n = l.length) (hr : ArgRow w a l) (hm : n ≤ maxLen) (wb : (Lit.int .i64 b).wf = true) :
    Calls Try.prog 3 #[.slice a n cap, .int .i64 b] w fun e w' => e = .returned (.bool true) ∧ Below w.heap.size w w' := by
  unfold maxLen at hm
  have HR0 := Lib.hid hr
  have HN := Lib.hid hn
  clear hr
  by_cases hl : n ≤ 1048576
  · have hlz : ¬ (1048576 : Int) < (n : Int) := by omega
    have HTO : Hid (∀ W, LwI w W → Calls Try.prog 12 #[.slice a n cap] W fun e w' => e = .returned (.slice (some ⟨W.heap.size, 0, none⟩) n n) ∧ Ints w' W.heap.size (.slice (some ⟨W.heap.size, 0, none⟩) n n) l ∧ Below W.heap.size W w') := fun W hW =>
      toInt64S_any a n cap l W HN.out (HR0.out.keep hW (Nat.le_refl _)) hl
    clear hn
    go_enter Try.func3, Try.ntmps3
    go_wp2_with fail
    refine (HTO.out w (Below.refl _ _)).mono ?_
    rintro e w2 ⟨rfl, i2, b2⟩
    have L2 : Hid (LwI w w2) := b2
    have HI2 := Lib.hid i2
    clear b2 i2
    go_wp2_with fail
    refine (specShf _ _ l n n b w2 HN.out HI2.out hl).mono ?_
    rintro e w3 ⟨v0, rfl, i0, b3⟩
    have L3 := Lib.hid (L2.out.call b3)
    have HI0 := Lib.hid i0
    clear b3 i0
    go_wp2_with fail
    refine (HTO.out w3 L3.out).mono ?_
    rintro e w4 ⟨rfl, i4, b4⟩
    have L4 := Lib.hid (L3.out.call b4)
    have HX4 := Lib.hid i4
    have HB4 := Lib.hid b4
    have hz34 := b4.size
    clear b4 i4
    go_wp2_with fail
    refine (implShf _ _ l n n b w4 HN.out HX4.out hl).mono ?_
    rintro e w5 ⟨v1, rfl, i1, b5⟩
    have L5 := Lib.hid (L4.out.call b5)
    have HI1 := Lib.hid i1
    have HX5 := Lib.hid (HX4.out.keep b5 (Nat.le_refl _))
    have HI05 := Lib.hid (HI0.out.keep (HB4.out.trans (b5.mono hz34)) (Nat.le_refl _))
    have HB35 := Lib.hid (HB4.out.trans (b5.mono hz34))
    have HB45 := Lib.hid b5
    clear b5 i1
    obtain ⟨ok, hok⟩ : ∃ ok, shfB l b = ok := ⟨_, rfl⟩
    have HOK := Lib.hid hok
    rw [hok]
    obtain ⟨r, hrr⟩ : ∃ r, shfL l b = r := ⟨_, rfl⟩
    rw [hrr] at HI0 HI1 HI05
    have hrl : r.length ≤ 8 := by
      rw [← hrr]
      cases hs : shfB l b with
      | false => rw [shfL_no hs]; exact Nat.zero_le _
      | true =>
        rw [shfL_yes hs, addL_len]
        unfold shfB at hs
        simp at hs
        exact hs.1.2
    have HRR := Lib.hid hrr
    clear hok hrr
    go_wp2_with fail
    refine (eqInts_same _ _ v1 v0 r w5 HI1.out HI05.out).mono ?_; rintro e w' ⟨rfl, q, rfl⟩
    obtain ⟨W5, hW5⟩ : ∃ W, w5.drewN q = W := ⟨_, rfl⟩
    have L6 : Hid (LwI w W5) := by rw [← hW5]; exact L5.out.drN q
    have HX6 : Hid (Ints W5 w3.heap.size (.slice (some ⟨w3.heap.size, 0, none⟩) n n) l) := by rw [← hW5]; exact HX5.out
    have HI16 : Hid (Ints W5 w4.heap.size v1 r) := by rw [← hW5]; exact HI1.out
    have HI06 : Hid (Ints W5 w2.heap.size v0 r) := by rw [← hW5]; exact HI05.out
    have hz5 : w4.heap.size ≤ W5.heap.size := by rw [← hW5]; exact HB45.out.size
    rw [hW5]
    clear hW5 HX5 HI1 HI05 L5
    go_wp2_with fail
    refine (HTO.out W5 L6.out).mono ?_; rintro e w7 ⟨rfl, i7, b7⟩
    have HI7 := Lib.hid i7
    have HB7 := Lib.hid b7
    clear i7 b7
    go_wp2_with fail
    refine (eqInts_same _ _ _ _ l w7 (HX6.out.keep HB7.out (Nat.le_refl _)) HI7.out).mono ?_; rintro e w' ⟨rfl, q8, rfl⟩
    obtain ⟨W8, hW8⟩ : ∃ W, w7.drewN q8 = W := ⟨_, rfl⟩
    have hlw8 : LwI W5 W8 := by rw [← hW8]; exact LwI.drN HB7.out q8
    rw [hW8]
    clear hW8
    have L8 := Lib.hid (L6.out.call hlw8)
    have HX8 := Lib.hid (HX6.out.keep hlw8 (Nat.le_refl _))
    have HI18 := Lib.hid (HI16.out.keep hlw8 (Nat.le_refl _))
    have HI08 := Lib.hid (HI06.out.keep hlw8 (Nat.le_refl _))
    have HI0L := Lib.hid (fun (k : Nat) (h : v0.ownBlock = some k) => (HI0.out.lt k h).2)
    clear hlw8 L6 HX6 HI16 HI06 HI7 HB7
    go_wp2_with fail
    refine (markIntsG _ _ l 1 W8 HX8.out (by omega) (by have := HN.out; omega)).mono ?_
    rintro e w9 ⟨rfl, i9, b9, z9, hg9⟩
    have L9 := Lib.hid (L8.out.callB b9 L3.out.size)
    have HI19 : Hid (Ints w9 w4.heap.size v1 r) := HI18.out.apart HX8.out hg9 (fun k k2 h1 h2 => by
      have a1 := (HI18.out.lt k h1).1
      have a2 : w3.heap.size = k2 := by injection h2
      have a3 := HX4.out.lt k2 h2
      omega)
    have HI09 : Hid (Ints w9 w2.heap.size v0 r) := HI08.out.apart HX8.out hg9 (fun k k2 h1 h2 => by
      have a1 := HI0L.out k h1
      have a2 : w3.heap.size = k2 := by injection h2
      omega)
    have kn1 : ¬ (1 + (l.length : Int)) < 0 := by omega
    have kn2 : decide ((1 + (l.length : Int)) < 0) = false := decide_eq_false kn1
    clear hg9 i9 z9 b9 HI18 HI08 HX8
    go_wp2_with fail
    refine (eqInts_same _ _ v1 v0 r w9 HI19.out HI09.out).mono ?_; rintro e w' ⟨rfl, q2, rfl⟩
    go_wp2_with fail
    refine (markIntsG _ v1 r 1 (w9.drewN q2) HI19.out (by omega) (by omega)).mono ?_; rintro e w10 ⟨rfl, i10, b10, z10, -⟩
    have B10 : Hid (Below w4.heap.size w9 w10) := ⟨b10.os, b10.tape, b10.output, b10.size, b10.block⟩
    have HI10 := Lib.hid i10
    have L10 := Lib.hid (L9.out.callB B10.out L4.out.size)
    have HI010 := Lib.hid (HI0.out.keepLt HI09.out B10.out hz34)
    clear i10 z10 b10 HI19 HI09
    go_wp2_with fail
    refine (heldInts _ v1 r.length 1 _ HI10.out (by omega) (by omega)).mono ?_; rintro e w' ⟨rfl, rfl⟩
    go_wp2_with fail
    refine (HTO.out w10 L10.out).mono ?_
    rintro e w11 ⟨rfl, i11, b11⟩
    have L11 := Lib.hid (L10.out.call b11)
    have HI11 := Lib.hid i11
    have HB11 := Lib.hid b11
    clear b11 i11
    go_wp2_with fail
    refine (implShf _ _ l n n b w11 HN.out HI11.out hl).mono ?_
    rintro e w12 ⟨v2, rfl, i12, b12⟩
    rw [HRR.out] at i12
    rw [HOK.out]
    have L12 := Lib.hid (L11.out.call b12)
    have HB12 := Lib.hid (HB11.out.trans (b12.mono HB11.out.size))
    have HI12 := Lib.hid i12
    have HI012 := Lib.hid (HI010.out.keep HB12.out (Nat.le_refl _))
    have HI112 := Lib.hid (HI10.out.keep HB12.out (Nat.le_refl _))
    clear b12 i12
    go_wp2_with fail
    refine (eqInts_same _ _ v2 v0 _ w12 HI12.out HI012.out).mono ?_; rintro e w' ⟨rfl, q3, rfl⟩
    go_wp2_with fail
    refine (heldInts _ v1 _ 1 (w12.drewN q3) HI112.out (by omega) (by omega)).mono ?_; rintro e w' ⟨rfl, rfl⟩
    have HFIN := Lib.hid L12.out
    go_wp2
    go_ret
    exact ⟨rfl, ⟨HFIN.out.os, HFIN.out.tape, HFIN.out.output, HFIN.out.size, HFIN.out.block⟩⟩
  · have hlz : (1048576 : Int) < (n : Int) := by omega
    clear hl hn
    go_enter Try.func3, Try.ntmps3
    go_wp2
    go_ret
    exact ⟨rfl, Below.refl _ _⟩
end Go.Proofs.Ytlpdiodkolcfcaa
