/- The walk of a law: the counter that shifts in a parity is the same on both sides, in memory of its own. -/
import Derived.Test.YtljbblfdaphjpabTap
namespace Go.Proofs.Ytljbblfdaphjpab
open Go.RowKit

set_option maxHeartbeats 2000000 in
set_option maxRecDepth 100000 in
theorem walk_FnExactTapCounter (b t : Int) (w : World) (_wb : (Lit.int .i64 b).wf = true) (_wt : (Lit.int .i64 t).wf = true) :
    Calls Try.prog 6 #[.int .i64 b, .int .i64 t] w fun e w' => e = .returned (.bool true) ∧ Below w.heap.size w w' := by
  obtain ⟨n, l, okb, hlen, hS, hI⟩ : ∃ (n : Int) (l : List Int) (okb : Bool), l.length ≤ 1048576 ∧ (∀ w, Calls Try.prog 24 #[.int .i64 b, .int .i64 t] w fun e W' => ∃ v, e = .returned (.tuple #[.agg #[.int .i64 n, v], .bool okb]) ∧ Ints W' w.heap.size v l ∧ Below w.heap.size w W') ∧ (∀ w, Calls Try.prog 25 #[.int .i64 b, .int .i64 t] w fun e W' => ∃ v, e = .returned (.tuple #[.agg #[.int .i64 n, v], .bool okb]) ∧ Ints W' w.heap.size v l ∧ Below w.heap.size w W') := by
    by_cases h : StateOk b t ∧ t ≠ 0
    · obtain ⟨x, rfl⟩ := Int.eq_ofNat_of_zero_le (show 0 ≤ b by have := h.1.1; omega)
      obtain ⟨y, rfl⟩ := Int.eq_ofNat_of_zero_le h.1.2.2.1
      have hb := st_bd (x : Int) h.1.1 h.1.2.1
      have hst : st (x : Int) = ((2 ^ x : Nat) : Int) := rfl
      rw [hst] at hb
      exact ⟨_, _, true, (by rw [tabL_len]; exact (by omega : 2 ^ x ≤ 1048576)), fun w => specTap_t x y w h.1 (by omega), fun w => implTap_t x y w h.1 (by omega)⟩
    · exact ⟨0, [], false, (by simp), fun w => specTap_f b t w h, fun w => implTap_f b t w h⟩
  have HS := Lib.hid hS
  have HI := Lib.hid hI
  clear hS hI
  go_enter Try.func6, Try.ntmps6
  go_wp2_with fail
  refine (HS.out _).mono ?_; rintro e w1 ⟨v0, rfl, i0, b1⟩
  obtain ⟨a0, c0, rfl, -, -⟩ := i0.form
  go_wp2_with fail
  refine (HI.out _).mono ?_; rintro e w2 ⟨v1, rfl, i1, b2⟩
  obtain ⟨a1, c1, rfl, -, -⟩ := i1.form
  have hs1 := b1.size
  have hs2 := b2.size
  simp at hs2
  have hs2' : w1.heap.size < w2.heap.size := by omega
  obtain ⟨hcA, hfA⟩ := bcell b2
  have i0' := i0.keep (((Below.refl w1.heap.size w1).alloc (Nat.le_refl _) (.cells #[.int .i64 n, .slice a0 l.length c0] 24)).trans (b2.mono (by simp))) (Nat.le_refl _)
  have i1' := i1.keep ((Below.refl w2.heap.size w2).alloc (Nat.le_refl _) (.cells #[.int .i64 n, .slice a1 l.length c1] 24)) (Nat.le_refl _)
  have i0'' := i0'.keep ((Below.refl w2.heap.size w2).alloc (Nat.le_refl _) (.cells #[.int .i64 n, .slice a1 l.length c1] 24)) (Nat.le_refl _)
  have HI0 := Lib.hid i0''
  have HI00 := Lib.hid i0
  have HG1 := Lib.hid i1.block_ge
  have HL1 := Lib.hid (fun g e => (World.ownsRow.lt i1 g e).2)
  have HI1 := Lib.hid i1'
  have B2 : Below w.heap.size w (w2.alloc (.cells #[.int .i64 n, .slice a1 l.length c1] 24)) := ((b1.alloc hs1 _).trans (b2.mono (by simp; omega))).alloc (by omega) _
  have HB2 := Lib.hid B2
  clear i0 i1 i0' i1' i0'' B2
  have hge1 : ∀ g, (Value.slice a1 l.length c1).ownBlock = some g → w1.heap.size + 1 ≤ g := fun g e => by have := HG1.out g e; simpa using this
  have hlt1 : ∀ g, (Value.slice a1 l.length c1).ownBlock = some g → g < w2.heap.size := HL1.out
  have P0 : At2 (w2.alloc (.cells #[.int .i64 n, .slice a1 l.length c1] 24)) w1.heap.size (.int .i64 n) (.slice a0 l.length c0) := ((At2.new w1 _ _ _).below b2 (by simp)).alloc _
  have P1 : At2 (w2.alloc (.cells #[.int .i64 n, .slice a1 l.length c1] 24)) w2.heap.size (.int .i64 n) (.slice a1 l.length c1) := At2.new w2 _ _ _
  have HP0 := Lib.hid P0
  have HP1 := Lib.hid P1
  have ne0 : some w1.heap.size ≠ (Value.slice a1 l.length c1).ownBlock := fun e => by have := hge1 _ e.symm; omega
  have ne1 : some w2.heap.size ≠ (Value.slice a1 l.length c1).ownBlock := fun e => by have := hlt1 _ e.symm; omega
  have NE0 := Lib.hid ne0
  have NE1 := Lib.hid ne1
  clear P0 P1 hge1 hlt1 ne0 ne1
  go_wp2_with fail
  refine (eqCounter_same _ _ n _ _ l _ HI1.out HI0.out).mono ?_; rintro e w3 ⟨rfl, b3⟩
  have hs3 := b3.size
  simp at hs3
  have hs3' : w2.heap.size < w3.heap.size := by omega
  have HQ0 := Lib.hid (HP0.out.below b3 (by simp; omega))
  have HQ1 := Lib.hid (HP1.out.below b3 (by simp))
  obtain ⟨p0, p1, _, _⟩ := HQ0.out
  obtain ⟨p2, p3, _, _⟩ := HQ1.out
  clear hcA hfA
  have HJ0 := Lib.hid (HI0.out.keep b3 (Nat.le_refl _))
  have HJ1 := Lib.hid ((HI1.out.keep b3 (Nat.le_refl _)).weak (show w1.heap.size ≤ _ by simp))
  go_wp2_with fail
  refine (markCounter_any w1.heap.size n _ l 1 w3 HJ1.out (by omega) (by omega) (by omega)).mono ?_; rintro e w4 ⟨rfl, i4, b4, z4, o4⟩
  have HZ4 := Lib.hid z4
  have HK1 := Lib.hid i4
  have hs4 : w3.heap.size < w4.heap.size := by omega
  have HR0 := Lib.hid ((HQ0.out.alloc (.cells #[.int .i64 n, .slice a1 l.length c1] 24)).others o4 NE0.out)
  have HR1 := Lib.hid ((HQ1.out.alloc (.cells #[.int .i64 n, .slice a1 l.length c1] 24)).others o4 NE1.out)
  have HK0 := Lib.hid (HI00.out.keepLt HJ0.out b4 (Nat.le_refl _))
  have HB4 := Lib.hid b4
  clear p0 p1 p2 p3 z4 i4 o4 b4
  obtain ⟨p0, p1, _, _⟩ := HR0.out
  obtain ⟨p2, p3, _, _⟩ := HR1.out
  go_wp2_with fail
  refine (heldCounter_any w1.heap.size n _ l.length 1 w4 HK1.out (by omega) (by omega)).mono ?_; rintro e w5 ⟨rfl, b5⟩
  have hs5 := b5.size
  have HS0 := Lib.hid (HR0.out.below b5 (by omega))
  have HS1 := Lib.hid (HR1.out.below b5 (by omega))
  have HM1 := Lib.hid (HK1.out.keep b5 (Nat.le_refl _))
  have HM0 := Lib.hid (HK0.out.keep b5 (Nat.le_refl _))
  have HB5 := Lib.hid b5
  clear p0 p1 p2 p3 b5
  obtain ⟨p0, p1, _, _⟩ := HS0.out
  obtain ⟨p2, p3, _, _⟩ := HS1.out
  go_wp2_with fail
  refine (HI.out _).mono ?_; rintro e w6 ⟨v2, rfl, i6, b6⟩
  obtain ⟨a2, c2, rfl, -, -⟩ := i6.form
  have hs6 := b6.size
  have HT0 := Lib.hid ((HS0.out.below b6 (by omega)).alloc (.cells #[.int .i64 n, .slice a2 l.length c2] 24))
  have HT1 := Lib.hid ((HS1.out.below b6 (by omega)).alloc (.cells #[.int .i64 n, .slice a2 l.length c2] 24))
  have bo : Below w6.heap.size w6 (w6.alloc (.cells #[.int .i64 n, .slice a2 l.length c2] 24)) := (Below.refl _ _).alloc (Nat.le_refl _) _
  have HN0 := Lib.hid ((HM0.out.keep b6 (Nat.le_refl _)).keep bo (Nat.le_refl _))
  have HN1 := Lib.hid ((HM1.out.keep b6 (Nat.le_refl _)).keep bo (Nat.le_refl _))
  have HN2 := Lib.hid (i6.keep bo (Nat.le_refl _))
  have HT2 := Lib.hid (At2.new w6 (.int .i64 n) (.slice a2 l.length c2) 24)
  have HB6 := Lib.hid (b6.alloc hs6 (.cells #[.int .i64 n, .slice a2 l.length c2] 24))
  clear p0 p1 p2 p3 b6 i6 bo
  obtain ⟨p0, p1, _, _⟩ := HT0.out
  obtain ⟨p2, p3, _, _⟩ := HT1.out
  go_wp2_with fail
  refine (eqCounter_same _ _ n _ _ l _ HN2.out HN0.out).mono ?_; rintro e w7 ⟨rfl, b7⟩
  have hs7 := b7.size
  simp at hs7
  have HU1 := Lib.hid (HT1.out.below b7 (by simp; omega))
  have HV1 := Lib.hid (HN1.out.keep b7 (Nat.le_refl _))
  have HB7 := Lib.hid b7
  clear p0 p1 p2 p3 b7
  obtain ⟨p2, p3, _, _⟩ := HU1.out
  go_wp2_with fail
  refine (heldCounter_any w1.heap.size n _ l.length 1 w7 HV1.out (by omega) (by omega)).mono ?_; rintro e w8 ⟨rfl, b8⟩
  go_wp2
  go_ret
  refine ⟨rfl, ?_⟩
  have t3 := HB2.out.trans (b3.mono (by simp; omega))
  have t4 := t3.trans (HB4.out.mono hs1)
  have t5 := t4.trans (HB5.out.mono (by omega))
  have t6 := t5.trans (HB6.out.mono (by omega))
  have t7 := t6.trans (HB7.out.mono (by simp; omega))
  exact t7.trans (b8.mono (by omega))
end Go.Proofs.Ytljbblfdaphjpab
