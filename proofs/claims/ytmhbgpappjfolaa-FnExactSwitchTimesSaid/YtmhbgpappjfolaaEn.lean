/- The enables of a switch: the program's side. -/
import Derived.Test.YtmhbgpappjfolaaBegin
import Derived.Test.YtmhbgpappjfolaaTwoB
import Derived.Test.YtmhbgpappjfolaaSwIs
import Derived.WalkSmall
import Derived.Lib.OthersKept
namespace Go.Proofs.Ytmhbgpappjfolaa
open Go.RowKit Go.Shelf
set_option linter.unusedVariables false
set_option linter.unusedSimpArgs false

def prv (a : ByteArray) (k : Nat) : Bool := decide (0 < k) && bit a (k - 1)
theorem prv_succ (a : ByteArray) (k : Nat) : prv a (k + 1) = bit a k := by simp [prv]
theorem dnB_prv (a : ByteArray) (k : Nat) : dnB a k = (prv a k && !bit a k) := by unfold dnB prv; rw [Bool.and_comm]
theorem swAt_next (n : Nat) (fi : Bool) (a b c : ByteArray) (k : Nat) : swAt n fi a b c (k + 1) = swBx n (prv b k && !bit b k) (bit c k) (swAx n (prv a k && !bit a k) (bit c k) (swAt n fi a b c k)) := by
  rw [← dnB_prv, ← dnB_prv]; rfl
theorem SwBlk.below {w w' : World} {p B : Nat} {L : List Value} (h : SwBlk w p L) (hb : Below B w w') (hp : p < B) : SwBlk w' p L := (hb.block p hp).trans h
theorem grown_iter (w : World) (k : Nat) (s : ByteArray) (pos : Nat) : w.grownBy (w.iterAt k s pos) (some k) :=
  ⟨rfl, rfl, rfl, by rw [Lib.iterAt_size]; exact Nat.le_refl _, fun j _ hj => Lib.iterAt_other w k j s pos (fun e => hj (by rw [e]))⟩
theorem Bld2.iter {B q it : Nat} {l0 l1 : List UInt8} {w w' : World} {s : ByteArray} {pos : Nat} (h : Bld2 B q l0 l1 w) (hi : w.heap[it]? = some (.stringIter s pos)) (hg : w.grownBy w' (some it)) : Bld2 B q l0 l1 w' := by
  have hlt := h.lt
  obtain ⟨hB, p0, v0, p1, v1, hq, a, b, r0, r1, d0, d1⟩ := h
  have hqi : q ≠ it := by rintro rfl; rw [hi] at hq; cases hq
  refine ⟨hB, p0, v0, p1, v1, (hg.block q hlt (fun e => by injection e with e; exact hqi e)).trans hq, a, b, r0.kept hg ?_, r1.kept hg ?_, d0, d1⟩
  · intro e
    obtain ⟨c, fz, hc⟩ := Lib.ownsRow_kind r0.1 it e
    rw [hi] at hc; cases hc
  · intro e
    obtain ⟨c, fz, hc⟩ := Lib.ownsRow_kind r1.1 it e
    rw [hi] at hc; cases hc
theorem Bld2.drewN {B q n : Nat} {l0 l1 : List UInt8} {w : World} (h : Bld2 B q l0 l1 w) : Bld2 B q l0 l1 (w.drewN n) := h
theorem quiet_eqE {P : Program} {f : FuncId} {args : Array Value} {w : World} {n : Nat} {v : Value}
    (h : Calls P f args (w.drewN n) fun e w' => e = .returned v ∧ w.drewN n = w') : Calls P f args (w.drewN n) fun e w'' => e = .returned v ∧ ∃ m, w'' = w.drewN m :=
  h.mono fun _ _ ⟨he, hm⟩ => ⟨he, n, hm.symm⟩
theorem below_of_grown {B p : Nat} {w w' : World} (h : w.grownBy w' (some p)) (hp : B ≤ p) (hB : B ≤ w.heap.size) : Below B w w' :=
  ⟨h.os, h.tape, h.output, h.size, fun k hk => h.block k (by omega) (fun e => by injection e with e; omega)⟩
/-- what lies in memory at a tick's head -/
def EnSt (w : World) (p q it : Nat) (n : Nat) (F : Int) (c : ByteArray) (l0 l1 : List UInt8) (s : Sw) (x y : Bool) (pos : Nat) (wr : World) : Prop :=
  SwBlk wr p (swLs n F s x y) ∧ Bld2 q q l0 l1 wr ∧ wr.heap[it]? = some (.stringIter c pos) ∧ Below w.heap.size w wr
set_option maxHeartbeats 8000000 in
set_option maxRecDepth 100000 in
theorem implEn_t (n : Nat) (fi : Bool) (a b c : ByteArray) (w : World) (hn : n ≤ 5) (hs : a.size ≤ maxLen) (hs' : b.size ≤ maxLen) (hs3 : c.size ≤ maxLen) (h : are3B a b c = true) :
    Calls Try.prog 32 #[.agg #[.int .i64 (n : Int), .int .i64 (chI fi)], .string a, .string b, .string c] w fun e w' =>
      e = .returned (.tuple #[.string (outS (en0 n fi a b c) a.size), .string (outS (en1 n fi a b c) a.size), .bool true]) ∧ Below w.heap.size w w' := by
  obtain ⟨h1, h2, h4, h5, h6⟩ := (are3B_iff a b c).1 h
  have h400 := wave_le h1
  have hca : c.size ≤ a.size := Nat.le_of_eq h6
  have hcb : c.size ≤ b.size := by omega
  have HSZ := Lib.hid h6
  have HW := Lib.hid (And.intro h1 (And.intro h2 h5))
  have HA := Lib.hid h
  have HV : Hid (swOk (n : Int) (chI fi) = true) := swOk_t ⟨⟨by omega, by omega⟩, by cases fi <;> simp [chI], by cases fi <;> simp [chI]⟩
  obtain ⟨F, hF⟩ : ∃ F : Int, chI fi = F := ⟨_, rfl⟩
  have HF := Lib.hid hF
  have HBG := Lib.hid (fun W => begin_any (n : Int) fi W)
  obtain ⟨w0, hw0⟩ : ∃ w0, w.alloc (.cells #[.int .i64 (n : Int), .int .i64 F] 36) = w0 := ⟨_, rfl⟩
  have hb0 : Below w.heap.size w w0 := by rw [← hw0]; exact (Below.refl _ _).alloc (Nat.le_refl _) _
  have hs0 : w.heap.size < w0.heap.size := by rw [← hw0]; simp
  have c0 : w0.cell? ⟨w.heap.size, 0, none⟩ = some (.int .i64 (n : Int)) := by rw [← hw0]; simp [go_sem]
  have c1 : w0.cell? ⟨w.heap.size, 1, none⟩ = some (.int .i64 F) := by rw [← hw0]; simp [go_sem]
  have HB0 := Lib.hid hb0
  have HC := Lib.hid (And.intro c0 c1)
  rw [hF]
  rw [hF] at HV HBG
  clear h h1 h2 h4 h5 h6 hb0 hF
  go_enter Try.func32, Try.ntmps32
  go_wp2_with fail
  refine (implSw_any (n : Int) F w0).mono ?_
  rw [HV.out]
  rintro e w1 ⟨rfl, b1⟩
  have HB1 := Lib.hid (HB0.out.trans (b1.mono HB0.out.size))
  have hz1 := b1.size
  clear c0 c1 hw0
  go_wp2_with fail
  refine (are3_any _ _ a b c _ hs hs' hs3 (by simp) (by simp [go_sem]) (by simp [go_sem]) (by simp [go_sem])).mono ?_
  rw [HA.out]
  rintro e w2 ⟨rfl, b2⟩
  have hz2 := b2.size
  simp at hz2
  have HB2 := Lib.hid ((HB1.out.alloc HB1.out.size (.cells #[.string a, .string b, .string c] 9)).trans (b2.mono (by have := HB1.out.size; simp; omega)))
  have d0 : w2.cell? ⟨w.heap.size, 0, none⟩ = some (.int .i64 (n : Int)) := (b2.cell (p := ⟨w.heap.size, 0, none⟩) (by simp; omega)).trans ((((Below.refl w1.heap.size w1).alloc (Nat.le_refl _) _).cell (p := ⟨w.heap.size, 0, none⟩) (by show w.heap.size < w1.heap.size; omega)).trans ((b1.cell (p := ⟨w.heap.size, 0, none⟩) hs0).trans HC.out.1))
  have d1 : w2.cell? ⟨w.heap.size, 1, none⟩ = some (.int .i64 F) := (b2.cell (p := ⟨w.heap.size, 1, none⟩) (by simp; omega)).trans ((((Below.refl w1.heap.size w1).alloc (Nat.le_refl _) _).cell (p := ⟨w.heap.size, 1, none⟩) (by show w.heap.size < w1.heap.size; omega)).trans ((b1.cell (p := ⟨w.heap.size, 1, none⟩) hs0).trans HC.out.2))
  clear b1 b2
  go_wp2_with fail
  refine (HBG.out w2).mono ?_
  rintro e w3 ⟨rfl, hB3, b3, hz3⟩
  obtain ⟨p, hp⟩ : ∃ p, w2.heap.size + 1 = p := ⟨_, rfl⟩
  rw [hp] at hB3 hz3 ⊢
  have hpw : w.heap.size ≤ p := by have := HB2.out.size; omega
  have HB3 := Lib.hid (HB2.out.trans (b3.mono HB2.out.size))
  have HL3 := Lib.hid hB3
  clear b3 hB3 d0 d1 hp HBG
  have HQ := Lib.hid (Bld2.new w3)
  obtain ⟨w4, hw4⟩ : ∃ w4, w3.alloc (.cells #[.pointer none, .slice none 0 0, .pointer none, .slice none 0 0] TA2) = w4 := ⟨_, rfl⟩
  have hb4 : Below w3.heap.size w3 w4 := by rw [← hw4]; exact (Below.refl _ _).alloc (Nat.le_refl _) _
  have hz4 : w4.heap.size = w3.heap.size + 1 := by rw [← hw4]; simp
  rw [hw4] at HQ
  have HL4 := Lib.hid (HL3.out.below hb4 hz3)
  have HB4 := Lib.hid (HB3.out.trans (hb4.mono HB3.out.size))
  obtain ⟨q, hq⟩ : ∃ q, w3.heap.size = q := ⟨_, rfl⟩
  have hw4' : w3.alloc (.cells #[.pointer none, .slice none 0 0, .pointer none, .slice none 0 0] TA2) = w4 := hw4
  have hpq : p < q := by omega
  have hbi : Below w4.heap.size w4 (w4.iter c 0) := (Below.refl _ _).alloc (Nat.le_refl _) _
  have hq4 : q < w4.heap.size := by omega
  have HI : Hid (EnSt w p q w4.heap.size n F c [] [] (swAt n fi a b c 0) (prv a 0) (prv b 0) 0 (w4.iter c 0)) := by
    refine ⟨?_, ?_, World.iter_heap w4 c 0, HB4.out.trans (hbi.mono HB4.out.size)⟩
    · have := HL4.out.below hbi (by omega); exact this
    · have hg : w4.grownBy (w4.iter c 0) (some w4.heap.size) := ⟨rfl, rfl, rfl, hbi.size, fun j hj _ => hbi.block j hj⟩
      have hQ := HQ.out
      rw [hq] at hQ
      obtain ⟨hB, p0, v0, p1, v1, hqq, A1, A2, r0, r1, d0, d1⟩ := hQ
      exact ⟨hB, p0, v0, p1, v1, (hbi.block q hq4).trans hqq, A1, A2, r0.kept hg (fun e => by have := (r0.1.lt _ e).2; omega), r1.kept hg (fun e => by have := (r1.1.lt _ e).2; omega), d0, d1⟩
  obtain ⟨it, hit⟩ : ∃ it, w4.heap.size = it := ⟨_, rfl⟩
  rw [hit] at HI hq4
  clear hz4
  go_wp2
  have i0 : ∀ (x y : Bool) w, (Instr.index 84 (.agg #[.bool x, .bool y]) (.int .i64 0)).run Try.prog w = .ok (.bool x) w := fun _ _ _ => by kernel_rfl
  have i1 : ∀ (x y : Bool) w, (Instr.index 84 (.agg #[.bool x, .bool y]) (.int .i64 1)).run Try.prog w = .ok (.bool y) w := fun _ _ _ => by kernel_rfl
  clear hq hit hw4 hw4' hbi hb4 hz1 hz2 hz3 hs0
  go_loopw [13, 14, 15, 16] (fun _ _ _ _ wr => ∃ k : Nat, k ≤ c.size ∧ Hid (EnSt w p q it n F c (outL (en0 n fi a b c) k) (outL (en1 n fi a b c) k) (swAt n fi a b c k) (prv a k) (prv b k) k wr)) (fun _ _ _ _ wr => c.size - wr.iterPos it)
  case atStart => exact ⟨0, Nat.zero_le _, HI⟩
  case round =>
    obtain ⟨k, hk, HE⟩ := hrel
    obtain ⟨E1, E2, hit, E4⟩ := HE.out
    by_cases hlt : k < c.size
    · have hlta : k < a.size := by omega
      have hltb : k < b.size := by omega
      have ec : (c[k].toNat : Int) = if bit c k then 49 else 48 := wave_at HW.out.2.2 k hlt
      have ha : c[k].toNat < 128 := by
        have : (c[k].toNat : Int) < 128 := by rw [ec]; split <;> decide
        omega
      have hnx : ∀ ty, (Instr.next (.pointer (some ⟨it, 0, none⟩)) true ty).run Try.prog wr = _ := fun ty => Lib.run_next_ascii_at wr it c k ty hit hlt ha
      have ea := bit_at a k hlta
      have eb := bit_at b k hltb
      have HIT := Lib.hid (iterPos_of hit)
      have hit2 := Lib.iterAt_heap wr it c k (k + 1) hit
      have hgi := grown_iter wr it c (k + 1)
      obtain ⟨W1, hW1⟩ : ∃ W1, wr.iterAt it c (k + 1) = W1 := ⟨_, rfl⟩
      rw [hW1] at hnx hit2 hgi
      have hpit : p ≠ it := by rintro rfl; have h1 := E1; unfold SwBlk at h1; rw [hit] at h1; cases h1
      have hqit : q ≠ it := by
        rintro rfl
        obtain ⟨_, p0, v0, p1, v1, hqq, _⟩ := E2
        rw [hit] at hqq; cases hqq
      have hplt : p < wr.heap.size := (Array.getElem?_eq_some_iff.1 E1).1
      have HL1 : Hid (SwBlk W1 p (swLs n F (swAt n fi a b c k) (prv a k) (prv b k))) := (hgi.block p hplt (fun e => by injection e with e; exact hpit e)).trans E1
      have HQ1 : Hid (Bld2 q q (outL (en0 n fi a b c) k) (outL (en1 n fi a b c) k) W1) := E2.iter hit hgi
      have hwq : w.heap.size ≤ it := by have := E4.size; have := (Array.getElem?_eq_some_iff.1 hit).1; omega
      have HB1 : Hid (Below w.heap.size w W1) := E4.trans (below_of_grown hgi hwq E4.size)
      have HI1 := Lib.hid hit2
      have HTK := Lib.hid (fun (d : Int) (hd : d = chI (bit c k)) m => tick_any p n hn F (swAt n fi a b c k) (swAt_len n fi a b c k) (bit a k) (bit b k) (bit c k) (prv a k) (prv b k) d hd (W1.drewN m) HL1.out)
      have HNX := Lib.hid (swAt_next n fi a b c k)
      have HO0 := Lib.hid (outL_snoc (en0 n fi a b c) k)
      have HO1 := Lib.hid (outL_snoc (en1 n fi a b c) k)
      have HN0 := Lib.hid (outL_len (en0 n fi a b c) k)
      have HN1 := Lib.hid (outL_len (en1 n fi a b c) k)
      have HPA : Hid (bit a k = prv a (k + 1) ∧ bit b k = prv b (k + 1)) := ⟨(prv_succ a k).symm, (prv_succ b k).symm⟩
      obtain ⟨S1, hS1⟩ : ∃ S, swAt n fi a b c (k + 1) = S := ⟨_, rfl⟩
      have HE0 : Hid (en0 n fi a b c k = S1.e0) := by show _ = _; rw [← hS1]; rfl
      have HE1 : Hid (en1 n fi a b c k = S1.e1) := by show _ = _; rw [← hS1]; rfl
      rw [← HNX.out, hS1] at HTK
      have HS1 := Lib.hid hS1
      obtain ⟨x, hx⟩ : ∃ x, bit a k = x := ⟨_, rfl⟩
      obtain ⟨y, hy⟩ : ∃ y, bit b k = y := ⟨_, rfl⟩
      rw [hx] at ea
      rw [hy] at eb
      rw [hx, hy] at HTK HPA
      obtain ⟨l0, hl0⟩ : ∃ l, outL (en0 n fi a b c) k = l := ⟨_, rfl⟩
      obtain ⟨l1, hl1⟩ : ∃ l, outL (en1 n fi a b c) k = l := ⟨_, rfl⟩
      rw [hl0] at HQ1 HO0 HN0
      rw [hl1] at HQ1 HO1 HN1
      clear HE E1 E2 E4 hit hit2 hgi hW1 hS1 hx hy hl0 hl1 HNX
      have HCHS : Hid (∀ ch, bit c k = ch → ∀ d, d = chI ch → ∀ m, Calls Try.prog 68 #[.pointer (some ⟨p, 0, none⟩), .agg #[.bool x, .bool y], .int .i64 d] (W1.drewN m) fun e w' => TickR (W1.drewN m) p (swLs n F S1 x y) e w') := fun ch hch d hd m => HTK.out d (by rw [hch]; exact hd) m
      cases hch : bit c k
      all_goals
        rw [hch] at ec
        have HCH := Lib.hid hch
        clear hch HTK
      · have ec2 : (c[k].toNat : Int) = 48 := ec
        clear ec
        have HTK := Lib.hid (fun m => HCHS.out false HCH.out 0 rfl m)
        clear HCHS
        go_wp2
        refine wp_quiet_tail 13 (by kernel_rfl) (by kernel_rfl) ?_
        simp only [List.take_succ_cons, List.take_zero, List.drop_succ_cons, List.drop_zero]
        repeat go_big_quiet_step (fail)
        refine wpQuiet_nil ?_
        rintro _ ⟨nq, rfl⟩
        go_wp2_with fail
        refine (HTK.out nq).mono ?_; rintro e w5 ⟨rfl, hL5, hG5⟩
        have hG5' : W1.grownBy w5 (some p) := ⟨hG5.os, hG5.tape, hG5.output, hG5.size, hG5.block⟩
        have HL5 := Lib.hid hL5
        have HQ5 := Lib.hid (HQ1.out.grown hG5' hpq)
        have HI5 : Hid (w5.heap[it]? = some (.stringIter c (k + 1))) := (hG5'.block it (Array.getElem?_eq_some_iff.1 HI1.out).1 (fun e => by injection e with e; exact hpit e.symm)).trans HI1.out
        have HB5 := Lib.hid (HB1.out.trans (below_of_grown hG5' hpw HB1.out.size))
        have v2 : w5.cell? ⟨p, 2, none⟩ = some (.bool S1.e0) := by rw [hL5.cell]; rfl
        have v3 : w5.cell? ⟨p, 3, none⟩ = some (.bool S1.e1) := by rw [hL5.cell]; rfl
        obtain ⟨u0, hu0⟩ : ∃ u, S1.e0 = u := ⟨_, rfl⟩
        obtain ⟨u1, hu1⟩ : ∃ u, S1.e1 = u := ⟨_, rfl⟩
        have HU : Hid (en0 n fi a b c k = u0 ∧ en1 n fi a b c k = u1) := ⟨HE0.out.trans hu0, HE1.out.trans hu1⟩
        rw [hu0] at v2
        rw [hu1] at v3
        clear hL5 hG5 hG5' hu0 hu1 HE0 HE1 hnx
        go_wp2
        go_loopw [15, 16, 54] (fun _ _ j wx => Hid (SwBlk wx p (swLs n F S1 x y)) ∧ Hid (wx.heap[it]? = some (.stringIter c (k + 1))) ∧ Hid (Below w.heap.size w wx) ∧ Hid ((j = .int .i64 0 ∧ Bld2 q q l0 l1 wx) ∨ (j = .int .i64 1 ∧ Bld2 q q (l0 ++ [lvU u0]) l1 wx) ∨ (j = .int .i64 2 ∧ Bld2 q q (l0 ++ [lvU u0]) (l1 ++ [lvU u1]) wx))) (fun _ _ j _ => (2 - intOf j).toNat)
        case atStart => exact ⟨HL5, HI5, HB5, Or.inl ⟨rfl, HQ5.out⟩⟩
        case round =>
          clear HL5 HI5 HB5 HQ5 v2 v3 HTK HQ1 HL1 HB1 HI1
          obtain ⟨HLx, HIx, HBx, HDx⟩ := hrel
          rcases HDx.out with ⟨rfl, hD⟩ | ⟨rfl, hD⟩ | ⟨rfl, hD⟩
          · have HWR := Lib.hid (fun m => writeRune2_0 q q l0 l1 u0 (wr.drewN m) hD (by rw [HN0.out]; omega))
            clear hD HDx
            go_wp2
            refine wp_quiet_tail 4 (by kernel_rfl) (by kernel_rfl) ?_
            simp only [List.take_succ_cons, List.take_zero, List.drop_succ_cons, List.drop_zero]
            repeat go_big_quiet_step ((go_at_call 61; exact quiet_eqE (levelOf_lv _ _)))
            refine wpQuiet_nil ?_
            rintro _ ⟨nq2, rfl⟩
            go_wp2_with fail
            refine (HWR.out nq2).mono ?_; rintro e w7 ⟨rfl, h7, b7, k7⟩
            have HL7 : Hid (SwBlk w7 p (swLs n F S1 x y)) := (b7.block p hpq).trans HLx.out
            have HI7 : Hid (w7.heap[it]? = some (.stringIter c (k + 1))) := k7 it _ HIx.out (fun e => by injection e with e; exact hqit e.symm) (fun _ _ e => by cases e)
            have HB7 : Hid (Below w.heap.size w w7) := (show Below w.heap.size w (wr.drewN nq2) from ⟨HBx.out.os, HBx.out.tape, HBx.out.output, HBx.out.size, HBx.out.block⟩).trans (b7.mono (by omega))
            have HQ7 := Lib.hid h7
            clear h7 b7 k7
            go_wp2
            go_roundw
            case rel => exact ⟨HL7, HI7, HB7, Or.inr (Or.inl ⟨rfl, HQ7.out⟩)⟩
            case measure => simp [intOf]
          · have HWR := Lib.hid (fun m => writeRune2_2 q q (l0 ++ [lvU u0]) l1 u1 (wr.drewN m) hD (by rw [HN1.out]; omega))
            clear hD HDx
            go_wp2
            refine wp_quiet_tail 4 (by kernel_rfl) (by kernel_rfl) ?_
            simp only [List.take_succ_cons, List.take_zero, List.drop_succ_cons, List.drop_zero]
            repeat go_big_quiet_step ((go_at_call 61; exact quiet_eqE (levelOf_lv _ _)))
            refine wpQuiet_nil ?_
            rintro _ ⟨nq2, rfl⟩
            go_wp2_with fail
            refine (HWR.out nq2).mono ?_; rintro e w7 ⟨rfl, h7, b7, k7⟩
            have HL7 : Hid (SwBlk w7 p (swLs n F S1 x y)) := (b7.block p hpq).trans HLx.out
            have HI7 : Hid (w7.heap[it]? = some (.stringIter c (k + 1))) := k7 it _ HIx.out (fun e => by injection e with e; exact hqit e.symm) (fun _ _ e => by cases e)
            have HB7 : Hid (Below w.heap.size w w7) := (show Below w.heap.size w (wr.drewN nq2) from ⟨HBx.out.os, HBx.out.tape, HBx.out.output, HBx.out.size, HBx.out.block⟩).trans (b7.mono (by omega))
            have HQ7 := Lib.hid h7
            clear h7 b7 k7
            go_wp2
            go_roundw
            case rel => exact ⟨HL7, HI7, HB7, Or.inr (Or.inr ⟨rfl, HQ7.out⟩)⟩
            case measure => simp [intOf]
          · have HD := Lib.hid hD
            clear hD HDx
            go_wp2
            go_roundw
            case rel =>
              refine ⟨k + 1, by omega, ?_⟩
              refine ⟨?_, ?_, HIx.out, HBx.out⟩
              · rw [HS1.out, ← HPA.out.1, ← HPA.out.2]; exact HLx.out
              · rw [HO0.out, HO1.out, HU.out.1, HU.out.2]; exact HD.out
            case measure => rw [iterPos_of HIx.out, HIT.out]; omega
      · have ec2 : (c[k].toNat : Int) = 49 := ec
        clear ec
        have HTK := Lib.hid (fun m => HCHS.out true HCH.out 1 rfl m)
        clear HCHS
        go_wp2
        refine wp_quiet_tail 13 (by kernel_rfl) (by kernel_rfl) ?_
        simp only [List.take_succ_cons, List.take_zero, List.drop_succ_cons, List.drop_zero]
        repeat go_big_quiet_step (fail)
        refine wpQuiet_nil ?_
        rintro _ ⟨nq, rfl⟩
        go_wp2_with fail
        refine (HTK.out nq).mono ?_; rintro e w5 ⟨rfl, hL5, hG5⟩
        have hG5' : W1.grownBy w5 (some p) := ⟨hG5.os, hG5.tape, hG5.output, hG5.size, hG5.block⟩
        have HL5 := Lib.hid hL5
        have HQ5 := Lib.hid (HQ1.out.grown hG5' hpq)
        have HI5 : Hid (w5.heap[it]? = some (.stringIter c (k + 1))) := (hG5'.block it (Array.getElem?_eq_some_iff.1 HI1.out).1 (fun e => by injection e with e; exact hpit e.symm)).trans HI1.out
        have HB5 := Lib.hid (HB1.out.trans (below_of_grown hG5' hpw HB1.out.size))
        have v2 : w5.cell? ⟨p, 2, none⟩ = some (.bool S1.e0) := by rw [hL5.cell]; rfl
        have v3 : w5.cell? ⟨p, 3, none⟩ = some (.bool S1.e1) := by rw [hL5.cell]; rfl
        obtain ⟨u0, hu0⟩ : ∃ u, S1.e0 = u := ⟨_, rfl⟩
        obtain ⟨u1, hu1⟩ : ∃ u, S1.e1 = u := ⟨_, rfl⟩
        have HU : Hid (en0 n fi a b c k = u0 ∧ en1 n fi a b c k = u1) := ⟨HE0.out.trans hu0, HE1.out.trans hu1⟩
        rw [hu0] at v2
        rw [hu1] at v3
        clear hL5 hG5 hG5' hu0 hu1 HE0 HE1 hnx
        go_wp2
        go_loopw [15, 16, 54] (fun _ _ j wx => Hid (SwBlk wx p (swLs n F S1 x y)) ∧ Hid (wx.heap[it]? = some (.stringIter c (k + 1))) ∧ Hid (Below w.heap.size w wx) ∧ Hid ((j = .int .i64 0 ∧ Bld2 q q l0 l1 wx) ∨ (j = .int .i64 1 ∧ Bld2 q q (l0 ++ [lvU u0]) l1 wx) ∨ (j = .int .i64 2 ∧ Bld2 q q (l0 ++ [lvU u0]) (l1 ++ [lvU u1]) wx))) (fun _ _ j _ => (2 - intOf j).toNat)
        case atStart => exact ⟨HL5, HI5, HB5, Or.inl ⟨rfl, HQ5.out⟩⟩
        case round =>
          clear HL5 HI5 HB5 HQ5 v2 v3 HTK HQ1 HL1 HB1 HI1
          obtain ⟨HLx, HIx, HBx, HDx⟩ := hrel
          rcases HDx.out with ⟨rfl, hD⟩ | ⟨rfl, hD⟩ | ⟨rfl, hD⟩
          · have HWR := Lib.hid (fun m => writeRune2_0 q q l0 l1 u0 (wr.drewN m) hD (by rw [HN0.out]; omega))
            clear hD HDx
            go_wp2
            refine wp_quiet_tail 4 (by kernel_rfl) (by kernel_rfl) ?_
            simp only [List.take_succ_cons, List.take_zero, List.drop_succ_cons, List.drop_zero]
            repeat go_big_quiet_step ((go_at_call 61; exact quiet_eqE (levelOf_lv _ _)))
            refine wpQuiet_nil ?_
            rintro _ ⟨nq2, rfl⟩
            go_wp2_with fail
            refine (HWR.out nq2).mono ?_; rintro e w7 ⟨rfl, h7, b7, k7⟩
            have HL7 : Hid (SwBlk w7 p (swLs n F S1 x y)) := (b7.block p hpq).trans HLx.out
            have HI7 : Hid (w7.heap[it]? = some (.stringIter c (k + 1))) := k7 it _ HIx.out (fun e => by injection e with e; exact hqit e.symm) (fun _ _ e => by cases e)
            have HB7 : Hid (Below w.heap.size w w7) := (show Below w.heap.size w (wr.drewN nq2) from ⟨HBx.out.os, HBx.out.tape, HBx.out.output, HBx.out.size, HBx.out.block⟩).trans (b7.mono (by omega))
            have HQ7 := Lib.hid h7
            clear h7 b7 k7
            go_wp2
            go_roundw
            case rel => exact ⟨HL7, HI7, HB7, Or.inr (Or.inl ⟨rfl, HQ7.out⟩)⟩
            case measure => simp [intOf]
          · have HWR := Lib.hid (fun m => writeRune2_2 q q (l0 ++ [lvU u0]) l1 u1 (wr.drewN m) hD (by rw [HN1.out]; omega))
            clear hD HDx
            go_wp2
            refine wp_quiet_tail 4 (by kernel_rfl) (by kernel_rfl) ?_
            simp only [List.take_succ_cons, List.take_zero, List.drop_succ_cons, List.drop_zero]
            repeat go_big_quiet_step ((go_at_call 61; exact quiet_eqE (levelOf_lv _ _)))
            refine wpQuiet_nil ?_
            rintro _ ⟨nq2, rfl⟩
            go_wp2_with fail
            refine (HWR.out nq2).mono ?_; rintro e w7 ⟨rfl, h7, b7, k7⟩
            have HL7 : Hid (SwBlk w7 p (swLs n F S1 x y)) := (b7.block p hpq).trans HLx.out
            have HI7 : Hid (w7.heap[it]? = some (.stringIter c (k + 1))) := k7 it _ HIx.out (fun e => by injection e with e; exact hqit e.symm) (fun _ _ e => by cases e)
            have HB7 : Hid (Below w.heap.size w w7) := (show Below w.heap.size w (wr.drewN nq2) from ⟨HBx.out.os, HBx.out.tape, HBx.out.output, HBx.out.size, HBx.out.block⟩).trans (b7.mono (by omega))
            have HQ7 := Lib.hid h7
            clear h7 b7 k7
            go_wp2
            go_roundw
            case rel => exact ⟨HL7, HI7, HB7, Or.inr (Or.inr ⟨rfl, HQ7.out⟩)⟩
            case measure => simp [intOf]
          · have HD := Lib.hid hD
            clear hD HDx
            go_wp2
            go_roundw
            case rel =>
              refine ⟨k + 1, by omega, ?_⟩
              refine ⟨?_, ?_, HIx.out, HBx.out⟩
              · rw [HS1.out, ← HPA.out.1, ← HPA.out.2]; exact HLx.out
              · rw [HO0.out, HO1.out, HU.out.1, HU.out.2]; exact HD.out
            case measure => rw [iterPos_of HIx.out, HIT.out]; omega
    · obtain rfl : k = c.size := by omega
      have hnx : ∀ ty, (Instr.next (.pointer (some ⟨it, 0, none⟩)) true ty).run Try.prog wr = _ := fun ty => Lib.run_next_end_at wr it c c.size ty hit hlt
      obtain ⟨hBq, p0, v0, p1, v1, hqq, -, -, r0, r1, g0, g1⟩ := E2
      have HS0 := Lib.hid (string2_0 q q _ _ wr v0 v1 (by rw [Lib.cell_of_heap hqq]; rfl) r0 (by rw [Lib.cell_of_heap hqq]; rfl) r1 g0)
      have HB := Lib.hid E4
      have hqlt : q < wr.heap.size := (Array.getElem?_eq_some_iff.1 hqq).1
      have hwq : w.heap.size ≤ q := by omega
      clear E1 E4 hqq r0 r1 g0 g1 HE hit
      go_wp2_with fail
      refine HS0.out.mono ?_; rintro e w5 ⟨rfl, b5, c3, r3⟩
      have HS1 := Lib.hid (string2_2 q q _ w5 v1 c3 r3)
      have HB5 := Lib.hid (HB.out.trans (b5.mono hwq))
      clear b5 c3 r3
      go_wp2_with fail
      refine HS1.out.mono ?_; rintro e w6 ⟨rfl, b6⟩
      have HB6 := Lib.hid (HB5.out.trans (b6.mono hwq))
      clear b6
      go_wp2
      go_ret3
      exact ⟨by rw [HSZ.out]; rfl, HB6.out⟩
end Go.Proofs.Ytmhbgpappjfolaa
