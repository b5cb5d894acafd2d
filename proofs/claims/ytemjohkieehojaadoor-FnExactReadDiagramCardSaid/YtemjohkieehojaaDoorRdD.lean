/- Three numbers out of a text: the program's side. -/
import Derived.Test.YtemjohkieehojaaDoorSpn
import Derived.Test.YtemjohkieehojaaDoorReadLaw
namespace Go.Proofs.YtemjohkieehojaaDoor
open Go.RowKit
set_option linter.unusedVariables false
set_option linter.unusedSimpArgs false
/-- block p holds three numbers -/
def At3 (w : World) (p : Nat) (t : TypeId) (x y z : Int) : Prop := w.heap[p]? = some (.cells #[.int .i64 x, .int .i64 y, .int .i64 z] t (0, 0))
theorem At3.cells {w : World} {p : Nat} {t : TypeId} {x y z : Int} (h : At3 w p t x y z) : w.cell? ⟨p, 0, none⟩ = some (.int .i64 x) ∧ w.cell? ⟨p, 1, none⟩ = some (.int .i64 y) ∧ w.cell? ⟨p, 2, none⟩ = some (.int .i64 z) := by
  unfold At3 at h
  refine ⟨?_, ?_, ?_⟩ <;> simp [World.cell?, h]
theorem At3.fr {w : World} {p : Nat} {t : TypeId} {x y z : Int} (h : At3 w p t x y z) (i : Nat) : w.frozen? ⟨p, i, none⟩ = false := Lib.frozen_of_heap h i
theorem At3.lt {w : World} {p : Nat} {t : TypeId} {x y z : Int} (h : At3 w p t x y z) : p < w.heap.size := (Array.getElem?_eq_some_iff.1 h).1
theorem At3.below {w w' : World} {p : Nat} {t : TypeId} {x y z : Int} (h : At3 w p t x y z) (hb : Below w.heap.size w w') : At3 w' p t x y z := (hb.block p h.lt).trans h
theorem At3.set_ne {w : World} {p g : Nat} {t : TypeId} {x y z : Int} (h : At3 w p t x y z) (hne : p ≠ g) (i : Nat) (v : Value) : At3 (w.setCell ⟨g, i, none⟩ v) p t x y z := (Below.heap_setCell w ⟨g, i, none⟩ v p hne).trans h
theorem At3.s0 {w : World} {p : Nat} {t : TypeId} {x y z : Int} (v : Int) (h : At3 w p t x y z) : At3 (w.setCell ⟨p, 0, none⟩ (.int .i64 v)) p t v y z := by
  unfold At3 at h ⊢; simp [World.setCell, Array.getElem?_modify, h]
theorem At3.s1 {w : World} {p : Nat} {t : TypeId} {x y z : Int} (v : Int) (h : At3 w p t x y z) : At3 (w.setCell ⟨p, 1, none⟩ (.int .i64 v)) p t x v z := by
  unfold At3 at h ⊢; simp [World.setCell, Array.getElem?_modify, h]
theorem At3.s2 {w : World} {p : Nat} {t : TypeId} {x y z : Int} (v : Int) (h : At3 w p t x y z) : At3 (w.setCell ⟨p, 2, none⟩ (.int .i64 v)) p t x y v := by
  unfold At3 at h ⊢; simp [World.setCell, Array.getElem?_modify, h]
theorem dotL_none0 {a b c : List UInt8} (h : rd BigV a = none) : dotL [a, b, c] = none := by unfold dotL; simp only [h]
theorem dotL_none1 {a b c : List UInt8} (h : rd BigV b = none) : dotL [a, b, c] = none := by unfold dotL; simp only [h]; cases rd BigV a <;> rfl
theorem dotL_none2 {a b c : List UInt8} (h : rd BigV c = none) : dotL [a, b, c] = none := by unfold dotL; simp only [h]; cases rd BigV a <;> cases rd BigV b <;> rfl
theorem dotL_len {L : List (List UInt8)} (h : L.length < 3) : dotL L = none := by
  unfold dotL
  split
  · simp at h
  · rfl
/-- how many of the three numbers are there -/
def DotSt (a b c : List UInt8) (h k : Nat) (W : World) : Prop := match k with
  | 0 => At3 W h 65 0 0 0
  | 1 => ∃ x : Int, rd BigV a = some x ∧ At3 W h 65 x 0 0
  | 2 => ∃ x y : Int, rd BigV a = some x ∧ rd BigV b = some y ∧ At3 W h 65 x y 0
  | _ => ∃ x y z : Int, rd BigV a = some x ∧ rd BigV b = some y ∧ rd BigV c = some z ∧ At3 W h 65 x y z
set_option maxHeartbeats 1000000 in
set_option maxRecDepth 100000 in
theorem implDotted (p : ByteArray) (w : World) (hs : p.size ≤ 1048576) (hd : DoorE w) (mx : Int) (hmx : w.cell? ⟨0, 0, none⟩ = some (.int .i64 mx)) :
    Calls Tryd.prog 34 #[.string p] w fun e w' => e = .returned (.tuple #[.agg #[.int .i64 (d3 p.data.toList).1, .int .i64 (d3 p.data.toList).2.1, .int .i64 (d3 p.data.toList).2.2], .bool (dotO p.data.toList).isSome]) ∧ Below w.heap.size w w' := by
  have h0 := World.block_lt_of_cell? w _ hmx
  have HM : Hid (∀ W, Below w.heap.size w W → W.cell? ⟨0, 0, none⟩ = some (.int .i64 mx)) := fun W hW => (hW.cell (p := ⟨0, 0, none⟩) h0).trans hmx
  have HD := Lib.hid hd
  have HSP := Lib.hid (fun W => splitN_one 46 2 (by omega) p mx W hs)
  have hdd := dot_spl p.data.toList
  have hmem := spl_mem 46 2 p.data.toList
  obtain ⟨L, hL⟩ : ∃ L, spl 46 2 p.data.toList = L := ⟨_, rfl⟩
  rw [hL] at HSP hdd hmem
  rw [size_toList] at hmem
  have HMEM := Lib.hid hmem
  have HDD := Lib.hid hdd
  have hll : 1 ≤ L.length ∧ L.length ≤ 3 := by rw [← hL]; exact spl_len 46 2 _
  obtain ⟨hl1, hl3⟩ := hll
  clear hmx hd hL hdd hmem
  have hbA : Below w.heap.size w ((w.alloc (.cells #[.int .i64 0, .int .i64 0, .int .i64 0] 65)).alloc (.cells #[.int .i64 0, .int .i64 0, .int .i64 0] 65)) := ((Below.refl _ w).alloc (Nat.le_refl _) _).alloc (by simp) _
  have ha0 : At3 ((w.alloc (.cells #[.int .i64 0, .int .i64 0, .int .i64 0] 65)).alloc (.cells #[.int .i64 0, .int .i64 0, .int .i64 0] 65)) w.heap.size 65 0 0 0 := (Below.heap_alloc _ _ _ (by simp)).trans (heap_alloc_new w _)
  have ha1 : At3 ((w.alloc (.cells #[.int .i64 0, .int .i64 0, .int .i64 0] 65)).alloc (.cells #[.int .i64 0, .int .i64 0, .int .i64 0] 65)) (w.heap.size + 1) 65 0 0 0 := by
    have h := heap_alloc_new (w.alloc (.cells #[.int .i64 0, .int .i64 0, .int .i64 0] 65)) (.cells #[.int .i64 0, .int .i64 0, .int .i64 0] 65)
    rw [World.size_alloc] at h; exact h
  have HBA := Lib.hid hbA
  have HA0 := Lib.hid ha0
  have HA1 := Lib.hid ha1
  clear hbA ha0 ha1
  go_enter Tryd.func34, Tryd.ntmps34
  go_wp2_with fail
  refine (HSP.out _ (HM.out _ HBA.out) 3 rfl).mono ?_
  rintro e w1 ⟨cap, rfl, hst, hb1⟩
  have HB1 := Lib.hid (HBA.out.trans (hb1.mono HBA.out.size))
  have HZ1 : Hid (At3 w1 w.heap.size 65 0 0 0) := HA0.out.below hb1
  have HE1 : Hid (At3 w1 (w.heap.size + 1) 65 0 0 0) := HA1.out.below hb1
  have HST := Lib.hid hst
  clear hst hb1
  by_cases hlen : L.length < 3
  · have hlI : (L.length : Int) < 3 := by omega
    have HNO : Hid (dotO p.data.toList = none) := by rw [Hid, ← HDD.out]; exact dotL_len hlen
    have HDZ : Hid (d3 p.data.toList = (0, 0, 0)) := by rw [Hid]; unfold d3; rw [HNO.out]; rfl
    obtain ⟨q0, q1, q2⟩ := HZ1.out.cells
    have qf0 := HZ1.out.fr 0
    have qf1 := HZ1.out.fr 1
    have qf2 := HZ1.out.fr 2
    go_wp2
    rw [HDZ.out, HNO.out]
    exact bodyPost_ret (v := .tuple #[.agg #[.int .i64 0, .int .i64 0, .int .i64 0], .bool false]) (by simp [results, Tryd.results34, go_sem, q0, q1, q2]) rfl ⟨rfl, by first | exact ((HB1.out.setCell (Nat.le_refl _) _).setCell (Nat.le_refl _) _).setCell (Nat.le_refl _) _ | exact HB1.out⟩
  · obtain ⟨a, b, c, rfl⟩ : ∃ a b c, L = [a, b, c] := by
      match L, hl1, hl3, hlen with
      | [a, b, c], _, _, _ => exact ⟨a, b, c, rfl⟩
      | [_], _, _, h => simp at h
      | [_, _], _, _, h => simp at h
    have HSZ : Hid ((⟨a.toArray⟩ : ByteArray).size ≤ 1048576 ∧ (⟨b.toArray⟩ : ByteArray).size ≤ 1048576 ∧ (⟨c.toArray⟩ : ByteArray).size ≤ 1048576) := by
      refine ⟨?_, ?_, ?_⟩ <;> rw [← size_toList]
      · have := HMEM.out a (by simp); simpa using (by omega : a.length ≤ 1048576)
      · have := HMEM.out b (by simp); simpa using (by omega : b.length ≤ 1048576)
      · have := HMEM.out c (by simp); simpa using (by omega : c.length ≤ 1048576)
    have HCL : Hid (∀ W, Below w1.heap.size w1 W ∨ True → True) := fun _ _ => trivial
    clear HCL hl1 hl3 hlen
    obtain ⟨G, hG⟩ : ∃ G, ((w.alloc (.cells #[.int .i64 0, .int .i64 0, .int .i64 0] 65)).alloc (.cells #[.int .i64 0, .int .i64 0, .int .i64 0] 65)).heap.size = G := ⟨_, rfl⟩
    have hGs : G = w.heap.size + 2 := by rw [← hG]; simp
    have hcl : w1.cell? ⟨w.heap.size + 1 + 1, 0, none⟩ = some (.string ⟨a.toArray⟩) ∧ w1.cell? ⟨w.heap.size + 1 + 1, 1, none⟩ = some (.string ⟨b.toArray⟩) ∧ w1.cell? ⟨w.heap.size + 1 + 1, 2, none⟩ = some (.string ⟨c.toArray⟩) := by
      obtain ⟨a', cap', hv, -, hk⟩ := HST.out.form
      simp only [Value.slice.injEq] at hv
      obtain ⟨ha', -, -⟩ := hv
      have pk := fun k (h : k < 3) => hk k (by rw [Bs_len]; exact h)
      obtain ⟨g0, e0, -, -, x0, -⟩ := pk 0 (by omega)
      obtain ⟨g1, e1, -, -, x1, -⟩ := pk 1 (by omega)
      obtain ⟨g2, e2, -, -, x2, -⟩ := pk 2 (by omega)
      rw [← ha'] at e0 e1 e2
      have f0 : g0 = w.heap.size + 1 + 1 := by simpa using e0.symm
      have f1 : g1 = w.heap.size + 1 + 1 := by simpa using e1.symm
      have f2 : g2 = w.heap.size + 1 + 1 := by simpa using e2.symm
      subst f0
      rw [f1] at x1
      rw [f2] at x2
      exact ⟨x0, x1, x2⟩
    have hw1 : w.heap.size + 1 + 1 < w1.heap.size := World.block_lt_of_cell? w1 _ hcl.1
    clear hG hGs HST
    have HW1 := Lib.hid hw1
    have HCC := Lib.hid hcl
    clear hcl hw1
    go_wp2
    go_loopw [18] (fun iv wr => ∃ k : Nat, k ≤ 3 ∧ iv = .int .i64 (k : Int) ∧ Hid (DotSt a b c (w.heap.size + 1) k wr) ∧ Hid (At3 wr w.heap.size 65 0 0 0) ∧ Hid (Below w.heap.size w wr) ∧ Hid (w1.heap.size ≤ wr.heap.size) ∧ Hid (wr.heap[w.heap.size + 1 + 1]? = w1.heap[w.heap.size + 1 + 1]?)) (fun iv _ => 3 - (intOf iv).toNat)
    case atStart => exact ⟨0, by omega, rfl, HE1.out, HZ1, HB1, Nat.le_refl _, rfl⟩
    case round =>
      obtain ⟨k, hk3, rfl, HSt, HZ, HBW, HSZ2, HSAME⟩ := hrel
      rcases (show k = 0 ∨ k = 1 ∨ k = 2 ∨ k = 3 by omega) with rfl | rfl | rfl | rfl
      · have ha3 : At3 wr (w.heap.size + 1) 65 0 0 0 := HSt
        have HA3 := Lib.hid ha3
        have HPRE : Hid (True) := trivial
        have ct : wr.cell? ⟨w.heap.size + 1 + 1, 0, none⟩ = some (.string ⟨a.toArray⟩) := (World.cell?_of_block HSAME.out).trans HCC.out.1
        have HRD := Lib.hid (implReadDecimal ⟨a.toArray⟩ wr HSZ.out.1 (HD.out.on HBW.out))
        rw [show (⟨a.toArray⟩ : ByteArray).data.toList = a by simp] at HRD
        unfold rdV at HRD
        clear ha3 
        cases hrd : rd BigV a with
        | none =>
          have HNO : Hid (dotO p.data.toList = none) := by
            rw [Hid, ← HDD.out]
            exact dotL_none0 hrd
          have HDZ : Hid (d3 p.data.toList = (0, 0, 0)) := by rw [Hid]; unfold d3; rw [HNO.out]; rfl
          rw [show rd 1000000000000000 a = none from hrd] at HRD
          clear hrd
          go_wp2_with fail
          refine HRD.out.mono ?_; rintro e w3 ⟨rfl, hb3⟩
          have HB3 := Lib.hid (HBW.out.trans (hb3.mono HBW.out.size))
          have hz3 : At3 w3 w.heap.size 65 0 0 0 := HZ.out.below hb3
          clear hb3
          obtain ⟨q0, q1, q2⟩ := hz3.cells
          have qf := hz3.fr
          have qf0 := qf 0
          have qf1 := qf 1
          have qf2 := qf 2
          clear qf hz3
          go_wp2
          rw [HDZ.out, HNO.out]
          exact bodyPost_ret (v := .tuple #[.agg #[.int .i64 0, .int .i64 0, .int .i64 0], .bool false]) (by simp [results, Tryd.results34, go_sem, q0, q1, q2]) rfl ⟨rfl, by first | exact ((HB3.out.setCell (Nat.le_refl _) _).setCell (Nat.le_refl _) _).setCell (Nat.le_refl _) _ | exact HB3.out⟩
        | some x =>
          have HRS := Lib.hid hrd
          rw [show rd 1000000000000000 a = some x from hrd] at HRD
          clear hrd
          go_wp2_with fail
          refine HRD.out.mono ?_; rintro e w3 ⟨rfl, hb3⟩
          have hsz3 := HBW.out.size
          have HB3 := Lib.hid (HBW.out.trans (hb3.mono hsz3))
          have HZ3 : Hid (At3 w3 w.heap.size 65 0 0 0) := HZ.out.below hb3
          have ha3 : At3 w3 (w.heap.size + 1) 65 0 0 0 := HA3.out.below hb3
          have HN3 := Lib.hid (ha3.s0 x)
          have HSI := Lib.hid (Nat.le_trans HSZ2.out hb3.size)
          have HSA : Hid (w3.heap[w.heap.size + 1 + 1]? = w1.heap[w.heap.size + 1 + 1]?) := (hb3.block _ (Nat.lt_of_lt_of_le HW1.out HSZ2.out)).trans HSAME.out
          obtain ⟨q0, q1, q2⟩ := ha3.cells
          have qf0 := ha3.fr 0
          clear hb3 ha3
          go_wp2
          go_roundw
          case rel => exact ⟨1, by omega, rfl, ⟨x, HRS.out, HN3.out⟩, HZ3.out.set_ne (by omega) _ _, HB3.out.setCell (p := ⟨w.heap.size + 1, 0, none⟩) (Nat.le_succ _) _, by rw [Hid]; simpa using HSI.out, (Below.heap_setCell _ _ _ _ (by dsimp only; omega)).trans HSA.out⟩
          case measure => simp [intOf]
      · obtain ⟨x, hra, ha3⟩ := HSt
        have HA3 := Lib.hid ha3
        have HPRE : Hid (rd BigV a = some x) := hra
        have ct : wr.cell? ⟨w.heap.size + 1 + 1, 1, none⟩ = some (.string ⟨b.toArray⟩) := (World.cell?_of_block HSAME.out).trans HCC.out.2.1
        have HRD := Lib.hid (implReadDecimal ⟨b.toArray⟩ wr HSZ.out.2.1 (HD.out.on HBW.out))
        rw [show (⟨b.toArray⟩ : ByteArray).data.toList = b by simp] at HRD
        unfold rdV at HRD
        clear ha3 hra
        cases hrd : rd BigV b with
        | none =>
          have HNO : Hid (dotO p.data.toList = none) := by
            rw [Hid, ← HDD.out]
            exact dotL_none1 hrd
          have HDZ : Hid (d3 p.data.toList = (0, 0, 0)) := by rw [Hid]; unfold d3; rw [HNO.out]; rfl
          rw [show rd 1000000000000000 b = none from hrd] at HRD
          clear hrd
          go_wp2_with fail
          refine HRD.out.mono ?_; rintro e w3 ⟨rfl, hb3⟩
          have HB3 := Lib.hid (HBW.out.trans (hb3.mono HBW.out.size))
          have hz3 : At3 w3 w.heap.size 65 0 0 0 := HZ.out.below hb3
          clear hb3
          obtain ⟨q0, q1, q2⟩ := hz3.cells
          have qf := hz3.fr
          have qf0 := qf 0
          have qf1 := qf 1
          have qf2 := qf 2
          clear qf hz3
          go_wp2
          rw [HDZ.out, HNO.out]
          exact bodyPost_ret (v := .tuple #[.agg #[.int .i64 0, .int .i64 0, .int .i64 0], .bool false]) (by simp [results, Tryd.results34, go_sem, q0, q1, q2]) rfl ⟨rfl, by first | exact ((HB3.out.setCell (Nat.le_refl _) _).setCell (Nat.le_refl _) _).setCell (Nat.le_refl _) _ | exact HB3.out⟩
        | some y =>
          have HRS := Lib.hid hrd
          rw [show rd 1000000000000000 b = some y from hrd] at HRD
          clear hrd
          go_wp2_with fail
          refine HRD.out.mono ?_; rintro e w3 ⟨rfl, hb3⟩
          have hsz3 := HBW.out.size
          have HB3 := Lib.hid (HBW.out.trans (hb3.mono hsz3))
          have HZ3 : Hid (At3 w3 w.heap.size 65 0 0 0) := HZ.out.below hb3
          have ha3 : At3 w3 (w.heap.size + 1) 65 x 0 0 := HA3.out.below hb3
          have HN3 := Lib.hid (ha3.s1 y)
          have HSI := Lib.hid (Nat.le_trans HSZ2.out hb3.size)
          have HSA : Hid (w3.heap[w.heap.size + 1 + 1]? = w1.heap[w.heap.size + 1 + 1]?) := (hb3.block _ (Nat.lt_of_lt_of_le HW1.out HSZ2.out)).trans HSAME.out
          obtain ⟨q0, q1, q2⟩ := ha3.cells
          have qf1 := ha3.fr 1
          clear hb3 ha3
          go_wp2
          go_roundw
          case rel => exact ⟨2, by omega, rfl, ⟨x, y, HPRE.out, HRS.out, HN3.out⟩, HZ3.out.set_ne (by omega) _ _, HB3.out.setCell (p := ⟨w.heap.size + 1, 1, none⟩) (Nat.le_succ _) _, by rw [Hid]; simpa using HSI.out, (Below.heap_setCell _ _ _ _ (by dsimp only; omega)).trans HSA.out⟩
          case measure => simp [intOf]
      · obtain ⟨x, y, hra, hrb, ha3⟩ := HSt
        have HA3 := Lib.hid ha3
        have HPRE : Hid (rd BigV a = some x ∧ rd BigV b = some y) := ⟨hra, hrb⟩
        have ct : wr.cell? ⟨w.heap.size + 1 + 1, 2, none⟩ = some (.string ⟨c.toArray⟩) := (World.cell?_of_block HSAME.out).trans HCC.out.2.2
        have HRD := Lib.hid (implReadDecimal ⟨c.toArray⟩ wr HSZ.out.2.2 (HD.out.on HBW.out))
        rw [show (⟨c.toArray⟩ : ByteArray).data.toList = c by simp] at HRD
        unfold rdV at HRD
        clear ha3 hra hrb
        cases hrd : rd BigV c with
        | none =>
          have HNO : Hid (dotO p.data.toList = none) := by
            rw [Hid, ← HDD.out]
            exact dotL_none2 hrd
          have HDZ : Hid (d3 p.data.toList = (0, 0, 0)) := by rw [Hid]; unfold d3; rw [HNO.out]; rfl
          rw [show rd 1000000000000000 c = none from hrd] at HRD
          clear hrd
          go_wp2_with fail
          refine HRD.out.mono ?_; rintro e w3 ⟨rfl, hb3⟩
          have HB3 := Lib.hid (HBW.out.trans (hb3.mono HBW.out.size))
          have hz3 : At3 w3 w.heap.size 65 0 0 0 := HZ.out.below hb3
          clear hb3
          obtain ⟨q0, q1, q2⟩ := hz3.cells
          have qf := hz3.fr
          have qf0 := qf 0
          have qf1 := qf 1
          have qf2 := qf 2
          clear qf hz3
          go_wp2
          rw [HDZ.out, HNO.out]
          exact bodyPost_ret (v := .tuple #[.agg #[.int .i64 0, .int .i64 0, .int .i64 0], .bool false]) (by simp [results, Tryd.results34, go_sem, q0, q1, q2]) rfl ⟨rfl, by first | exact ((HB3.out.setCell (Nat.le_refl _) _).setCell (Nat.le_refl _) _).setCell (Nat.le_refl _) _ | exact HB3.out⟩
        | some z =>
          have HRS := Lib.hid hrd
          rw [show rd 1000000000000000 c = some z from hrd] at HRD
          clear hrd
          go_wp2_with fail
          refine HRD.out.mono ?_; rintro e w3 ⟨rfl, hb3⟩
          have hsz3 := HBW.out.size
          have HB3 := Lib.hid (HBW.out.trans (hb3.mono hsz3))
          have HZ3 : Hid (At3 w3 w.heap.size 65 0 0 0) := HZ.out.below hb3
          have ha3 : At3 w3 (w.heap.size + 1) 65 x y 0 := HA3.out.below hb3
          have HN3 := Lib.hid (ha3.s2 z)
          have HSI := Lib.hid (Nat.le_trans HSZ2.out hb3.size)
          have HSA : Hid (w3.heap[w.heap.size + 1 + 1]? = w1.heap[w.heap.size + 1 + 1]?) := (hb3.block _ (Nat.lt_of_lt_of_le HW1.out HSZ2.out)).trans HSAME.out
          obtain ⟨q0, q1, q2⟩ := ha3.cells
          have qf2 := ha3.fr 2
          clear hb3 ha3
          go_wp2
          go_roundw
          case rel => exact ⟨3, by omega, rfl, ⟨x, y, z, HPRE.out.1, HPRE.out.2, HRS.out, HN3.out⟩, HZ3.out.set_ne (by omega) _ _, HB3.out.setCell (p := ⟨w.heap.size + 1, 2, none⟩) (Nat.le_succ _) _, by rw [Hid]; simpa using HSI.out, (Below.heap_setCell _ _ _ _ (by dsimp only; omega)).trans HSA.out⟩
          case measure => simp [intOf]
      · obtain ⟨x, y, z, hra, hrb, hrc, ha3⟩ := HSt
        have HYE : Hid (dotO p.data.toList = some (x, y, z)) := by
          rw [Hid, ← HDD.out]; unfold dotL; simp only [hra, hrb, hrc]
        have HDZ : Hid (d3 p.data.toList = (x, y, z)) := by rw [Hid]; unfold d3; rw [HYE.out]; rfl
        obtain ⟨q0, q1, q2⟩ := ha3.cells
        have hz := HZ.out
        have qf0 := hz.fr 0
        have qf1 := hz.fr 1
        have qf2 := hz.fr 2
        obtain ⟨o0, o1, o2⟩ := hz.cells
        have hz4 := ((hz.s0 x).s1 y).s2 z
        obtain ⟨z0, z1, z2⟩ := hz4.cells
        clear hra hrb hrc ha3 hz hz4
        go_wp2
        rw [HDZ.out, HYE.out]
        exact bodyPost_ret (v := .tuple #[.agg #[.int .i64 x, .int .i64 y, .int .i64 z], .bool true]) (by simp [results, Tryd.results34, go_sem, z0, z1, z2]) rfl ⟨rfl, ((HBW.out.setCell (Nat.le_refl _) _).setCell (Nat.le_refl _) _).setCell (Nat.le_refl _) _⟩
end Go.Proofs.YtemjohkieehojaaDoor
