/- A diagram out of a text: the model's side. -/
import Derived.Test.YtemjohkieehojaaDoorRdP
import Derived.Test.YtemjohkieehojaaDoorDT
namespace Go.Proofs.YtemjohkieehojaaDoor
open Go.RowKit
set_option linter.unusedVariables false
set_option linter.unusedSimpArgs false
set_option maxHeartbeats 4000000 in
set_option maxRecDepth 100000 in
theorem specRd (s : ByteArray) (w : World) (hs : s.size ≤ 500) (hd : DoorW w) : Calls Tryd.prog 13 #[.string s] w (RdR s w) := by
  obtain ⟨i1, ji, jz0, jz1, jz2⟩ := info_parts info_rec
  obtain ⟨i0, hi, hz0, hz1, hz2⟩ := info_parts info_str
  have HD := Lib.hid hd
  have t1 : ¬ (500 : Int) < (s.size : Int) := by omega
  have hbA : Below w.heap.size w (w.alloc (.cells #[.int .i64 0, .slice none 0 0] 32)) := (Below.refl _ w).alloc (Nat.le_refl _) _
  have HBA := Lib.hid hbA
  have HA0 := Lib.hid (At2.new w (.int .i64 0) (.slice none 0 0) 32)
  obtain ⟨h0, r, hP⟩ : ∃ h0 r, pcs 44 s.data.toList = h0 :: r := by
    cases hp : pcs 44 s.data.toList with
    | nil => exact absurd hp (pcs_ne 44 _)
    | cons h r => exact ⟨h, r, rfl⟩
  have hpl := pcs_len 44 s.data.toList
  have hpm := pcs_mem_lenS 44 s.data.toList
  rw [hP, size_toList] at hpl
  rw [hP, size_toList] at hpm
  have hrl : r.length ≤ 500 := by simp at hpl; omega
  have HPM := Lib.hid hpm
  have HPP := Lib.hid hP
  have HSP := Lib.hid (fun W => specCutG 44 44 rfl s W (by omega))
  rw [hP] at HSP
  clear hd hbA hP hpl hpm
  go_enter Tryd.func13, Tryd.ntmps13
  go_wp2_with fail
  refine (HSP.out _).mono ?_
  rintro e w1 ⟨pv, rfl, hst, hb1⟩
  have HB1 := Lib.hid (HBA.out.trans (hb1.mono HBA.out.size))
  have HR1 : Hid (At2 w1 w.heap.size (.int .i64 0) (.slice none 0 0)) := HA0.out.below hb1 (by simp)
  obtain ⟨gp, pc, rfl, hgp, hgl, hcell⟩ : ∃ gp pc, pv = .slice (some ⟨gp, 0, none⟩) (r.length + 1) pc ∧ w.heap.size < gp ∧ gp < w1.heap.size ∧ ∀ k (h : k < r.length + 1), w1.cell? ⟨gp, k, none⟩ = some (.string ⟨((h0 :: r)[k]'(by simpa using h)).toArray⟩) := by
    obtain ⟨a', cap', hv, -, hk⟩ := hst.form
    rw [Bs_len] at hv
    obtain ⟨g0, e0, hg0, hg1, x0, -⟩ := hk 0 (by rw [Bs_len]; simp)
    subst e0
    rw [World.size_alloc] at hg0
    refine ⟨g0, cap', hv, by omega, hg1, fun k h => ?_⟩
    obtain ⟨g2, e2, -, -, x2, -⟩ := hk k (by rw [Bs_len]; simpa using h)
    have f0 : g2 = g0 := by simpa using e2.symm
    rw [f0, Bs_get] at x2
    exact x2
  have HCC := Lib.hid hcell
  have hct0 : w1.cell? ⟨gp, 0, none⟩ = some (.string ⟨h0.toArray⟩) := hcell 0 (by omega)
  have HGP := Lib.hid hgp
  have HNU := Lib.hid (number_any ⟨h0.toArray⟩ w1 (by rw [← size_toList]; have := HPM.out h0 (by simp); simpa using (by omega : h0.length ≤ 1048576)))
  rw [show (⟨h0.toArray⟩ : ByteArray).data.toList = h0 by simp] at HNU
  obtain ⟨ev, hev⟩ : ∃ ev, nm h0 = ev := ⟨_, rfl⟩
  rw [hev] at HNU
  have HEV := Lib.hid hev
  have htr : (0 : Nat) < r.length + 1 := by omega
  clear hst hb1 hcell hev
  go_wp2_with fail
  refine HNU.out.mono ?_; rintro e w2 ⟨rfl, hb2⟩
  have HB2 := Lib.hid (HB1.out.trans (hb2.mono HB1.out.size))
  have HR2 : Hid (At2 w2 w.heap.size (.int .i64 0) (.slice none 0 0)) := HR1.out.below hb2 HR1.out.lt
  have HTB : Hid (w2.heap[gp]? = w1.heap[gp]?) := hb2.block _ hgl
  have hzz : gp < w2.heap.size := Nat.lt_of_lt_of_le hgl hb2.size
  clear hb2 hct0 hgl
  obtain ⟨w3, hw3⟩ : ∃ w3, (w2.alloc (.cells #[] 60)).alloc (.cells #[.int .i64 ev, .slice (some ⟨w2.heap.size, 0, none⟩) 0 0] 32) = w3 := ⟨_, rfl⟩
  have hz3 : w3.heap.size = w2.heap.size + 2 := by rw [← hw3]; simp
  have hb3 : Below w2.heap.size w2 w3 := by rw [← hw3]; exact ((Below.refl _ _).alloc (Nat.le_refl _) _).alloc (by simp) _
  have HB3 := Lib.hid (HB2.out.trans (hb3.mono HB2.out.size))
  have HR3 : Hid (At2 w3 w.heap.size (.int .i64 0) (.slice none 0 0)) := HR2.out.below hb3 HR2.out.lt
  have HD3 : Hid (D2 w3 (w2.heap.size + 1) (.int .i64 ev) (.slice (some ⟨w2.heap.size, 0, none⟩) 0 0)) := by
    rw [Hid, ← hw3]
    have h := heap_alloc_new (w2.alloc (.cells #[] 60)) (.cells #[.int .i64 ev, .slice (some ⟨w2.heap.size, 0, none⟩) 0 0] 32)
    rw [World.size_alloc] at h; exact h
  have HC3 : Hid (Recs w3 w2.heap.size (.slice (some ⟨w2.heap.size, 0, none⟩) 0 0) 0 (fl3 ((r.take 0).map t3))) := by
    rw [Hid, ← hw3]
    exact ⟨by simp [fl3], World.ownsRow.alloc (World.ownsRow_lit w2 #[] 0 (Nat.le_refl _) (Nat.zero_le _) rfl) _⟩
  have HT3 : Hid (w3.heap[gp]? = w1.heap[gp]?) := (hb3.block _ hzz).trans HTB.out
  have HZ3 := Lib.hid hz3
  have HW3 := Lib.hid hw3
  have HQ := Lib.hid hzz
  clear hb3 hz3 hw3
  go_wp2
  rw [HW3.out]
  go_loopw [6] (fun iv wr => ∃ (k : Nat) (v : Value), k ≤ r.length ∧ iv = .int .i64 ((k + 1 : Nat) : Int) ∧ Hid (D2 wr (w2.heap.size + 1) (.int .i64 ev) v) ∧ Hid (Recs wr w2.heap.size v k (fl3 ((r.take k).map t3))) ∧ Hid (Below w.heap.size w wr) ∧ Hid (At2 wr w.heap.size (.int .i64 0) (.slice none 0 0)) ∧ Hid (wr.heap[gp]? = w1.heap[gp]?) ∧ Hid (w3.heap.size ≤ wr.heap.size)) (fun iv _ => r.length + 1 - (intOf iv).toNat)
  case atStart => exact ⟨0, _, Nat.zero_le _, rfl, HD3, HC3, HB3, HR3, HT3, Nat.le_refl _⟩
  case round =>
    obtain ⟨k, v, hk, rfl, HDD, HRC, HBW, HRR, HTT, HSI⟩ := hrel
    obtain ⟨va, vc, hvv, -, -⟩ := HRC.out.form
    subst hvv
    by_cases hlt : k < r.length
    · have hct : wr.cell? ⟨gp, k + 1, none⟩ = some (.string ⟨r[k].toArray⟩) := (World.cell?_of_block (a := ⟨gp, k + 1, none⟩) HTT.out).trans (HCC.out (k + 1) (by omega))
      have hki : ((k + 1 : Nat) : Int) < ((r.length + 1 : Nat) : Int) := by omega
      have hkn : k + 1 < r.length + 1 := by omega
      have hrs : (⟨r[k].toArray⟩ : ByteArray).size ≤ 1048576 := by
        rw [← size_toList]; have := HPM.out r[k] (by simp); simpa using (by omega : r[k].length ≤ 1048576)
      have HCU := Lib.hid (specCutG 46 46 rfl ⟨r[k].toArray⟩ wr hrs)
      rw [show (⟨r[k].toArray⟩ : ByteArray).data.toList = r[k] by simp] at HCU
      have hnx := t3_next r k hlt
      have hqm := pcs_mem_lenS 46 r[k]
      have hql : (pcs 46 r[k]).length ≤ 501 := by
        have h1 := pcs_len 46 r[k]
        have h2 := HPM.out r[k] (by simp)
        omega
      obtain ⟨Q, hQ⟩ : ∃ Q, pcs 46 r[k] = Q := ⟨_, rfl⟩
      have ht3 : t3 r[k] = (nm (Q.getD 0 []), nm (Q.getD 1 []), nm (Q.getD 2 [])) := by unfold t3; rw [hQ]
      rw [hQ] at HCU hqm hql
      rw [ht3] at hnx
      obtain ⟨x, hx⟩ : ∃ x, nm (Q.getD 0 []) = x := ⟨_, rfl⟩
      obtain ⟨y, hy⟩ : ∃ y, nm (Q.getD 1 []) = y := ⟨_, rfl⟩
      obtain ⟨z, hz⟩ : ∃ z, nm (Q.getD 2 []) = z := ⟨_, rfl⟩
      have HX := Lib.hid hx
      have HY := Lib.hid hy
      have HZ := Lib.hid hz
      rw [hx, hy, hz] at hnx
      dsimp only at hnx
      have hflen : (fl3 ((r.take k).map t3)).length = k * 3 := by rw [fl3_len]; simp; omega
      obtain ⟨FL, hFL⟩ : ∃ FL, fl3 ((r.take k).map t3) = FL := ⟨_, rfl⟩
      rw [hFL] at hflen HRC hnx
      have HNX := Lib.hid hnx
      have HFL := Lib.hid hflen
      have HQM : Hid (∀ j, (⟨(Q.getD j []).toArray⟩ : ByteArray).size ≤ 1048576) := by
        intro j
        rw [← size_toList]
        have h2 := HPM.out r[k] (by simp)
        rw [List.getD_eq_getElem?_getD]
        cases hq : Q[j]? with
        | none => simp
        | some p =>
          have := hqm p (List.mem_of_getElem? hq)
          simpa using (by omega : p.length ≤ 1048576)
      clear hnx hflen hFL hQ ht3 hx hy hz hqm hrs
      go_wp2_with fail
      refine HCU.out.mono ?_; rintro e w4 ⟨lv, rfl, hst4, hb4⟩
      have HST4 := Lib.hid hst4
      have HB4 := Lib.hid hb4
      clear hst4 hb4 hct
      obtain ⟨wo, hwo⟩ : ∃ wo, wo = wr := ⟨_, rfl⟩
      subst hwo
      go_wp2
      go_loopw [7] (fun lvv wz => ∃ (j n : Nat) (la : Option Addr) (lc : Nat), lvv = .slice la n lc ∧ Hid (n = (Q ++ List.replicate j ([] : List UInt8)).length) ∧ n ≤ 600 ∧ Hid (Strs wz wo.heap.size (.slice la n lc) (Bs (Q ++ List.replicate j []))) ∧ Hid (Below wo.heap.size wo wz)) (fun lvv _ => 3 - lenOf lvv)
      case atStart =>
        obtain ⟨la, lc, hv, -, -⟩ := HST4.out.form
        rw [Bs_len] at hv
        subst hv
        exact ⟨0, Q.length, la, lc, rfl, by rw [Hid]; simp, by omega, by rw [Hid]; simpa using HST4.out, HB4.out⟩
      case round =>
        obtain ⟨j, n, la, lc, rfl, HNN, hn6, HSZ, HBZ⟩ := hrel
        by_cases hn3 : n < 3
        · have hn3I : (n : Int) < 3 := by omega
          have hszz := HBZ.out.size
          have hlen5 : (Bs (Q ++ List.replicate j ([] : List UInt8))).length = n := by rw [Bs_len]; exact HNN.out.symm
          have hsz2 := HSZ.out
          unfold Strs at hsz2
          rw [hlen5] at hsz2
          have HS2 := Lib.hid hsz2
          clear hlen5 hsz2
          go_wp2_with (at_builtin; refine wpList_append_own _ rfl _ _ 56 rfl wo.heap.size 9 i0 (.string ByteArray.empty) 1 16 Tryd.underlying56 hi hz0 hz1 hz2 rfl (by decide) _ _ _ rfl (World.ownsRow.alloc HS2.out _) ⟨wr.heap.size, 0, none⟩ 1 1 [.string ⟨#[]⟩] rfl rfl ?c1 ?c2 ?c3 ?c4 ?c5 ?_)
          try (case c1 => exact cell_one_new _ _ _)
          case c2 => simp [Value.oneCell']
          case c3 => unfold maxLen; omega
          case c4 => omega
          case c5 => first | (simp; omega) | omega
          intro v5 w5 hown5 hgrow5 _
          have hst5 : Strs w5 wo.heap.size v5 (Bs (Q ++ List.replicate (j + 1) [])) := by
            rw [List.replicate_succ', ← List.append_assoc, Bs_snoc]
            unfold Strs
            have hl5 : (Bs (Q ++ List.replicate j ([] : List UInt8)) ++ [(⟨([] : List UInt8).toArray⟩ : ByteArray)]).length = n + 1 := by rw [List.length_append, Bs_len, ← HNN.out]; rfl
            rw [hl5, List.map_append]
            exact hown5
          have HB5 : Hid (Below wo.heap.size wo w5) := (HBZ.out.alloc hszz _).grown hgrow5 (by simp; omega) (fun q e => (World.ownsRow.lt HS2.out q e).1)
          have HST5 := Lib.hid hst5
          obtain ⟨la5, lc5, hv5, -, -⟩ := hst5.form
          rw [Bs_len] at hv5
          have hln5 : (Q ++ List.replicate (j + 1) ([] : List UInt8)).length = n + 1 := by have := HNN.out; simp at this ⊢; omega
          rw [hln5] at hv5
          subst hv5
          have HLN5 := Lib.hid hln5
          clear hown5 hgrow5 hst5 hln5
          go_wp2
          go_roundw
          case rel => exact ⟨j + 1, n + 1, la5, lc5, rfl, Lib.hid HLN5.out.symm, by omega, HST5, HB5⟩
          case measure => simp [lenOf]; omega
        · have hn3I : ¬ (n : Int) < 3 := by omega
          obtain ⟨gl, hla, hgl, l0, l1, l2⟩ : ∃ gl, la = some ⟨gl, 0, none⟩ ∧ wo.heap.size ≤ gl ∧ wr.cell? ⟨gl, 0, none⟩ = some (.string ⟨(Q.getD 0 []).toArray⟩) ∧ wr.cell? ⟨gl, 1, none⟩ = some (.string ⟨(Q.getD 1 []).toArray⟩) ∧ wr.cell? ⟨gl, 2, none⟩ = some (.string ⟨(Q.getD 2 []).toArray⟩) := by
            obtain ⟨a', cap', hv, -, hk2⟩ := HSZ.out.form
            simp only [Value.slice.injEq] at hv
            obtain ⟨rfl, -, -⟩ := hv
            have hlenB : (Bs (Q ++ List.replicate j ([] : List UInt8))).length = n := by rw [Bs_len]; exact HNN.out.symm
            have pk := fun q (h : q < n) => hk2 q (by rw [hlenB]; exact h)
            obtain ⟨g0, e0, b0, -, x0, -⟩ := pk 0 (by omega)
            obtain ⟨g1, e1, -, -, x1, -⟩ := pk 1 (by omega)
            obtain ⟨g2, e2, -, -, x2, -⟩ := pk 2 (by omega)
            have q1 : g1 = g0 := by rw [e0] at e1; simpa using e1.symm
            have q2 : g2 = g0 := by rw [e0] at e2; simpa using e2.symm
            rw [q1] at x1
            rw [q2] at x2
            rw [Bs_get, pad_get] at x0 x1 x2
            exact ⟨g0, e0, b0, x0, x1, x2⟩
          subst hla
          obtain ⟨sX, hsX⟩ : ∃ q : ByteArray, (⟨(Q.getD 0 []).toArray⟩ : ByteArray) = q := ⟨_, rfl⟩
          obtain ⟨sY, hsY⟩ : ∃ q : ByteArray, (⟨(Q.getD 1 []).toArray⟩ : ByteArray) = q := ⟨_, rfl⟩
          obtain ⟨sZ, hsZ⟩ : ∃ q : ByteArray, (⟨(Q.getD 2 []).toArray⟩ : ByteArray) = q := ⟨_, rfl⟩
          have CX : Hid (∀ W, Calls Tryd.prog 30 #[.string sX] W fun e w' => e = .returned (.int .i64 x) ∧ Below W.heap.size W w') := fun W => by
            have h := number_any sX W (by rw [← hsX]; exact HQM.out 0)
            rw [show sX.data.toList = Q.getD 0 [] by rw [← hsX], HX.out] at h; exact h
          have CY : Hid (∀ W, Calls Tryd.prog 30 #[.string sY] W fun e w' => e = .returned (.int .i64 y) ∧ Below W.heap.size W w') := fun W => by
            have h := number_any sY W (by rw [← hsY]; exact HQM.out 1)
            rw [show sY.data.toList = Q.getD 1 [] by rw [← hsY], HY.out] at h; exact h
          have CZ : Hid (∀ W, Calls Tryd.prog 30 #[.string sZ] W fun e w' => e = .returned (.int .i64 z) ∧ Below W.heap.size W w') := fun W => by
            have h := number_any sZ W (by rw [← hsZ]; exact HQM.out 2)
            rw [show sZ.data.toList = Q.getD 2 [] by rw [← hsZ], HZ.out] at h; exact h
          rw [hsX] at l0
          rw [hsY] at l1
          rw [hsZ] at l2
          have R0 : Hid (RgS w w1 w2 gp gl (.int .i64 ev) (.slice va k vc) (.string sX) (.string sY) (.string sZ) k FL (.slice va k vc) wr) := by
            have hbz := HBZ.out
            exact ⟨HDD.out.below hbz, HRC.out.keep hbz (Nat.le_refl _), HBW.out.trans (hbz.mono HBW.out.size), HRR.out.below hbz HRR.out.lt, (hbz.block _ (by have := HSI.out; have := HZ3.out; have := HQ.out; omega)).trans HTT.out, by have := HSI.out; have := HZ3.out; have := hbz.size; omega, l0, l1, l2⟩
          have HNE : Hid (∀ q, (Value.slice va k vc).ownBlock = some q → gl ≠ q ∧ gp ≠ q ∧ w.heap.size < q) := by
            intro q e
            have h1 := World.ownsRow.lt HRC.out.2 q e
            have := HQ.out
            have := HGP.out
            omega
          have HWW : Hid (w.heap.size ≤ w2.heap.size) := HB2.out.size
          have HAPP : Hid (∀ (W w8 : World) (v8 : Value) (O : Obj), RgS w w1 w2 gp gl (.int .i64 ev) (.slice va k vc) (.string sX) (.string sY) (.string sZ) k FL (.slice va k vc) W → w8.ownsRow w2.heap.size 60 3 v8 (k + 1) (FL.map (Value.int .i64) ++ [.int .i64 x, .int .i64 y, .int .i64 z]) → (W.alloc O).grownBy w8 (Value.slice va k vc).ownBlock → RgS w w1 w2 gp gl (.int .i64 ev) (.slice va k vc) (.string sX) (.string sY) (.string sZ) (k + 1) (FL ++ [x, y, z]) v8 w8) :=
            fun W w8 v8 O h a b => h.app HWW.out HQ.out HFL.out HNE.out a b
          obtain ⟨-, d0, -, f0⟩ := R0.out.d.at2
          have hp0 : 0 < n := by omega
          have hp1 : 1 < n := by omega
          have hp2 : 2 < n := by omega
          have hq1 : (1 : Int) < (n : Int) := by omega
          have hq2 : (2 : Int) < (n : Int) := by omega
          have HGQ : Hid (gl ≠ w2.heap.size + 1) := by have := HSI.out; have := HZ3.out; rw [Hid]; omega
          clear hsX hsY hsZ hgl
          go_wp2
          refine wp_region_held_drew (S := fun W => W.cell? ⟨gl, 0, none⟩ = some (.string sX) ∧ W.cell? ⟨gl, 1, none⟩ = some (.string sY) ∧ W.cell? ⟨gl, 2, none⟩ = some (.string sZ)) (by kernel_rfl) ⟨l0, l1, l2⟩ (fun hH => ?_)
          refine wpAnyH_take (i := 0) (oi := ({ dst := some 37, op := Op.fieldAddr 32 (Operand.tmp 5) 1, type := 0, pos := "l04_diagrams.go:265", after := #[], guard := none } : Oper)) (v := ?v1) rfl (by kernel_rfl) (by kernel_rfl) (by kernel_rfl) (fun _ _ _ h => h) (Or.inl ⟨by rfl, ?y1⟩) hH ?r1
          case y1 => (intro W hSW; obtain ⟨hs0, hs1, hs2⟩ := hSW; go_simp <;> with_reducible rfl)
          try simp only [Act.put, List.setIfInBounds_toArray, List.set_cons_zero, List.set_cons_succ]
          refine wpAnyH_take (i := 2) (oi := ({ dst := some 39, op := Op.move (Operand.tmp 7), type := 56, pos := "l04_diagrams.go:265", after := #[], guard := none } : Oper)) (v := ?v2) rfl (by kernel_rfl) (by kernel_rfl) (by kernel_rfl) (fun _ _ _ h => h) (Or.inl ⟨by rfl, ?y2⟩) hH ?r2
          case y2 => (intro W hSW; obtain ⟨hs0, hs1, hs2⟩ := hSW; go_simp <;> with_reducible rfl)
          try simp only [Act.put, List.setIfInBounds_toArray, List.set_cons_zero, List.set_cons_succ]
          refine wpAnyH_take (i := 3) (oi := ({ dst := some 40, op := Op.indexAddr 56 (Operand.tmp 39) (Operand.const (Value.int IntKind.i64 0)), type := 0, pos := "l04_diagrams.go:265", after := #[{ on := 2, ground := Ground.data }], guard := none } : Oper)) (v := ?v3) rfl (by kernel_rfl) (by kernel_rfl) (by kernel_rfl) (fun _ _ _ h => h) (Or.inl ⟨by rfl, ?y3⟩) hH ?r3
          case y3 => (intro W hSW; obtain ⟨hs0, hs1, hs2⟩ := hSW; go_simp <;> with_reducible rfl)
          try simp only [Act.put, List.setIfInBounds_toArray, List.set_cons_zero, List.set_cons_succ]
          refine wpAnyH_take (i := 4) (oi := ({ dst := some 41, op := Op.load 9 (Operand.tmp 40), type := 9, pos := "l04_diagrams.go:265", after := #[{ on := 3, ground := Ground.data }], guard := none } : Oper)) (v := ?v4) rfl (by kernel_rfl) (by kernel_rfl) (by kernel_rfl) (fun _ _ _ h => h) (Or.inl ⟨by rfl, ?y4⟩) hH ?r4
          case y4 => (intro W hSW; obtain ⟨hs0, hs1, hs2⟩ := hSW; go_simp <;> with_reducible rfl)
          try simp only [Act.put, List.setIfInBounds_toArray, List.set_cons_zero, List.set_cons_succ]
          refine wpAnyH_take (i := 6) (oi := ({ dst := some 43, op := Op.move (Operand.tmp 7), type := 56, pos := "l04_diagrams.go:265", after := #[], guard := none } : Oper)) (v := ?v5) rfl (by kernel_rfl) (by kernel_rfl) (by kernel_rfl) (fun _ _ _ h => h) (Or.inl ⟨by rfl, ?y5⟩) hH ?r5
          case y5 => (intro W hSW; obtain ⟨hs0, hs1, hs2⟩ := hSW; go_simp <;> with_reducible rfl)
          try simp only [Act.put, List.setIfInBounds_toArray, List.set_cons_zero, List.set_cons_succ]
          refine wpAnyH_take (i := 7) (oi := ({ dst := some 44, op := Op.indexAddr 56 (Operand.tmp 43) (Operand.const (Value.int IntKind.i64 1)), type := 0, pos := "l04_diagrams.go:265", after := #[{ on := 6, ground := Ground.data }], guard := none } : Oper)) (v := ?v6) rfl (by kernel_rfl) (by kernel_rfl) (by kernel_rfl) (fun _ _ _ h => h) (Or.inl ⟨by rfl, ?y6⟩) hH ?r6
          case y6 => (intro W hSW; obtain ⟨hs0, hs1, hs2⟩ := hSW; go_simp <;> with_reducible rfl)
          try simp only [Act.put, List.setIfInBounds_toArray, List.set_cons_zero, List.set_cons_succ]
          refine wpAnyH_take (i := 8) (oi := ({ dst := some 45, op := Op.load 9 (Operand.tmp 44), type := 9, pos := "l04_diagrams.go:265", after := #[{ on := 7, ground := Ground.data }], guard := none } : Oper)) (v := ?v7) rfl (by kernel_rfl) (by kernel_rfl) (by kernel_rfl) (fun _ _ _ h => h) (Or.inl ⟨by rfl, ?y7⟩) hH ?r7
          case y7 => (intro W hSW; obtain ⟨hs0, hs1, hs2⟩ := hSW; go_simp <;> with_reducible rfl)
          try simp only [Act.put, List.setIfInBounds_toArray, List.set_cons_zero, List.set_cons_succ]
          refine wpAnyH_take (i := 10) (oi := ({ dst := some 47, op := Op.move (Operand.tmp 7), type := 56, pos := "l04_diagrams.go:265", after := #[], guard := none } : Oper)) (v := ?v8) rfl (by kernel_rfl) (by kernel_rfl) (by kernel_rfl) (fun _ _ _ h => h) (Or.inl ⟨by rfl, ?y8⟩) hH ?r8
          case y8 => (intro W hSW; obtain ⟨hs0, hs1, hs2⟩ := hSW; go_simp <;> with_reducible rfl)
          try simp only [Act.put, List.setIfInBounds_toArray, List.set_cons_zero, List.set_cons_succ]
          refine wpAnyH_take (i := 11) (oi := ({ dst := some 48, op := Op.indexAddr 56 (Operand.tmp 47) (Operand.const (Value.int IntKind.i64 2)), type := 0, pos := "l04_diagrams.go:265", after := #[{ on := 10, ground := Ground.data }], guard := none } : Oper)) (v := ?v9) rfl (by kernel_rfl) (by kernel_rfl) (by kernel_rfl) (fun _ _ _ h => h) (Or.inl ⟨by rfl, ?y9⟩) hH ?r9
          case y9 => (intro W hSW; obtain ⟨hs0, hs1, hs2⟩ := hSW; go_simp <;> with_reducible rfl)
          try simp only [Act.put, List.setIfInBounds_toArray, List.set_cons_zero, List.set_cons_succ]
          refine wpAnyH_take (i := 12) (oi := ({ dst := some 49, op := Op.load 9 (Operand.tmp 48), type := 9, pos := "l04_diagrams.go:265", after := #[{ on := 11, ground := Ground.data }], guard := none } : Oper)) (v := ?v10) rfl (by kernel_rfl) (by kernel_rfl) (by kernel_rfl) (fun _ _ _ h => h) (Or.inl ⟨by rfl, ?y10⟩) hH ?r10
          case y10 => (intro W hSW; obtain ⟨hs0, hs1, hs2⟩ := hSW; go_simp <;> with_reducible rfl)
          try simp only [Act.put, List.setIfInBounds_toArray, List.set_cons_zero, List.set_cons_succ]
          refine wpAnyH_ready (rs := [1, 5]) (by kernel_rfl) (by simp) ?_
          refine AllReadyH.cons (o := ({ dst := some 38, op := Op.load 30 (Operand.tmp 37), type := 30, pos := "l04_diagrams.go:265", after := #[{ on := 0, ground := Ground.data }], guard := none } : Oper)) rfl (fun K hK => ?_) (AllReadyH.cons (o := ({ dst := some 42, op := Op.call { callee := Callee.value (Operand.func 30), args := #[Operand.tmp 41], argTypes := #[9] }, type := 2, pos := "l04_diagrams.go:265", after := #[{ on := 4, ground := Ground.data }], guard := none } : Oper)) rfl (fun K hK => ?_) AllReadyH.nil)
          ·
            go_simp
            refine hK.out _ _ ⟨l0, l1, l2⟩ (fun hH => ?_)
            clear hK K
            try simp only [Act.put, List.setIfInBounds_toArray, List.set_cons_zero, List.set_cons_succ]
            refine wpAnyH_ready (rs := [5]) (by kernel_rfl) (by simp) ?_
            refine AllReadyH.cons (o := ({ dst := some 42, op := Op.call { callee := Callee.value (Operand.func 30), args := #[Operand.tmp 41], argTypes := #[9] }, type := 2, pos := "l04_diagrams.go:265", after := #[{ on := 4, ground := Ground.data }], guard := none } : Oper)) rfl (fun K hK => ?_) AllReadyH.nil
            go_simp
            go_at_call 30
            refine (CX.out _).mono ?_
            rintro e wX ⟨rfl, hbX⟩
            have RX := Lib.hid (RgS.call (RgS.dr R0.out) HQ.out hbX)
            obtain ⟨-, dX, -, fX⟩ := RX.out.d.at2
            clear hbX
            try go_wp2_with fail
            refine hK.out _ _ RX.out.l (fun hH => ?_)
            clear hK K
            try simp only [Act.put, List.setIfInBounds_toArray, List.set_cons_zero, List.set_cons_succ]
            refine wpAnyH_ready (rs := [9]) (by kernel_rfl) (by simp) ?_
            refine AllReadyH.cons (o := ({ dst := some 46, op := Op.call { callee := Callee.value (Operand.func 30), args := #[Operand.tmp 45], argTypes := #[9] }, type := 2, pos := "l04_diagrams.go:265", after := #[{ on := 8, ground := Ground.data }, { on := 5, ground := Ground.chain }], guard := none } : Oper)) rfl (fun K hK => ?_) AllReadyH.nil
            go_simp
            go_at_call 30
            refine (CY.out _).mono ?_
            rintro e wY ⟨rfl, hbY⟩
            have RY := Lib.hid (RgS.call (RX.out) HQ.out hbY)
            obtain ⟨-, dY, -, fY⟩ := RY.out.d.at2
            clear hbY
            try go_wp2_with fail
            refine hK.out _ _ RY.out.l (fun hH => ?_)
            clear hK K
            try simp only [Act.put, List.setIfInBounds_toArray, List.set_cons_zero, List.set_cons_succ]
            refine wpAnyH_ready (rs := [13]) (by kernel_rfl) (by simp) ?_
            refine AllReadyH.cons (o := ({ dst := some 50, op := Op.call { callee := Callee.value (Operand.func 30), args := #[Operand.tmp 49], argTypes := #[9] }, type := 2, pos := "l04_diagrams.go:265", after := #[{ on := 12, ground := Ground.data }, { on := 9, ground := Ground.chain }], guard := none } : Oper)) rfl (fun K hK => ?_) AllReadyH.nil
            go_simp
            go_at_call 30
            refine (CZ.out _).mono ?_
            rintro e wZ ⟨rfl, hbZ⟩
            have RZ := Lib.hid (RgS.call (RY.out) HQ.out hbZ)
            obtain ⟨-, dZ, -, fZ⟩ := RZ.out.d.at2
            clear hbZ
            try go_wp2_with fail
            refine hK.out _ _ RZ.out.l (fun hH => ?_)
            clear hK K
            try simp only [Act.put, List.setIfInBounds_toArray, List.set_cons_zero, List.set_cons_succ]
            refine wpAnyH_take (i := 14) (oi := ({ dst := some 51, op := Op.build 60 #[(0, Operand.tmp 42), (1, Operand.tmp 46), (2, Operand.tmp 50)], type := 60, pos := "l04_diagrams.go:265", after := #[{ on := 5, ground := Ground.data }, { on := 9, ground := Ground.data }, { on := 13, ground := Ground.data }], guard := none } : Oper)) (v := ?v11) rfl (by kernel_rfl) (by kernel_rfl) (by kernel_rfl) (fun _ _ _ h => h) (Or.inl ⟨by rfl, ?y11⟩) hH ?r11
            case y11 => (intro W hSW; obtain ⟨hs0, hs1, hs2⟩ := hSW; go_simp <;> with_reducible rfl)
            try simp only [Act.put, List.setIfInBounds_toArray, List.set_cons_zero, List.set_cons_succ]
            refine wpAnyH_ready (rs := [15]) (by kernel_rfl) (by simp) ?_
            refine AllReadyH.cons (o := ({ dst := some 52, op := Op.buildSlice 30 1 #[(0, Operand.tmp 51)], type := 30, pos := "l04_diagrams.go:265", after := #[{ on := 14, ground := Ground.data }], guard := none } : Oper)) rfl (fun K hK => ?_) AllReadyH.nil
            go_simp
            obtain ⟨-, dA, -, fA⟩ := (RZ.out.d.alloc (.cells #[.int .i64 x, .int .i64 y, .int .i64 z] 60)).at2
            refine hK.out _ _ ⟨cell_allocS RZ.out.l.1, cell_allocS RZ.out.l.2.1, cell_allocS RZ.out.l.2.2⟩ (fun hH => ?_)
            clear hK K
            try simp only [Act.put, List.setIfInBounds_toArray, List.set_cons_zero, List.set_cons_succ]
            refine wpAnyH_ready (rs := [16]) (by kernel_rfl) (by simp) ?_
            refine AllReadyH.cons (o := ({ dst := some 53, op := Op.call { callee := Callee.builtin Builtin.append, args := #[Operand.tmp 38, Operand.tmp 52], argTypes := #[30, 30] }, type := 30, pos := "l04_diagrams.go:265", after := #[{ on := 1, ground := Ground.data }, { on := 15, ground := Ground.data }, { on := 13, ground := Ground.chain }], guard := none } : Oper)) rfl (fun K hK => ?_) AllReadyH.nil
            refine step_append_ownD _ (by rfl) _ _ _ (by rfl) w2.heap.size 60 i1 (.agg #[.int .i64 0, .int .i64 0, .int .i64 0]) 3 24 Tryd.underlying30 ji jz0 jz1 jz2 rfl (by decide) _ _ _ (by rfl) (World.ownsRow.alloc RZ.out.c.2 _) ⟨wZ.heap.size, 0, none⟩ 1 1 [.int .i64 x, .int .i64 y, .int .i64 z] (by rfl) rfl (cell_threeS wZ _ _ _ _) (by simp [Value.oneCell']) (by unfold maxLen; omega) (by omega) (by have := RZ.out.s; simp; omega) ?_
            intro v8 w8 hown8 hgrow8
            have R8 := Lib.hid (HAPP.out _ _ _ _ RZ.out hown8 hgrow8)
            obtain ⟨va8, vc8, rfl, -, -⟩ := R8.out.c.form
            obtain ⟨-, d8, -, f8⟩ := R8.out.d.at2
            clear hown8 hgrow8
            refine hK.out _ _ R8.out.l (fun hH => ?_)
            clear hK K
            try simp only [Act.put, List.setIfInBounds_toArray, List.set_cons_zero, List.set_cons_succ]
            refine wpAnyH_take (i := 17) (oi := ({ dst := some 54, op := Op.fieldAddr 32 (Operand.tmp 5) 1, type := 0, pos := "l04_diagrams.go:265", after := #[{ on := 0, ground := Ground.phase }, { on := 1, ground := Ground.phase }, { on := 2, ground := Ground.phase }, { on := 3, ground := Ground.phase }, { on := 4, ground := Ground.phase }, { on := 5, ground := Ground.phase }, { on := 6, ground := Ground.phase }, { on := 7, ground := Ground.phase }, { on := 8, ground := Ground.phase }, { on := 9, ground := Ground.phase }, { on := 10, ground := Ground.phase }, { on := 11, ground := Ground.phase }, { on := 12, ground := Ground.phase }, { on := 13, ground := Ground.phase }, { on := 14, ground := Ground.phase }, { on := 15, ground := Ground.phase }, { on := 16, ground := Ground.phase }], guard := none } : Oper)) (v := ?v12) rfl (by kernel_rfl) (by kernel_rfl) (by kernel_rfl) (fun _ _ _ h => h) (Or.inl ⟨by rfl, ?y12⟩) hH ?r12
            case y12 => (intro W hSW; obtain ⟨hs0, hs1, hs2⟩ := hSW; go_simp <;> with_reducible rfl)
            try simp only [Act.put, List.setIfInBounds_toArray, List.set_cons_zero, List.set_cons_succ]
            refine wpAnyH_ready (rs := [18]) (by kernel_rfl) (by simp) ?_
            refine AllReadyH.cons (o := ({ dst := none, op := Op.store 30 (Operand.tmp 54) (Operand.tmp 53), type := 0, pos := "l04_diagrams.go:265", after := #[{ on := 17, ground := Ground.data }, { on := 16, ground := Ground.data }, { on := 16, ground := Ground.chain }, { on := 0, ground := Ground.phase }, { on := 1, ground := Ground.phase }, { on := 2, ground := Ground.phase }, { on := 3, ground := Ground.phase }, { on := 4, ground := Ground.phase }, { on := 5, ground := Ground.phase }, { on := 6, ground := Ground.phase }, { on := 7, ground := Ground.phase }, { on := 8, ground := Ground.phase }, { on := 9, ground := Ground.phase }, { on := 10, ground := Ground.phase }, { on := 11, ground := Ground.phase }, { on := 12, ground := Ground.phase }, { on := 13, ground := Ground.phase }, { on := 14, ground := Ground.phase }, { on := 15, ground := Ground.phase }, { on := 16, ground := Ground.phase }], guard := none } : Oper)) rfl (fun K hK => ?_) AllReadyH.nil
            go_simp
            refine hK.out _ _ ⟨cell_setS (Ne.symm HGQ.out) R8.out.l.1, cell_setS (Ne.symm HGQ.out) R8.out.l.2.1, cell_setS (Ne.symm HGQ.out) R8.out.l.2.2⟩ (fun hH => ?_)
            clear hK K
            try simp only [Act.put, List.setIfInBounds_toArray, List.set_cons_zero, List.set_cons_succ]
            refine wpAnyH_done (by kernel_rfl) ?_ _
            go_wp2
            go_roundw
            case rel =>
              refine ⟨k + 1, _, by omega, by go_num, R8.out.d.set1 _, ?_, ?_, ?_, ?_, ?_⟩
              · rw [Hid, HNX.out]; exact recs_setN R8.out.c (D2.ne_row R8.out.d R8.out.c) 1 _
              · exact R8.out.b.setCell (show w.heap.size ≤ w2.heap.size + 1 from by have := HB2.out.size; omega) _
              · exact R8.out.r.set_ne (by have := HB2.out.size; omega) _ _
              · exact (Below.heap_setCell _ _ _ gp (show gp ≠ w2.heap.size + 1 from by have := HQ.out; omega)).trans R8.out.t
              · rw [Hid, HZ3.out]; simpa using R8.out.s
            case measure => simp [intOf]; omega
          ·
            go_simp
            go_at_call 30
            refine (CX.out _).mono ?_
            rintro e wX ⟨rfl, hbX⟩
            have RX := Lib.hid (RgS.call (RgS.dr R0.out) HQ.out hbX)
            obtain ⟨-, dX, -, fX⟩ := RX.out.d.at2
            clear hbX
            try go_wp2_with fail
            refine hK.out _ _ RX.out.l (fun hH => ?_)
            clear hK K
            try simp only [Act.put, List.setIfInBounds_toArray, List.set_cons_zero, List.set_cons_succ]
            refine wpAnyH_ready (rs := [1, 9]) (by kernel_rfl) (by simp) ?_
            refine AllReadyH.cons (o := ({ dst := some 38, op := Op.load 30 (Operand.tmp 37), type := 30, pos := "l04_diagrams.go:265", after := #[{ on := 0, ground := Ground.data }], guard := none } : Oper)) rfl (fun K hK => ?_) (AllReadyH.cons (o := ({ dst := some 46, op := Op.call { callee := Callee.value (Operand.func 30), args := #[Operand.tmp 45], argTypes := #[9] }, type := 2, pos := "l04_diagrams.go:265", after := #[{ on := 8, ground := Ground.data }, { on := 5, ground := Ground.chain }], guard := none } : Oper)) rfl (fun K hK => ?_) AllReadyH.nil)
            ·
              go_simp
              refine hK.out _ _ RX.out.l (fun hH => ?_)
              clear hK K
              try simp only [Act.put, List.setIfInBounds_toArray, List.set_cons_zero, List.set_cons_succ]
              refine wpAnyH_ready (rs := [9]) (by kernel_rfl) (by simp) ?_
              refine AllReadyH.cons (o := ({ dst := some 46, op := Op.call { callee := Callee.value (Operand.func 30), args := #[Operand.tmp 45], argTypes := #[9] }, type := 2, pos := "l04_diagrams.go:265", after := #[{ on := 8, ground := Ground.data }, { on := 5, ground := Ground.chain }], guard := none } : Oper)) rfl (fun K hK => ?_) AllReadyH.nil
              go_simp
              go_at_call 30
              refine (CY.out _).mono ?_
              rintro e wY ⟨rfl, hbY⟩
              have RY := Lib.hid (RgS.call (RX.out) HQ.out hbY)
              obtain ⟨-, dY, -, fY⟩ := RY.out.d.at2
              clear hbY
              try go_wp2_with fail
              refine hK.out _ _ RY.out.l (fun hH => ?_)
              clear hK K
              try simp only [Act.put, List.setIfInBounds_toArray, List.set_cons_zero, List.set_cons_succ]
              refine wpAnyH_ready (rs := [13]) (by kernel_rfl) (by simp) ?_
              refine AllReadyH.cons (o := ({ dst := some 50, op := Op.call { callee := Callee.value (Operand.func 30), args := #[Operand.tmp 49], argTypes := #[9] }, type := 2, pos := "l04_diagrams.go:265", after := #[{ on := 12, ground := Ground.data }, { on := 9, ground := Ground.chain }], guard := none } : Oper)) rfl (fun K hK => ?_) AllReadyH.nil
              go_simp
              go_at_call 30
              refine (CZ.out _).mono ?_
              rintro e wZ ⟨rfl, hbZ⟩
              have RZ := Lib.hid (RgS.call (RY.out) HQ.out hbZ)
              obtain ⟨-, dZ, -, fZ⟩ := RZ.out.d.at2
              clear hbZ
              try go_wp2_with fail
              refine hK.out _ _ RZ.out.l (fun hH => ?_)
              clear hK K
              try simp only [Act.put, List.setIfInBounds_toArray, List.set_cons_zero, List.set_cons_succ]
              refine wpAnyH_take (i := 14) (oi := ({ dst := some 51, op := Op.build 60 #[(0, Operand.tmp 42), (1, Operand.tmp 46), (2, Operand.tmp 50)], type := 60, pos := "l04_diagrams.go:265", after := #[{ on := 5, ground := Ground.data }, { on := 9, ground := Ground.data }, { on := 13, ground := Ground.data }], guard := none } : Oper)) (v := ?v13) rfl (by kernel_rfl) (by kernel_rfl) (by kernel_rfl) (fun _ _ _ h => h) (Or.inl ⟨by rfl, ?y13⟩) hH ?r13
              case y13 => (intro W hSW; obtain ⟨hs0, hs1, hs2⟩ := hSW; go_simp <;> with_reducible rfl)
              try simp only [Act.put, List.setIfInBounds_toArray, List.set_cons_zero, List.set_cons_succ]
              refine wpAnyH_ready (rs := [15]) (by kernel_rfl) (by simp) ?_
              refine AllReadyH.cons (o := ({ dst := some 52, op := Op.buildSlice 30 1 #[(0, Operand.tmp 51)], type := 30, pos := "l04_diagrams.go:265", after := #[{ on := 14, ground := Ground.data }], guard := none } : Oper)) rfl (fun K hK => ?_) AllReadyH.nil
              go_simp
              obtain ⟨-, dA, -, fA⟩ := (RZ.out.d.alloc (.cells #[.int .i64 x, .int .i64 y, .int .i64 z] 60)).at2
              refine hK.out _ _ ⟨cell_allocS RZ.out.l.1, cell_allocS RZ.out.l.2.1, cell_allocS RZ.out.l.2.2⟩ (fun hH => ?_)
              clear hK K
              try simp only [Act.put, List.setIfInBounds_toArray, List.set_cons_zero, List.set_cons_succ]
              refine wpAnyH_ready (rs := [16]) (by kernel_rfl) (by simp) ?_
              refine AllReadyH.cons (o := ({ dst := some 53, op := Op.call { callee := Callee.builtin Builtin.append, args := #[Operand.tmp 38, Operand.tmp 52], argTypes := #[30, 30] }, type := 30, pos := "l04_diagrams.go:265", after := #[{ on := 1, ground := Ground.data }, { on := 15, ground := Ground.data }, { on := 13, ground := Ground.chain }], guard := none } : Oper)) rfl (fun K hK => ?_) AllReadyH.nil
              refine step_append_ownD _ (by rfl) _ _ _ (by rfl) w2.heap.size 60 i1 (.agg #[.int .i64 0, .int .i64 0, .int .i64 0]) 3 24 Tryd.underlying30 ji jz0 jz1 jz2 rfl (by decide) _ _ _ (by rfl) (World.ownsRow.alloc RZ.out.c.2 _) ⟨wZ.heap.size, 0, none⟩ 1 1 [.int .i64 x, .int .i64 y, .int .i64 z] (by rfl) rfl (cell_threeS wZ _ _ _ _) (by simp [Value.oneCell']) (by unfold maxLen; omega) (by omega) (by have := RZ.out.s; simp; omega) ?_
              intro v8 w8 hown8 hgrow8
              have R8 := Lib.hid (HAPP.out _ _ _ _ RZ.out hown8 hgrow8)
              obtain ⟨va8, vc8, rfl, -, -⟩ := R8.out.c.form
              obtain ⟨-, d8, -, f8⟩ := R8.out.d.at2
              clear hown8 hgrow8
              refine hK.out _ _ R8.out.l (fun hH => ?_)
              clear hK K
              try simp only [Act.put, List.setIfInBounds_toArray, List.set_cons_zero, List.set_cons_succ]
              refine wpAnyH_take (i := 17) (oi := ({ dst := some 54, op := Op.fieldAddr 32 (Operand.tmp 5) 1, type := 0, pos := "l04_diagrams.go:265", after := #[{ on := 0, ground := Ground.phase }, { on := 1, ground := Ground.phase }, { on := 2, ground := Ground.phase }, { on := 3, ground := Ground.phase }, { on := 4, ground := Ground.phase }, { on := 5, ground := Ground.phase }, { on := 6, ground := Ground.phase }, { on := 7, ground := Ground.phase }, { on := 8, ground := Ground.phase }, { on := 9, ground := Ground.phase }, { on := 10, ground := Ground.phase }, { on := 11, ground := Ground.phase }, { on := 12, ground := Ground.phase }, { on := 13, ground := Ground.phase }, { on := 14, ground := Ground.phase }, { on := 15, ground := Ground.phase }, { on := 16, ground := Ground.phase }], guard := none } : Oper)) (v := ?v14) rfl (by kernel_rfl) (by kernel_rfl) (by kernel_rfl) (fun _ _ _ h => h) (Or.inl ⟨by rfl, ?y14⟩) hH ?r14
              case y14 => (intro W hSW; obtain ⟨hs0, hs1, hs2⟩ := hSW; go_simp <;> with_reducible rfl)
              try simp only [Act.put, List.setIfInBounds_toArray, List.set_cons_zero, List.set_cons_succ]
              refine wpAnyH_ready (rs := [18]) (by kernel_rfl) (by simp) ?_
              refine AllReadyH.cons (o := ({ dst := none, op := Op.store 30 (Operand.tmp 54) (Operand.tmp 53), type := 0, pos := "l04_diagrams.go:265", after := #[{ on := 17, ground := Ground.data }, { on := 16, ground := Ground.data }, { on := 16, ground := Ground.chain }, { on := 0, ground := Ground.phase }, { on := 1, ground := Ground.phase }, { on := 2, ground := Ground.phase }, { on := 3, ground := Ground.phase }, { on := 4, ground := Ground.phase }, { on := 5, ground := Ground.phase }, { on := 6, ground := Ground.phase }, { on := 7, ground := Ground.phase }, { on := 8, ground := Ground.phase }, { on := 9, ground := Ground.phase }, { on := 10, ground := Ground.phase }, { on := 11, ground := Ground.phase }, { on := 12, ground := Ground.phase }, { on := 13, ground := Ground.phase }, { on := 14, ground := Ground.phase }, { on := 15, ground := Ground.phase }, { on := 16, ground := Ground.phase }], guard := none } : Oper)) rfl (fun K hK => ?_) AllReadyH.nil
              go_simp
              refine hK.out _ _ ⟨cell_setS (Ne.symm HGQ.out) R8.out.l.1, cell_setS (Ne.symm HGQ.out) R8.out.l.2.1, cell_setS (Ne.symm HGQ.out) R8.out.l.2.2⟩ (fun hH => ?_)
              clear hK K
              try simp only [Act.put, List.setIfInBounds_toArray, List.set_cons_zero, List.set_cons_succ]
              refine wpAnyH_done (by kernel_rfl) ?_ _
              go_wp2
              go_roundw
              case rel =>
                refine ⟨k + 1, _, by omega, by go_num, R8.out.d.set1 _, ?_, ?_, ?_, ?_, ?_⟩
                · rw [Hid, HNX.out]; exact recs_setN R8.out.c (D2.ne_row R8.out.d R8.out.c) 1 _
                · exact R8.out.b.setCell (show w.heap.size ≤ w2.heap.size + 1 from by have := HB2.out.size; omega) _
                · exact R8.out.r.set_ne (by have := HB2.out.size; omega) _ _
                · exact (Below.heap_setCell _ _ _ gp (show gp ≠ w2.heap.size + 1 from by have := HQ.out; omega)).trans R8.out.t
                · rw [Hid, HZ3.out]; simpa using R8.out.s
              case measure => simp [intOf]; omega
            ·
              go_simp
              go_at_call 30
              refine (CY.out _).mono ?_
              rintro e wY ⟨rfl, hbY⟩
              have RY := Lib.hid (RgS.call (RX.out) HQ.out hbY)
              obtain ⟨-, dY, -, fY⟩ := RY.out.d.at2
              clear hbY
              try go_wp2_with fail
              refine hK.out _ _ RY.out.l (fun hH => ?_)
              clear hK K
              try simp only [Act.put, List.setIfInBounds_toArray, List.set_cons_zero, List.set_cons_succ]
              refine wpAnyH_ready (rs := [1, 13]) (by kernel_rfl) (by simp) ?_
              refine AllReadyH.cons (o := ({ dst := some 38, op := Op.load 30 (Operand.tmp 37), type := 30, pos := "l04_diagrams.go:265", after := #[{ on := 0, ground := Ground.data }], guard := none } : Oper)) rfl (fun K hK => ?_) (AllReadyH.cons (o := ({ dst := some 50, op := Op.call { callee := Callee.value (Operand.func 30), args := #[Operand.tmp 49], argTypes := #[9] }, type := 2, pos := "l04_diagrams.go:265", after := #[{ on := 12, ground := Ground.data }, { on := 9, ground := Ground.chain }], guard := none } : Oper)) rfl (fun K hK => ?_) AllReadyH.nil)
              ·
                go_simp
                refine hK.out _ _ RY.out.l (fun hH => ?_)
                clear hK K
                try simp only [Act.put, List.setIfInBounds_toArray, List.set_cons_zero, List.set_cons_succ]
                refine wpAnyH_ready (rs := [13]) (by kernel_rfl) (by simp) ?_
                refine AllReadyH.cons (o := ({ dst := some 50, op := Op.call { callee := Callee.value (Operand.func 30), args := #[Operand.tmp 49], argTypes := #[9] }, type := 2, pos := "l04_diagrams.go:265", after := #[{ on := 12, ground := Ground.data }, { on := 9, ground := Ground.chain }], guard := none } : Oper)) rfl (fun K hK => ?_) AllReadyH.nil
                go_simp
                go_at_call 30
                refine (CZ.out _).mono ?_
                rintro e wZ ⟨rfl, hbZ⟩
                have RZ := Lib.hid (RgS.call (RY.out) HQ.out hbZ)
                obtain ⟨-, dZ, -, fZ⟩ := RZ.out.d.at2
                clear hbZ
                try go_wp2_with fail
                refine hK.out _ _ RZ.out.l (fun hH => ?_)
                clear hK K
                try simp only [Act.put, List.setIfInBounds_toArray, List.set_cons_zero, List.set_cons_succ]
                refine wpAnyH_take (i := 14) (oi := ({ dst := some 51, op := Op.build 60 #[(0, Operand.tmp 42), (1, Operand.tmp 46), (2, Operand.tmp 50)], type := 60, pos := "l04_diagrams.go:265", after := #[{ on := 5, ground := Ground.data }, { on := 9, ground := Ground.data }, { on := 13, ground := Ground.data }], guard := none } : Oper)) (v := ?v15) rfl (by kernel_rfl) (by kernel_rfl) (by kernel_rfl) (fun _ _ _ h => h) (Or.inl ⟨by rfl, ?y15⟩) hH ?r15
                case y15 => (intro W hSW; obtain ⟨hs0, hs1, hs2⟩ := hSW; go_simp <;> with_reducible rfl)
                try simp only [Act.put, List.setIfInBounds_toArray, List.set_cons_zero, List.set_cons_succ]
                refine wpAnyH_ready (rs := [15]) (by kernel_rfl) (by simp) ?_
                refine AllReadyH.cons (o := ({ dst := some 52, op := Op.buildSlice 30 1 #[(0, Operand.tmp 51)], type := 30, pos := "l04_diagrams.go:265", after := #[{ on := 14, ground := Ground.data }], guard := none } : Oper)) rfl (fun K hK => ?_) AllReadyH.nil
                go_simp
                obtain ⟨-, dA, -, fA⟩ := (RZ.out.d.alloc (.cells #[.int .i64 x, .int .i64 y, .int .i64 z] 60)).at2
                refine hK.out _ _ ⟨cell_allocS RZ.out.l.1, cell_allocS RZ.out.l.2.1, cell_allocS RZ.out.l.2.2⟩ (fun hH => ?_)
                clear hK K
                try simp only [Act.put, List.setIfInBounds_toArray, List.set_cons_zero, List.set_cons_succ]
                refine wpAnyH_ready (rs := [16]) (by kernel_rfl) (by simp) ?_
                refine AllReadyH.cons (o := ({ dst := some 53, op := Op.call { callee := Callee.builtin Builtin.append, args := #[Operand.tmp 38, Operand.tmp 52], argTypes := #[30, 30] }, type := 30, pos := "l04_diagrams.go:265", after := #[{ on := 1, ground := Ground.data }, { on := 15, ground := Ground.data }, { on := 13, ground := Ground.chain }], guard := none } : Oper)) rfl (fun K hK => ?_) AllReadyH.nil
                refine step_append_ownD _ (by rfl) _ _ _ (by rfl) w2.heap.size 60 i1 (.agg #[.int .i64 0, .int .i64 0, .int .i64 0]) 3 24 Tryd.underlying30 ji jz0 jz1 jz2 rfl (by decide) _ _ _ (by rfl) (World.ownsRow.alloc RZ.out.c.2 _) ⟨wZ.heap.size, 0, none⟩ 1 1 [.int .i64 x, .int .i64 y, .int .i64 z] (by rfl) rfl (cell_threeS wZ _ _ _ _) (by simp [Value.oneCell']) (by unfold maxLen; omega) (by omega) (by have := RZ.out.s; simp; omega) ?_
                intro v8 w8 hown8 hgrow8
                have R8 := Lib.hid (HAPP.out _ _ _ _ RZ.out hown8 hgrow8)
                obtain ⟨va8, vc8, rfl, -, -⟩ := R8.out.c.form
                obtain ⟨-, d8, -, f8⟩ := R8.out.d.at2
                clear hown8 hgrow8
                refine hK.out _ _ R8.out.l (fun hH => ?_)
                clear hK K
                try simp only [Act.put, List.setIfInBounds_toArray, List.set_cons_zero, List.set_cons_succ]
                refine wpAnyH_take (i := 17) (oi := ({ dst := some 54, op := Op.fieldAddr 32 (Operand.tmp 5) 1, type := 0, pos := "l04_diagrams.go:265", after := #[{ on := 0, ground := Ground.phase }, { on := 1, ground := Ground.phase }, { on := 2, ground := Ground.phase }, { on := 3, ground := Ground.phase }, { on := 4, ground := Ground.phase }, { on := 5, ground := Ground.phase }, { on := 6, ground := Ground.phase }, { on := 7, ground := Ground.phase }, { on := 8, ground := Ground.phase }, { on := 9, ground := Ground.phase }, { on := 10, ground := Ground.phase }, { on := 11, ground := Ground.phase }, { on := 12, ground := Ground.phase }, { on := 13, ground := Ground.phase }, { on := 14, ground := Ground.phase }, { on := 15, ground := Ground.phase }, { on := 16, ground := Ground.phase }], guard := none } : Oper)) (v := ?v16) rfl (by kernel_rfl) (by kernel_rfl) (by kernel_rfl) (fun _ _ _ h => h) (Or.inl ⟨by rfl, ?y16⟩) hH ?r16
                case y16 => (intro W hSW; obtain ⟨hs0, hs1, hs2⟩ := hSW; go_simp <;> with_reducible rfl)
                try simp only [Act.put, List.setIfInBounds_toArray, List.set_cons_zero, List.set_cons_succ]
                refine wpAnyH_ready (rs := [18]) (by kernel_rfl) (by simp) ?_
                refine AllReadyH.cons (o := ({ dst := none, op := Op.store 30 (Operand.tmp 54) (Operand.tmp 53), type := 0, pos := "l04_diagrams.go:265", after := #[{ on := 17, ground := Ground.data }, { on := 16, ground := Ground.data }, { on := 16, ground := Ground.chain }, { on := 0, ground := Ground.phase }, { on := 1, ground := Ground.phase }, { on := 2, ground := Ground.phase }, { on := 3, ground := Ground.phase }, { on := 4, ground := Ground.phase }, { on := 5, ground := Ground.phase }, { on := 6, ground := Ground.phase }, { on := 7, ground := Ground.phase }, { on := 8, ground := Ground.phase }, { on := 9, ground := Ground.phase }, { on := 10, ground := Ground.phase }, { on := 11, ground := Ground.phase }, { on := 12, ground := Ground.phase }, { on := 13, ground := Ground.phase }, { on := 14, ground := Ground.phase }, { on := 15, ground := Ground.phase }, { on := 16, ground := Ground.phase }], guard := none } : Oper)) rfl (fun K hK => ?_) AllReadyH.nil
                go_simp
                refine hK.out _ _ ⟨cell_setS (Ne.symm HGQ.out) R8.out.l.1, cell_setS (Ne.symm HGQ.out) R8.out.l.2.1, cell_setS (Ne.symm HGQ.out) R8.out.l.2.2⟩ (fun hH => ?_)
                clear hK K
                try simp only [Act.put, List.setIfInBounds_toArray, List.set_cons_zero, List.set_cons_succ]
                refine wpAnyH_done (by kernel_rfl) ?_ _
                go_wp2
                go_roundw
                case rel =>
                  refine ⟨k + 1, _, by omega, by go_num, R8.out.d.set1 _, ?_, ?_, ?_, ?_, ?_⟩
                  · rw [Hid, HNX.out]; exact recs_setN R8.out.c (D2.ne_row R8.out.d R8.out.c) 1 _
                  · exact R8.out.b.setCell (show w.heap.size ≤ w2.heap.size + 1 from by have := HB2.out.size; omega) _
                  · exact R8.out.r.set_ne (by have := HB2.out.size; omega) _ _
                  · exact (Below.heap_setCell _ _ _ gp (show gp ≠ w2.heap.size + 1 from by have := HQ.out; omega)).trans R8.out.t
                  · rw [Hid, HZ3.out]; simpa using R8.out.s
                case measure => simp [intOf]; omega
              ·
                go_simp
                go_at_call 30
                refine (CZ.out _).mono ?_
                rintro e wZ ⟨rfl, hbZ⟩
                have RZ := Lib.hid (RgS.call (RY.out) HQ.out hbZ)
                obtain ⟨-, dZ, -, fZ⟩ := RZ.out.d.at2
                clear hbZ
                try go_wp2_with fail
                refine hK.out _ _ RZ.out.l (fun hH => ?_)
                clear hK K
                try simp only [Act.put, List.setIfInBounds_toArray, List.set_cons_zero, List.set_cons_succ]
                refine wpAnyH_take (i := 14) (oi := ({ dst := some 51, op := Op.build 60 #[(0, Operand.tmp 42), (1, Operand.tmp 46), (2, Operand.tmp 50)], type := 60, pos := "l04_diagrams.go:265", after := #[{ on := 5, ground := Ground.data }, { on := 9, ground := Ground.data }, { on := 13, ground := Ground.data }], guard := none } : Oper)) (v := ?v17) rfl (by kernel_rfl) (by kernel_rfl) (by kernel_rfl) (fun _ _ _ h => h) (Or.inl ⟨by rfl, ?y17⟩) hH ?r17
                case y17 => (intro W hSW; obtain ⟨hs0, hs1, hs2⟩ := hSW; go_simp <;> with_reducible rfl)
                try simp only [Act.put, List.setIfInBounds_toArray, List.set_cons_zero, List.set_cons_succ]
                refine wpAnyH_ready (rs := [1, 15]) (by kernel_rfl) (by simp) ?_
                refine AllReadyH.cons (o := ({ dst := some 38, op := Op.load 30 (Operand.tmp 37), type := 30, pos := "l04_diagrams.go:265", after := #[{ on := 0, ground := Ground.data }], guard := none } : Oper)) rfl (fun K hK => ?_) (AllReadyH.cons (o := ({ dst := some 52, op := Op.buildSlice 30 1 #[(0, Operand.tmp 51)], type := 30, pos := "l04_diagrams.go:265", after := #[{ on := 14, ground := Ground.data }], guard := none } : Oper)) rfl (fun K hK => ?_) AllReadyH.nil)
                ·
                  go_simp
                  refine hK.out _ _ RZ.out.l (fun hH => ?_)
                  clear hK K
                  try simp only [Act.put, List.setIfInBounds_toArray, List.set_cons_zero, List.set_cons_succ]
                  refine wpAnyH_ready (rs := [15]) (by kernel_rfl) (by simp) ?_
                  refine AllReadyH.cons (o := ({ dst := some 52, op := Op.buildSlice 30 1 #[(0, Operand.tmp 51)], type := 30, pos := "l04_diagrams.go:265", after := #[{ on := 14, ground := Ground.data }], guard := none } : Oper)) rfl (fun K hK => ?_) AllReadyH.nil
                  go_simp
                  obtain ⟨-, dA, -, fA⟩ := (RZ.out.d.alloc (.cells #[.int .i64 x, .int .i64 y, .int .i64 z] 60)).at2
                  refine hK.out _ _ ⟨cell_allocS RZ.out.l.1, cell_allocS RZ.out.l.2.1, cell_allocS RZ.out.l.2.2⟩ (fun hH => ?_)
                  clear hK K
                  try simp only [Act.put, List.setIfInBounds_toArray, List.set_cons_zero, List.set_cons_succ]
                  refine wpAnyH_ready (rs := [16]) (by kernel_rfl) (by simp) ?_
                  refine AllReadyH.cons (o := ({ dst := some 53, op := Op.call { callee := Callee.builtin Builtin.append, args := #[Operand.tmp 38, Operand.tmp 52], argTypes := #[30, 30] }, type := 30, pos := "l04_diagrams.go:265", after := #[{ on := 1, ground := Ground.data }, { on := 15, ground := Ground.data }, { on := 13, ground := Ground.chain }], guard := none } : Oper)) rfl (fun K hK => ?_) AllReadyH.nil
                  refine step_append_ownD _ (by rfl) _ _ _ (by rfl) w2.heap.size 60 i1 (.agg #[.int .i64 0, .int .i64 0, .int .i64 0]) 3 24 Tryd.underlying30 ji jz0 jz1 jz2 rfl (by decide) _ _ _ (by rfl) (World.ownsRow.alloc RZ.out.c.2 _) ⟨wZ.heap.size, 0, none⟩ 1 1 [.int .i64 x, .int .i64 y, .int .i64 z] (by rfl) rfl (cell_threeS wZ _ _ _ _) (by simp [Value.oneCell']) (by unfold maxLen; omega) (by omega) (by have := RZ.out.s; simp; omega) ?_
                  intro v8 w8 hown8 hgrow8
                  have R8 := Lib.hid (HAPP.out _ _ _ _ RZ.out hown8 hgrow8)
                  obtain ⟨va8, vc8, rfl, -, -⟩ := R8.out.c.form
                  obtain ⟨-, d8, -, f8⟩ := R8.out.d.at2
                  clear hown8 hgrow8
                  refine hK.out _ _ R8.out.l (fun hH => ?_)
                  clear hK K
                  try simp only [Act.put, List.setIfInBounds_toArray, List.set_cons_zero, List.set_cons_succ]
                  refine wpAnyH_take (i := 17) (oi := ({ dst := some 54, op := Op.fieldAddr 32 (Operand.tmp 5) 1, type := 0, pos := "l04_diagrams.go:265", after := #[{ on := 0, ground := Ground.phase }, { on := 1, ground := Ground.phase }, { on := 2, ground := Ground.phase }, { on := 3, ground := Ground.phase }, { on := 4, ground := Ground.phase }, { on := 5, ground := Ground.phase }, { on := 6, ground := Ground.phase }, { on := 7, ground := Ground.phase }, { on := 8, ground := Ground.phase }, { on := 9, ground := Ground.phase }, { on := 10, ground := Ground.phase }, { on := 11, ground := Ground.phase }, { on := 12, ground := Ground.phase }, { on := 13, ground := Ground.phase }, { on := 14, ground := Ground.phase }, { on := 15, ground := Ground.phase }, { on := 16, ground := Ground.phase }], guard := none } : Oper)) (v := ?v18) rfl (by kernel_rfl) (by kernel_rfl) (by kernel_rfl) (fun _ _ _ h => h) (Or.inl ⟨by rfl, ?y18⟩) hH ?r18
                  case y18 => (intro W hSW; obtain ⟨hs0, hs1, hs2⟩ := hSW; go_simp <;> with_reducible rfl)
                  try simp only [Act.put, List.setIfInBounds_toArray, List.set_cons_zero, List.set_cons_succ]
                  refine wpAnyH_ready (rs := [18]) (by kernel_rfl) (by simp) ?_
                  refine AllReadyH.cons (o := ({ dst := none, op := Op.store 30 (Operand.tmp 54) (Operand.tmp 53), type := 0, pos := "l04_diagrams.go:265", after := #[{ on := 17, ground := Ground.data }, { on := 16, ground := Ground.data }, { on := 16, ground := Ground.chain }, { on := 0, ground := Ground.phase }, { on := 1, ground := Ground.phase }, { on := 2, ground := Ground.phase }, { on := 3, ground := Ground.phase }, { on := 4, ground := Ground.phase }, { on := 5, ground := Ground.phase }, { on := 6, ground := Ground.phase }, { on := 7, ground := Ground.phase }, { on := 8, ground := Ground.phase }, { on := 9, ground := Ground.phase }, { on := 10, ground := Ground.phase }, { on := 11, ground := Ground.phase }, { on := 12, ground := Ground.phase }, { on := 13, ground := Ground.phase }, { on := 14, ground := Ground.phase }, { on := 15, ground := Ground.phase }, { on := 16, ground := Ground.phase }], guard := none } : Oper)) rfl (fun K hK => ?_) AllReadyH.nil
                  go_simp
                  refine hK.out _ _ ⟨cell_setS (Ne.symm HGQ.out) R8.out.l.1, cell_setS (Ne.symm HGQ.out) R8.out.l.2.1, cell_setS (Ne.symm HGQ.out) R8.out.l.2.2⟩ (fun hH => ?_)
                  clear hK K
                  try simp only [Act.put, List.setIfInBounds_toArray, List.set_cons_zero, List.set_cons_succ]
                  refine wpAnyH_done (by kernel_rfl) ?_ _
                  go_wp2
                  go_roundw
                  case rel =>
                    refine ⟨k + 1, _, by omega, by go_num, R8.out.d.set1 _, ?_, ?_, ?_, ?_, ?_⟩
                    · rw [Hid, HNX.out]; exact recs_setN R8.out.c (D2.ne_row R8.out.d R8.out.c) 1 _
                    · exact R8.out.b.setCell (show w.heap.size ≤ w2.heap.size + 1 from by have := HB2.out.size; omega) _
                    · exact R8.out.r.set_ne (by have := HB2.out.size; omega) _ _
                    · exact (Below.heap_setCell _ _ _ gp (show gp ≠ w2.heap.size + 1 from by have := HQ.out; omega)).trans R8.out.t
                    · rw [Hid, HZ3.out]; simpa using R8.out.s
                  case measure => simp [intOf]; omega
                ·
                  go_simp
                  obtain ⟨-, dA, -, fA⟩ := (RZ.out.d.alloc (.cells #[.int .i64 x, .int .i64 y, .int .i64 z] 60)).at2
                  refine hK.out _ _ ⟨cell_allocS RZ.out.l.1, cell_allocS RZ.out.l.2.1, cell_allocS RZ.out.l.2.2⟩ (fun hH => ?_)
                  clear hK K
                  try simp only [Act.put, List.setIfInBounds_toArray, List.set_cons_zero, List.set_cons_succ]
                  refine wpAnyH_ready (rs := [1]) (by kernel_rfl) (by simp) ?_
                  refine AllReadyH.cons (o := ({ dst := some 38, op := Op.load 30 (Operand.tmp 37), type := 30, pos := "l04_diagrams.go:265", after := #[{ on := 0, ground := Ground.data }], guard := none } : Oper)) rfl (fun K hK => ?_) AllReadyH.nil
                  go_simp
                  refine hK.out _ _ ⟨cell_allocS RZ.out.l.1, cell_allocS RZ.out.l.2.1, cell_allocS RZ.out.l.2.2⟩ (fun hH => ?_)
                  clear hK K
                  try simp only [Act.put, List.setIfInBounds_toArray, List.set_cons_zero, List.set_cons_succ]
                  refine wpAnyH_ready (rs := [16]) (by kernel_rfl) (by simp) ?_
                  refine AllReadyH.cons (o := ({ dst := some 53, op := Op.call { callee := Callee.builtin Builtin.append, args := #[Operand.tmp 38, Operand.tmp 52], argTypes := #[30, 30] }, type := 30, pos := "l04_diagrams.go:265", after := #[{ on := 1, ground := Ground.data }, { on := 15, ground := Ground.data }, { on := 13, ground := Ground.chain }], guard := none } : Oper)) rfl (fun K hK => ?_) AllReadyH.nil
                  refine step_append_ownD _ (by rfl) _ _ _ (by rfl) w2.heap.size 60 i1 (.agg #[.int .i64 0, .int .i64 0, .int .i64 0]) 3 24 Tryd.underlying30 ji jz0 jz1 jz2 rfl (by decide) _ _ _ (by rfl) (World.ownsRow.alloc RZ.out.c.2 _) ⟨wZ.heap.size, 0, none⟩ 1 1 [.int .i64 x, .int .i64 y, .int .i64 z] (by rfl) rfl (cell_threeS wZ _ _ _ _) (by simp [Value.oneCell']) (by unfold maxLen; omega) (by omega) (by have := RZ.out.s; simp; omega) ?_
                  intro v8 w8 hown8 hgrow8
                  have R8 := Lib.hid (HAPP.out _ _ _ _ RZ.out hown8 hgrow8)
                  obtain ⟨va8, vc8, rfl, -, -⟩ := R8.out.c.form
                  obtain ⟨-, d8, -, f8⟩ := R8.out.d.at2
                  clear hown8 hgrow8
                  refine hK.out _ _ R8.out.l (fun hH => ?_)
                  clear hK K
                  try simp only [Act.put, List.setIfInBounds_toArray, List.set_cons_zero, List.set_cons_succ]
                  refine wpAnyH_take (i := 17) (oi := ({ dst := some 54, op := Op.fieldAddr 32 (Operand.tmp 5) 1, type := 0, pos := "l04_diagrams.go:265", after := #[{ on := 0, ground := Ground.phase }, { on := 1, ground := Ground.phase }, { on := 2, ground := Ground.phase }, { on := 3, ground := Ground.phase }, { on := 4, ground := Ground.phase }, { on := 5, ground := Ground.phase }, { on := 6, ground := Ground.phase }, { on := 7, ground := Ground.phase }, { on := 8, ground := Ground.phase }, { on := 9, ground := Ground.phase }, { on := 10, ground := Ground.phase }, { on := 11, ground := Ground.phase }, { on := 12, ground := Ground.phase }, { on := 13, ground := Ground.phase }, { on := 14, ground := Ground.phase }, { on := 15, ground := Ground.phase }, { on := 16, ground := Ground.phase }], guard := none } : Oper)) (v := ?v19) rfl (by kernel_rfl) (by kernel_rfl) (by kernel_rfl) (fun _ _ _ h => h) (Or.inl ⟨by rfl, ?y19⟩) hH ?r19
                  case y19 => (intro W hSW; obtain ⟨hs0, hs1, hs2⟩ := hSW; go_simp <;> with_reducible rfl)
                  try simp only [Act.put, List.setIfInBounds_toArray, List.set_cons_zero, List.set_cons_succ]
                  refine wpAnyH_ready (rs := [18]) (by kernel_rfl) (by simp) ?_
                  refine AllReadyH.cons (o := ({ dst := none, op := Op.store 30 (Operand.tmp 54) (Operand.tmp 53), type := 0, pos := "l04_diagrams.go:265", after := #[{ on := 17, ground := Ground.data }, { on := 16, ground := Ground.data }, { on := 16, ground := Ground.chain }, { on := 0, ground := Ground.phase }, { on := 1, ground := Ground.phase }, { on := 2, ground := Ground.phase }, { on := 3, ground := Ground.phase }, { on := 4, ground := Ground.phase }, { on := 5, ground := Ground.phase }, { on := 6, ground := Ground.phase }, { on := 7, ground := Ground.phase }, { on := 8, ground := Ground.phase }, { on := 9, ground := Ground.phase }, { on := 10, ground := Ground.phase }, { on := 11, ground := Ground.phase }, { on := 12, ground := Ground.phase }, { on := 13, ground := Ground.phase }, { on := 14, ground := Ground.phase }, { on := 15, ground := Ground.phase }, { on := 16, ground := Ground.phase }], guard := none } : Oper)) rfl (fun K hK => ?_) AllReadyH.nil
                  go_simp
                  refine hK.out _ _ ⟨cell_setS (Ne.symm HGQ.out) R8.out.l.1, cell_setS (Ne.symm HGQ.out) R8.out.l.2.1, cell_setS (Ne.symm HGQ.out) R8.out.l.2.2⟩ (fun hH => ?_)
                  clear hK K
                  try simp only [Act.put, List.setIfInBounds_toArray, List.set_cons_zero, List.set_cons_succ]
                  refine wpAnyH_done (by kernel_rfl) ?_ _
                  go_wp2
                  go_roundw
                  case rel =>
                    refine ⟨k + 1, _, by omega, by go_num, R8.out.d.set1 _, ?_, ?_, ?_, ?_, ?_⟩
                    · rw [Hid, HNX.out]; exact recs_setN R8.out.c (D2.ne_row R8.out.d R8.out.c) 1 _
                    · exact R8.out.b.setCell (show w.heap.size ≤ w2.heap.size + 1 from by have := HB2.out.size; omega) _
                    · exact R8.out.r.set_ne (by have := HB2.out.size; omega) _ _
                    · exact (Below.heap_setCell _ _ _ gp (show gp ≠ w2.heap.size + 1 from by have := HQ.out; omega)).trans R8.out.t
                    · rw [Hid, HZ3.out]; simpa using R8.out.s
                  case measure => simp [intOf]; omega
    · obtain rfl : k = r.length := by omega
      have hRCv := HRC.out
      rw [List.take_length] at hRCv
      obtain ⟨F, hF⟩ : ∃ F, fl3 (r.map t3) = F := ⟨_, rfl⟩
      rw [hF] at hRCv
      have hMD := dgA_md HPP.out
      rw [hF, HEV.out, size_toList] at hMD
      have HMD := Lib.hid hMD
      have HRV := Lib.hid hRCv
      have HL3 := Lib.hid hF
      have HVD := Lib.hid (l04Is_any (w2.heap.size + 1) w2.heap.size ev va r.length vc F wr HDD.out.at2 hRCv (by omega))
      have hki : ¬ ((r.length + 1 : Nat) : Int) < ((r.length + 1 : Nat) : Int) := by omega
      clear hMD hF hRCv
      cases hv : diaB ev r.length F with
      | false =>
        have HNO : Hid (dgA s.data.toList = none) := HMD.out.2 (fun q => by rw [hv] at q; cases q.2.1)
        rw [hv] at HVD
        clear hv
        go_wp2_with fail
        refine HVD.out.mono ?_; rintro e w5 ⟨rfl, hb5⟩
        have HB5 := Lib.hid (HBW.out.trans (hb5.mono HBW.out.size))
        have HR5 := Lib.hid (HRR.out.below hb5 HRR.out.lt)
        obtain ⟨c0, c1, f0, f1⟩ := HR5.out
        have HF := Lib.hid ((HR5.out.set0 (.int .i64 0)).set1 (.slice none 0 0))
        obtain ⟨z0, z1, -, -⟩ := HF.out
        clear hb5
        go_wp2
        refine bodyPost_ret (v := .tuple #[.agg #[.int .i64 0, .slice none 0 0], .bool false]) (by simp [results, Tryd.results13, go_sem, c0, c1, z0, z1]) rfl ⟨none, 0, ?_, ?_, ?_⟩
        · unfold ansE ansL; rw [HNO.out]; rfl
        · unfold ansL; rw [HNO.out]; exact ⟨rfl, World.ownsRow_nil _ _ _ _⟩
        · first | exact (HB5.out.setCell (Nat.le_refl _) _).setCell (Nat.le_refl _) _ | exact HB5.out
      | true =>
        have HV := Lib.hid hv
        rw [hv] at HVD
        clear hv
        go_wp2_with fail
        refine HVD.out.mono ?_; rintro e w5 ⟨rfl, hb5⟩
        have HB5 := Lib.hid (HBW.out.trans (hb5.mono HBW.out.size))
        have HR5 := Lib.hid (HRR.out.below hb5 HRR.out.lt)
        have HD5 := Lib.hid (HDD.out.below hb5)
        have HC5 : Hid (Recs w5 w2.heap.size (.slice va r.length vc) r.length F) := HRV.out.keep hb5 (Nat.le_refl _)
        have HT := Lib.hid (specDTx (w2.heap.size + 1) w2.heap.size ev va r.length vc F w5 HD5.out.at2 HC5.out HV.out (HD.out.on HB5.out))
        obtain ⟨tx, htx⟩ : ∃ q : ByteArray, (⟨(dtL ev F r.length).toArray⟩ : ByteArray) = q := ⟨_, rfl⟩
        rw [htx] at HT
        have HTX := Lib.hid htx
        clear hb5 htx
        go_wp2_with fail
        refine HT.out.mono ?_; rintro e w6 ⟨rfl, hb6⟩
        have HB6 := Lib.hid (HB5.out.trans (hb6.mono HB5.out.size))
        have HR6 := Lib.hid (HR5.out.below hb6 HR5.out.lt)
        have HD6 := Lib.hid (HD5.out.below hb6)
        have HC6 : Hid (Recs w6 w2.heap.size (.slice va r.length vc) r.length F) := HC5.out.keep hb6 (Nat.le_refl _)
        obtain ⟨c0, c1, f0, f1⟩ := HR6.out
        obtain ⟨d0, d1, g0, g1⟩ := HD6.out.at2
        clear hb6
        by_cases hts : tx = s
        · have HYE : Hid (dgA s.data.toList = some (ev, r.map t3)) := HMD.out.1 ⟨hs, HV.out, by rw [← hts, ← HTX.out]⟩
          subst tx
          have HF := Lib.hid ((HR6.out.set0 (.int .i64 ev)).set1 (.slice va r.length vc))
          obtain ⟨z0, z1, -, -⟩ := HF.out
          go_wp2
          refine bodyPost_ret (v := .tuple #[.agg #[.int .i64 ev, .slice va r.length vc], .bool true]) (by simp [results, Tryd.results13, go_sem, c0, c1, z0, z1]) rfl ⟨va, vc, ?_, ?_, ?_⟩
          · unfold ansE ansL; rw [HYE.out]; simp
          · have hq9 : w.heap.size < w2.heap.size := by have := HQ.out; have := HGP.out; omega
            have h1 := recs_setD (recs_setD HC6.out (g := w.heap.size) hq9 0 (.int .i64 ev)) (g := w.heap.size) hq9 1 (.slice va r.length vc)
            have h2 := h1.weak (C := w.heap.size) (Nat.le_of_lt hq9)
            unfold ansL
            rw [HYE.out]
            simp only [Option.map_some, Option.getD_some, List.length_map]
            rw [HL3.out]
            exact h2
          · exact (HB6.out.setCell (Nat.le_refl _) _).setCell (Nat.le_refl _) _
        · have HNO : Hid (dgA s.data.toList = none) := HMD.out.2 (fun q => hts (by rw [← HTX.out, q.2.2]))
          have htb := str_ne' hts
          have HF := Lib.hid ((HR6.out.set0 (.int .i64 0)).set1 (.slice none 0 0))
          obtain ⟨z0, z1, -, -⟩ := HF.out
          go_wp2
          refine bodyPost_ret (v := .tuple #[.agg #[.int .i64 0, .slice none 0 0], .bool false]) (by simp [results, Tryd.results13, go_sem, c0, c1, z0, z1]) rfl ⟨none, 0, ?_, ?_, ?_⟩
          · unfold ansE ansL; rw [HNO.out]; rfl
          · unfold ansL; rw [HNO.out]; exact ⟨rfl, World.ownsRow_nil _ _ _ _⟩
          · first | exact (HB6.out.setCell (Nat.le_refl _) _).setCell (Nat.le_refl _) _ | exact HB6.out
end Go.Proofs.YtemjohkieehojaaDoor
