/- A diagram out of a text: the program's side. -/
import Derived.Test.YtemjohkieehojaaDoorRdC
import Derived.Test.YtemjohkieehojaaDoorRdD
import Derived.Test.YtemjohkieehojaaDoorDiaIs
import Derived.Deep.RegionWith
namespace Go.Proofs.YtemjohkieehojaaDoor
open Go.RowKit
set_option linter.unusedVariables false
set_option linter.unusedSimpArgs false
theorem cell_threeD (w : World) (x y z : Value) (t : TypeId) : ∀ (j : Nat) u, [x, y, z][j]? = some u → (w.alloc (.cells #[x, y, z] t)).cell? ((⟨w.heap.size, 0, none⟩ : Addr).add j) = some u := by
  intro j u h
  match j with
  | 0 => simp at h; subst h; simp [Addr.add, go_sem]
  | 1 => simp at h; subst h; simp [Addr.add, go_sem]
  | 2 => simp at h; subst h; simp [Addr.add, go_sem]
  | j + 3 => simp at h
theorem allO_snoc (r : List (List UInt8)) (k : Nat) (h : k < r.length) : allO (r.take (k + 1)) = (allO (r.take k) && (dotO r[k]).isSome) := by
  unfold allO
  rw [List.take_succ_eq_append_getElem h, List.all_append]; simp
theorem fl3_next (r : List (List UInt8)) (k : Nat) (h : k < r.length) : fl3 ((r.take (k + 1)).map d3) = fl3 ((r.take k).map d3) ++ [(d3 r[k]).1, (d3 r[k]).2.1, (d3 r[k]).2.2] := by
  rw [List.take_succ_eq_append_getElem h, List.map_append, List.map_singleton, fl3_snoc]
set_option maxHeartbeats 2000000 in
set_option maxRecDepth 100000 in
theorem implRd (s : ByteArray) (w : World) (hs : s.size ≤ 1048576) (hd : DoorE w) (mx : Int) (hmx : w.cell? ⟨0, 0, none⟩ = some (.int .i64 mx)) :
    Calls Tryd.prog 14 #[.string s] w (RdR s w) := by
  have h0 := World.block_lt_of_cell? w _ hmx
  obtain ⟨i1, ji, jz0, jz1, jz2⟩ := info_parts info_rec
  have HM : Hid (∀ W, Below w.heap.size w W → W.cell? ⟨0, 0, none⟩ = some (.int .i64 mx)) := fun W hW => (hW.cell (p := ⟨0, 0, none⟩) h0).trans hmx
  have HD := Lib.hid hd
  have HSP := Lib.hid (fun W => splitN_one 44 24 (by omega) s mx W hs)
  have hdg := fun h r => @dg_spl s.data.toList h r
  have hmem := spl_mem 44 24 s.data.toList
  have hsl := spl_len 44 24 s.data.toList
  obtain ⟨L, hL⟩ : ∃ L, spl 44 24 s.data.toList = L := ⟨_, rfl⟩
  rw [hL] at HSP hdg hmem hsl
  rw [size_toList] at hmem
  obtain ⟨t0, r, rfl⟩ : ∃ t0 r, L = t0 :: r := by
    cases L with
    | nil => simp at hsl
    | cons a b => exact ⟨a, b, rfl⟩
  have HDG := Lib.hid (hdg t0 r rfl)
  have HMEM := Lib.hid hmem
  have hrl : r.length ≤ 24 := by have := hsl.2; simp at this; omega
  have hz0 : (⟨t0.toArray⟩ : ByteArray).size ≤ 1048576 := by rw [← size_toList]; have := hmem t0 (by simp); simpa using (by omega : t0.length ≤ 1048576)
  have HSZ : Hid (∀ k (h : k < r.length), (⟨r[k].toArray⟩ : ByteArray).size ≤ 1048576) := by
    intro k h
    rw [← size_toList]
    have := hmem r[k] (by simp)
    simpa using (by omega : r[k].length ≤ 1048576)
  clear hmx hd hL hdg hmem hsl
  have hbA : Below w.heap.size w (w.alloc (.cells #[.int .i64 0, .slice none 0 0] 32)) := (Below.refl _ w).alloc (Nat.le_refl _) _
  have HBA := Lib.hid hbA
  have HA0 := Lib.hid (At2.new w (.int .i64 0) (.slice none 0 0) 32)
  clear hbA
  go_enter Tryd.func14, Tryd.ntmps14
  go_wp2_with fail
  refine (HSP.out _ (HM.out _ HBA.out) 25 rfl).mono ?_
  rintro e w1 ⟨cap, rfl, hst, hb1⟩
  have HB1 := Lib.hid (HBA.out.trans (hb1.mono HBA.out.size))
  have HR1 : Hid (At2 w1 w.heap.size (.int .i64 0) (.slice none 0 0)) := HA0.out.below hb1 (by simp)
  have hz1 := hb1.size
  rw [World.size_alloc] at hz1
  obtain ⟨hcap, hcell⟩ : r.length + 1 ≤ cap ∧ ∀ k (h : k < r.length + 1), w1.cell? ⟨w.heap.size + 1, k, none⟩ = some (.string ⟨((t0 :: r)[k]'(by simpa using h)).toArray⟩) := by
    have hst2 := hst
    rcases hst.2 with ⟨hx, _⟩ | ⟨g, cp, cur, hv, hg, hh, hc, hm, hsz, ht⟩
    · cases hx
    · simp only [Value.slice.injEq] at hv
      obtain ⟨-, -, rfl⟩ := hv
      rw [Bs_len] at hc
      refine ⟨hc, fun k h => ?_⟩
      obtain ⟨a', cap', hv, -, hk⟩ := hst2.form
      simp only [Value.slice.injEq] at hv
      obtain ⟨ha', -, -⟩ := hv
      obtain ⟨g0, e0, -, -, x0, -⟩ := hk k (by rw [Bs_len]; simpa using h)
      rw [← ha'] at e0
      have f0 : g0 = w.heap.size + 1 := by simpa using e0.symm
      rw [f0, Bs_get] at x0
      exact x0
  have HCC := Lib.hid hcell
  have hct0 : w1.cell? ⟨w.heap.size + 1, 0, none⟩ = some (.string ⟨t0.toArray⟩) := hcell 0 (by omega)
  have HT1 := Lib.hid (World.block_lt_of_cell? w1 _ hct0)
  have HRD := Lib.hid (implReadDecimal ⟨t0.toArray⟩ w1 hz0 (HD.out.on HB1.out))
  rw [show (⟨t0.toArray⟩ : ByteArray).data.toList = t0 by simp] at HRD
  unfold rdV at HRD
  obtain ⟨ev, hev⟩ : ∃ ev, (rd 1000000000000000 t0).getD 0 = ev := ⟨_, rfl⟩
  obtain ⟨ok0, hok0⟩ : ∃ ok0, (rd 1000000000000000 t0).isSome = ok0 := ⟨_, rfl⟩
  rw [hev, hok0] at HRD
  rw [show (rd BigV t0).getD 0 = ev from hev, show (rd BigV t0).isSome = ok0 from hok0] at HDG
  have htr : (0 : Nat) < r.length + 1 := by omega
  rw [show (t0 :: r).length = r.length + 1 from rfl]
  clear hst hb1 hcell hev hok0 hz0
  go_wp2_with fail
  refine HRD.out.mono ?_; rintro e w2 ⟨rfl, hb2⟩
  have HB2 := Lib.hid (HB1.out.trans (hb2.mono (Nat.le_trans (Nat.le_succ _) hz1)))
  have HR2 : Hid (At2 w2 w.heap.size (.int .i64 0) (.slice none 0 0)) := HR1.out.below hb2 HR1.out.lt
  have HTB : Hid (w2.heap[w.heap.size + 1]? = w1.heap[w.heap.size + 1]?) := hb2.block _ HT1.out
  have hz2 := hb2.size
  clear hb2 hct0
  obtain ⟨ta, hta⟩ : ∃ ta, (if cap = 1 then some (⟨w.heap.size + 1, 0, none⟩ : Addr) else some ⟨w.heap.size + 1, 1, none⟩) = ta := ⟨_, rfl⟩
  have HTA : Hid (1 < cap → ta = some ⟨w.heap.size + 1, 1, none⟩) := by
    intro h
    rw [← hta, if_neg (by omega)]
  have hc1 : 1 ≤ cap := by omega
  obtain ⟨w3, hw3⟩ : ∃ w3, w2.alloc (.cells #[.int .i64 ev, .slice none 0 0] 32) = w3 := ⟨_, rfl⟩
  have hz3 : w3.heap.size = w2.heap.size + 1 := by rw [← hw3]; simp
  have hb3 : Below w2.heap.size w2 w3 := by rw [← hw3]; exact (Below.refl _ _).alloc (Nat.le_refl _) _
  have HB3 := Lib.hid (HB2.out.trans (hb3.mono HB2.out.size))
  have HR3 : Hid (At2 w3 w.heap.size (.int .i64 0) (.slice none 0 0)) := HR2.out.below hb3 HR2.out.lt
  have HD3 : Hid (At2 w3 w2.heap.size (.int .i64 ev) (.slice none 0 0)) := by rw [Hid, ← hw3]; exact At2.new _ _ _ _
  have HT3 : Hid (w3.heap[w.heap.size + 1]? = w1.heap[w.heap.size + 1]?) := (hb3.block _ (Nat.lt_of_lt_of_le HT1.out hz2)).trans HTB.out
  have HQ : Hid (w.heap.size + 1 < w2.heap.size) := Nat.lt_of_lt_of_le HT1.out hz2
  have HZ3 := Lib.hid hz3
  have HW3 := Lib.hid hw3
  clear hb3 hz1 hz3 hw3
  go_wp2
  rw [HW3.out]
  go_loopw [6, 26] (fun kv iv wr => ∃ (k : Nat) (b : Bool) (v : Value), k ≤ r.length ∧ iv = .int .i64 (k : Int) ∧ kv = .bool b ∧ Hid ((ok0 && allO (r.take k)) = b) ∧ Hid (At2 wr w2.heap.size (.int .i64 ev) v) ∧ Hid (Recs wr (w2.heap.size + 1) v k (fl3 ((r.take k).map d3))) ∧ Hid (Below w.heap.size w wr) ∧ Hid (At2 wr w.heap.size (.int .i64 0) (.slice none 0 0)) ∧ Hid (wr.heap[w.heap.size + 1]? = w1.heap[w.heap.size + 1]?) ∧ Hid (w3.heap.size ≤ wr.heap.size)) (fun _ iv _ => r.length - (intOf iv).toNat)
  case atStart => exact ⟨0, ok0, _, Nat.zero_le _, rfl, rfl, by rw [Hid]; simp [allO], HD3, ⟨rfl, World.ownsRow_nil _ _ _ _⟩, HB3, HR3, HT3, Nat.le_refl _⟩
  case round =>
    obtain ⟨k, b, v, hk, rfl, rfl, HB, HDD, HRC, HBW, HRR, HTT, HSI⟩ := hrel
    obtain ⟨va, vc, hvv, -, -⟩ := HRC.out.form
    subst hvv
    by_cases hlt : k < r.length
    · obtain rfl := HTA.out (by omega)
      have hct : wr.cell? ⟨w.heap.size + 1, 1 + k, none⟩ = some (.string ⟨r[k].toArray⟩) := by
        rw [Nat.add_comm 1 k]
        exact (World.cell?_of_block (a := ⟨w.heap.size + 1, k + 1, none⟩) HTT.out).trans (HCC.out (k + 1) (by omega))
      have hct2 : wr.cell? ⟨w.heap.size + 1, k + 1, none⟩ = some (.string ⟨r[k].toArray⟩) := by rw [Nat.add_comm k 1]; exact hct
      have HRDD := Lib.hid (implDotted ⟨r[k].toArray⟩ wr (HSZ.out k hlt) (HD.out.on HBW.out) mx (HM.out _ HBW.out))
      rw [show (⟨r[k].toArray⟩ : ByteArray).data.toList = r[k] by simp] at HRDD
      have hnx := fl3_next r k hlt
      have hax := allO_snoc r k hlt
      obtain ⟨⟨x, y, z⟩, hxyz⟩ : ∃ t, d3 r[k] = t := ⟨_, rfl⟩
      obtain ⟨od, hod⟩ : ∃ od, (dotO r[k]).isSome = od := ⟨_, rfl⟩
      rw [hxyz] at hnx HRDD
      rw [hod] at hax HRDD
      dsimp only at hnx HRDD
      have HAX := Lib.hid hax
      have hflen : (fl3 ((r.take k).map d3)).length = k * 3 := by rw [fl3_len]; simp; omega
      obtain ⟨FL, hFL⟩ : ∃ FL, fl3 ((r.take k).map d3) = FL := ⟨_, rfl⟩
      rw [hFL] at hflen HRC hnx
      have HNX := Lib.hid hnx
      have HFL := Lib.hid hflen
      have hsi := HSI.out
      have hqd : w2.heap.size < wr.heap.size := by have := HZ3.out; omega
      clear hxyz hod hnx hax hflen hFL
      go_wp2_with fail
      refine HRDD.out.mono ?_; rintro e w4 ⟨rfl, hb4⟩
      have hz4 := hb4.size
      have HB4 := Lib.hid (HBW.out.trans (hb4.mono HBW.out.size))
      have HD4 : Hid (At2 w4 w2.heap.size (.int .i64 ev) (.slice va k vc)) := HDD.out.below hb4 hqd
      have HR4 : Hid (At2 w4 w.heap.size (.int .i64 0) (.slice none 0 0)) := HRR.out.below hb4 HRR.out.lt
      have HC4 : Hid (Recs w4 (w2.heap.size + 1) (.slice va k vc) k FL) := HRC.out.keep hb4 (Nat.le_refl _)
      have HT4 : Hid (w4.heap[w.heap.size + 1]? = w1.heap[w.heap.size + 1]?) := (hb4.block _ (by have := HQ.out; omega)).trans HTT.out
      clear hb4 hct hct2
      cases b with
      | true =>
        have da := HD4.out.alloc (.cells #[.int .i64 x, .int .i64 y, .int .i64 z] 65)
        have db := da.alloc (.cells #[.int .i64 x, .int .i64 y, .int .i64 z] 60)
        have DB := Lib.hid db
        have RB := Lib.hid ((HR4.out.alloc (.cells #[.int .i64 x, .int .i64 y, .int .i64 z] 65)).alloc (.cells #[.int .i64 x, .int .i64 y, .int .i64 z] 60))
        obtain ⟨u0, u1, u2, u3⟩ := da
        clear db
        go_wp2_with (at_builtin; refine wpList_append_own _ rfl _ _ 30 rfl (w2.heap.size + 1) 60 i1 (.agg #[.int .i64 0, .int .i64 0, .int .i64 0]) 3 24 Tryd.underlying30 ji jz0 jz1 jz2 rfl (by decide) _ _ _ rfl (World.ownsRow.alloc (World.ownsRow.alloc HC4.out.2 _) _) ⟨w4.heap.size + 1, 0, none⟩ 1 1 [.int .i64 x, .int .i64 y, .int .i64 z] rfl rfl ?d1t ?d2t ?d3t ?d4t ?d5t ?_)
        case d1t =>
          have h := cell_threeD (w4.alloc (.cells #[.int .i64 x, .int .i64 y, .int .i64 z] 65)) (.int .i64 x) (.int .i64 y) (.int .i64 z) 60
          rw [World.size_alloc] at h; exact h
        case d2t => simp [Value.oneCell']
        case d3t => unfold maxLen; omega
        case d4t => omega
        case d5t => first | omega | (simp; omega)
        intro v8 w8 hown8 hgrow8 _
        have hc8 : Recs w8 (w2.heap.size + 1) v8 (k + 1) (FL ++ [x, y, z]) := ⟨by rw [List.length_append, HFL.out]; simp; omega, by rw [List.map_append]; exact hown8⟩
        have hro := fun j e => (World.ownsRow.lt HC4.out.2 j e)
        have HC8 := Lib.hid hc8
        have HD8 := Lib.hid (DB.out.grown hgrow8 (fun e => by have := (hro _ e.symm).1; omega))
        have HR8 := Lib.hid (RB.out.grown hgrow8 (fun e => by have := (hro _ e.symm).1; have := HQ.out; omega))
        have HB8 : Hid (Below w.heap.size w w8) := ((HB4.out.alloc HB4.out.size _).alloc (by simp; have := HB4.out.size; omega) _).grown hgrow8 (by simp; have := HB4.out.size; omega) (fun j e => by have := (hro j e).1; have := HQ.out; omega)
        have HT8 : Hid (w8.heap[w.heap.size + 1]? = w1.heap[w.heap.size + 1]?) := by
          have hlt4 : w.heap.size + 1 < w4.heap.size := by have := HQ.out; omega
          exact (hgrow8.block _ (by simp; omega) (fun e => by have := (hro _ e.symm).1; have := HQ.out; omega)).trans ((Below.heap_alloc _ _ _ (by simp; omega)).trans ((Below.heap_alloc _ _ _ hlt4).trans HT4.out))
        have HS8 : Hid (w3.heap.size ≤ w8.heap.size) := by have := hgrow8.size; simp at this; rw [Hid]; omega
        obtain ⟨va8, vc8, hv8, -, -⟩ := hc8.form
        subst hv8
        obtain ⟨e0, e1, e2, e3⟩ := HD8.out
        clear hown8 hgrow8 hc8 hro u0 u1 u2 u3
        go_wp2
        go_roundw
        case rel => exact ⟨k + 1, od, _, by omega, by go_num, rfl, by rw [Hid, HAX.out, ← Bool.and_assoc, HB.out]; cases od <;> rfl, HD8.out.set1 _, by rw [HNX.out]; exact recs_setD HC8.out (Nat.lt_succ_self _) _ _, HB8.out.setCell (p := ⟨w2.heap.size, 1, none⟩) (by have := HQ.out; dsimp only; omega) _, HR8.out.set_ne (by have := HQ.out; omega) _ _, (Below.heap_setCell _ _ _ _ (by have := HQ.out; dsimp only; omega)).trans HT8.out, by rw [Hid]; simpa using HS8.out⟩
        case measure => simp [intOf]; omega
      | false =>
        have da := HD4.out.alloc (.cells #[.int .i64 x, .int .i64 y, .int .i64 z] 65)
        have db := da.alloc (.cells #[.int .i64 x, .int .i64 y, .int .i64 z] 60)
        have DB := Lib.hid db
        have RB := Lib.hid ((HR4.out.alloc (.cells #[.int .i64 x, .int .i64 y, .int .i64 z] 65)).alloc (.cells #[.int .i64 x, .int .i64 y, .int .i64 z] 60))
        obtain ⟨u0, u1, u2, u3⟩ := da
        clear db
        go_wp2_with (at_builtin; refine wpList_append_own _ rfl _ _ 30 rfl (w2.heap.size + 1) 60 i1 (.agg #[.int .i64 0, .int .i64 0, .int .i64 0]) 3 24 Tryd.underlying30 ji jz0 jz1 jz2 rfl (by decide) _ _ _ rfl (World.ownsRow.alloc (World.ownsRow.alloc HC4.out.2 _) _) ⟨w4.heap.size + 1, 0, none⟩ 1 1 [.int .i64 x, .int .i64 y, .int .i64 z] rfl rfl ?d1f ?d2f ?d3f ?d4f ?d5f ?_)
        case d1f =>
          have h := cell_threeD (w4.alloc (.cells #[.int .i64 x, .int .i64 y, .int .i64 z] 65)) (.int .i64 x) (.int .i64 y) (.int .i64 z) 60
          rw [World.size_alloc] at h; exact h
        case d2f => simp [Value.oneCell']
        case d3f => unfold maxLen; omega
        case d4f => omega
        case d5f => first | omega | (simp; omega)
        intro v8 w8 hown8 hgrow8 _
        have hc8 : Recs w8 (w2.heap.size + 1) v8 (k + 1) (FL ++ [x, y, z]) := ⟨by rw [List.length_append, HFL.out]; simp; omega, by rw [List.map_append]; exact hown8⟩
        have hro := fun j e => (World.ownsRow.lt HC4.out.2 j e)
        have HC8 := Lib.hid hc8
        have HD8 := Lib.hid (DB.out.grown hgrow8 (fun e => by have := (hro _ e.symm).1; omega))
        have HR8 := Lib.hid (RB.out.grown hgrow8 (fun e => by have := (hro _ e.symm).1; have := HQ.out; omega))
        have HB8 : Hid (Below w.heap.size w w8) := ((HB4.out.alloc HB4.out.size _).alloc (by simp; have := HB4.out.size; omega) _).grown hgrow8 (by simp; have := HB4.out.size; omega) (fun j e => by have := (hro j e).1; have := HQ.out; omega)
        have HT8 : Hid (w8.heap[w.heap.size + 1]? = w1.heap[w.heap.size + 1]?) := by
          have hlt4 : w.heap.size + 1 < w4.heap.size := by have := HQ.out; omega
          exact (hgrow8.block _ (by simp; omega) (fun e => by have := (hro _ e.symm).1; have := HQ.out; omega)).trans ((Below.heap_alloc _ _ _ (by simp; omega)).trans ((Below.heap_alloc _ _ _ hlt4).trans HT4.out))
        have HS8 : Hid (w3.heap.size ≤ w8.heap.size) := by have := hgrow8.size; simp at this; rw [Hid]; omega
        obtain ⟨va8, vc8, hv8, -, -⟩ := hc8.form
        subst hv8
        obtain ⟨e0, e1, e2, e3⟩ := HD8.out
        clear hown8 hgrow8 hc8 hro u0 u1 u2 u3
        go_wp2
        go_roundw
        case rel => exact ⟨k + 1, false, _, by omega, by go_num, rfl, by rw [Hid, HAX.out, ← Bool.and_assoc, HB.out]; cases od <;> rfl, HD8.out.set1 _, by rw [HNX.out]; exact recs_setD HC8.out (Nat.lt_succ_self _) _ _, HB8.out.setCell (p := ⟨w2.heap.size, 1, none⟩) (by have := HQ.out; dsimp only; omega) _, HR8.out.set_ne (by have := HQ.out; omega) _ _, (Below.heap_setCell _ _ _ _ (by have := HQ.out; dsimp only; omega)).trans HT8.out, by rw [Hid]; simpa using HS8.out⟩
        case measure => simp [intOf]; omega
    · obtain rfl : k = r.length := by omega
      have HDGr := HDG.out
      have hBv := HB.out
      have hRCv := HRC.out
      rw [List.take_length] at hBv hRCv
      have hlen3 : (r.map d3).length = r.length := by simp
      cases b with
      | false =>
        have HNO : Hid (dgA s.data.toList = none) := by
          rw [Hid, HDGr, if_neg]
          rintro ⟨q1, q2, -⟩
          rw [q1, q2] at hBv
          cases hBv
        have hrr := HRR.out
        obtain ⟨c0, c1, f0, f1⟩ := hrr
        have HF := Lib.hid ((HRR.out.set0 (.int .i64 0)).set1 (.slice none 0 0))
        obtain ⟨z0, z1, -, -⟩ := HF.out
        clear hBv hRCv hlen3 HDGr
        go_wp2
        refine bodyPost_ret (v := .tuple #[.agg #[.int .i64 0, .slice none 0 0], .bool false]) (by simp [results, Tryd.results14, go_sem, c0, c1, z0, z1]) rfl ⟨none, 0, ?_, ?_, ?_⟩
        · unfold ansE ansL; rw [HNO.out]; rfl
        · unfold ansL; rw [HNO.out]; exact ⟨rfl, World.ownsRow_nil _ _ _ _⟩
        · first | exact (HBW.out.setCell (Nat.le_refl _) _).setCell (Nat.le_refl _) _ | exact HBW.out
      | true =>
        have hq : ok0 = true ∧ allO r = true := by
          cases ok0 <;> cases hx : allO r <;> rw [hx] at hBv <;> first | exact ⟨rfl, rfl⟩ | cases hBv
        have HVD := Lib.hid (implDiaIs (w2.heap.size + 1) ev va r.length vc (fl3 (r.map d3)) wr hRCv (by omega))
        have hdd := HDD.out
        obtain ⟨d0, d1, g0, g1⟩ := hdd
        have hqd : w2.heap.size < wr.heap.size := HDD.out.lt
        have HRV := Lib.hid hRCv
        have HDR : Hid (dgA s.data.toList = if diaB ev r.length (fl3 (r.map d3)) = true then some (ev, r.map d3) else none) := by
          rw [Hid, HDGr]
          by_cases hbb : diaB ev r.length (fl3 (r.map d3)) = true
          · rw [if_pos ⟨hq.1, hq.2, hbb⟩, if_pos hbb]
          · rw [if_neg (fun h => hbb h.2.2), if_neg hbb]
        have HL3 := Lib.hid hlen3
        clear hq hBv hRCv hlen3 HDGr
        cases hv : diaB ev r.length (fl3 (r.map d3)) with
        | false =>
          have HNO : Hid (dgA s.data.toList = none) := by rw [Hid, HDR.out, hv]; rfl
          rw [hv] at HVD
          clear hv
          go_wp2_with fail
          refine HVD.out.mono ?_; rintro e w5 ⟨rfl, hb5⟩
          have HB5 := Lib.hid (HBW.out.trans (hb5.mono HBW.out.size))
          have HR5 := Lib.hid (HRR.out.below hb5 HRR.out.lt)
          obtain ⟨c0, c1, f0, f1⟩ := HR5.out
          have HF := Lib.hid ((HR5.out.set0 (.int .i64 0)).set1 (.slice none 0 0))
          obtain ⟨z0, z1, -, -⟩ := HF.out
          clear hb5
          go_wp2
          refine bodyPost_ret (v := .tuple #[.agg #[.int .i64 0, .slice none 0 0], .bool false]) (by simp [results, Tryd.results14, go_sem, c0, c1, z0, z1]) rfl ⟨none, 0, ?_, ?_, ?_⟩
          · unfold ansE ansL; rw [HNO.out]; rfl
          · unfold ansL; rw [HNO.out]; exact ⟨rfl, World.ownsRow_nil _ _ _ _⟩
          · first | exact (HB5.out.setCell (Nat.le_refl _) _).setCell (Nat.le_refl _) _ | exact HB5.out
        | true =>
          have HYE : Hid (dgA s.data.toList = some (ev, r.map d3)) := by rw [Hid, HDR.out, hv]; rfl
          rw [hv] at HVD
          clear hv
          go_wp2_with fail
          refine HVD.out.mono ?_; rintro e w5 ⟨rfl, hb5⟩
          have HB5 := Lib.hid (HBW.out.trans (hb5.mono HBW.out.size))
          have HR5 := Lib.hid (HRR.out.below hb5 HRR.out.lt)
          obtain ⟨c0, c1, f0, f1⟩ := HR5.out
          obtain ⟨e0, e1, e2, e3⟩ := HDD.out.below hb5 hqd
          have HC5 : Hid (Recs w5 (w2.heap.size + 1) (.slice va r.length vc) r.length (fl3 (r.map d3))) := HRV.out.keep hb5 (Nat.le_refl _)
          have HF := Lib.hid ((HR5.out.set0 (.int .i64 ev)).set1 (.slice va r.length vc))
          obtain ⟨z0, z1, -, -⟩ := HF.out
          clear hb5 d0 d1 g0 g1
          go_wp2
          refine bodyPost_ret (v := .tuple #[.agg #[.int .i64 ev, .slice va r.length vc], .bool true]) (by simp [results, Tryd.results14, go_sem, c0, c1, z0, z1]) rfl ⟨va, vc, ?_, ?_, ?_⟩
          · unfold ansE ansL; rw [HYE.out]; simp
          · have h1 := recs_setD (recs_setD HC5.out (g := w.heap.size) (by have := HQ.out; omega) 0 (.int .i64 ev)) (g := w.heap.size) (by have := HQ.out; omega) 1 (.slice va r.length vc)
            have h2 := h1.weak (C := w.heap.size) (by have := HQ.out; omega)
            unfold ansL
            rw [HYE.out]
            simp only [Option.map_some, Option.getD_some, List.length_map]
            exact h2
          · exact (HB5.out.setCell (Nat.le_refl _) _).setCell (Nat.le_refl _) _
end Go.Proofs.YtemjohkieehojaaDoor
