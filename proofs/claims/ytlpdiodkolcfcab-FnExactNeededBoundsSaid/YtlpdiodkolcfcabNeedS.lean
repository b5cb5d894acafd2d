/- NeededBounds: the model's side. -/
import Derived.Test.YtlpdiodkolcfcabNeedM
import Derived.Test.YtlpdiodkolcfcabOwn
import Derived.Test.YtlpdiodkolcfcabMarkI
namespace Go.Proofs.Ytlpdiodkolcfcab
open Go.RowKit
set_option linter.unusedVariables false
set_option linter.unusedSimpArgs false

theorem Ints.lowN {w : World} {B C : Nat} {v : Value} {l : List Int} (h : Ints w B v l) (hc : C ≤ B) : Ints w C v l := by
  rcases h with ⟨h1, ⟨rfl, hn⟩ | ⟨g, cap, cur, rfl, hg, rest⟩⟩
  · exact ⟨h1, .inl ⟨rfl, hn⟩⟩
  · exact ⟨h1, .inr ⟨g, cap, cur, rfl, by omega, rest⟩⟩
theorem ints_snocN {w1 : World} {B : Nat} {v : Value} {l : List Int} {x : Int} (h : w1.ownsRow B 2 1 v (l.length + 1) (l.map (Value.int .i64) ++ [.int .i64 x])) : Ints w1 B v (l ++ [x]) := by
  unfold Ints; rw [List.length_append, List.map_append]; exact h
theorem ints_belowN {B : Nat} {w wr w1 : World} {v : Value} {l : List Int} (hB : Below B w wr) (hw : B ≤ w.heap.size) (hbuf : Ints wr B v l) (o : Obj) (hg : (wr.alloc o).grownBy w1 v.ownBlock) : Below B w w1 :=
  (hB.alloc (Nat.le_trans hw hB.size) o).grown hg (by have := hB.size; simp; omega) (fun k e => (World.ownsRow.lt (World.ownsRow.alloc hbuf o) k e).1)
theorem ints_some {w : World} {B : Nat} {v : Value} {l : List Int} (h : Ints w B v l) (hl : 0 < l.length) : ∃ g c, v = .slice (some ⟨g, 0, none⟩) l.length c ∧ B ≤ g ∧ g < w.heap.size := by
  rcases h with ⟨h1, ⟨rfl, hn⟩ | ⟨g, cap, cur, rfl, hg, hh, rest⟩⟩
  · omega
  · exact ⟨g, cap, rfl, hg, (Array.getElem?_eq_some_iff.1 hh).1⟩
def ApartV (v1 v2 : Value) : Prop := ∀ g1 g2, v1.ownBlock = some g1 → v2.ownBlock = some g2 → g1 ≠ g2
def NdR (e : Int) (nb : Nat) (F : List Int) (w : World) (r : Ending) (w' : World) : Prop :=
  Below w.heap.size w w' ∧ ∃ (M : Nat → Nat → Int) (v : Value) (l : List Int) (ok : Bool), r = .returned (.tuple #[v, .bool ok]) ∧ Ints w' w.heap.size v l ∧ l.length ≤ 24 ∧ NdC e nb F M ok l

set_option maxHeartbeats 8000000 in
set_option maxRecDepth 100000 in
theorem specNd (B : Nat) (e : Int) (a : Option Addr) (nb cap : Nat) (F : List Int) (w : World) (hr : Recs w B (.slice a nb cap) nb F) (hl : nb ≤ 1048576) :
    Calls Try.prog 21 #[.agg #[.int .i64 e, .slice a nb cap]] w fun r w' => NdR e nb F w r w' := by
  obtain ⟨i0, hi, hz0, hz1, hz2⟩ := info_parts info_i64
  have hb0 : Below w.heap.size w (w.alloc (.cells #[.int .i64 e, .slice a nb cap] 32)) := (Below.refl _ _).alloc (Nat.le_refl _) _
  obtain ⟨w0, hw0⟩ : ∃ w0, w.alloc (.cells #[.int .i64 e, .slice a nb cap] 32) = w0 := ⟨_, rfl⟩
  have HP : Hid (At2 w0 w.heap.size (.int .i64 e) (.slice a nb cap)) := by rw [← hw0]; exact At2.new w _ _ _
  have HR : Hid (Recs w0 B (.slice a nb cap) nb F) := by rw [← hw0]; exact hr.keep hb0 (Nat.le_refl _)
  rw [hw0] at hb0
  have HB0 := Lib.hid hb0
  have HE1 := Lib.hid (l04Is_any w.heap.size B e a nb cap F w0 HP.out HR.out hl)
  have hFl := hr.1
  have HFL := Lib.hid hFl
  clear hr hb0 hFl
  cases hd : diaB e nb F with
  | false =>
    have HC : Hid (NdC e nb F (fun _ _ => 0) false []) := ⟨fun h => (by rw [h] at hd; cases hd), ⟨fun h => (by cases h), fun h => (by rw [h.1] at hd; cases hd)⟩, fun h => (by cases h), fun _ => rfl⟩
    rw [hd] at HE1
    clear hd
    go_enter Try.func21, Try.ntmps21
    go_wp2_with fail
    refine HE1.out.mono ?_; rintro r w1 ⟨rfl, b1⟩
    have HB1 := Lib.hid (HB0.out.trans (b1.mono HB0.out.size))
    clear b1
    go_wp2
    go_ret2
    exact ⟨HB1.out, _, _, [], false, rfl, Ints.nil _ _, Nat.zero_le _, HC.out⟩
  | true =>
    rw [hd] at HE1
    obtain ⟨he1, he2, hnb, -⟩ := diaB_okG hd
    obtain ⟨n, rfl⟩ : ∃ n : Nat, e = (n : Int) := ⟨e.toNat, by omega⟩
    have HFS := Lib.hid (dia_fs hd)
    have HD := Lib.hid hd
    clear hd
    have hn1 : 1 ≤ n := by omega
    have hn10 : n ≤ 10 := by omega
    clear he1 he2
    go_enter Try.func21, Try.ntmps21
    go_wp2_with fail
    refine HE1.out.mono ?_; rintro r w1 ⟨rfl, b1⟩
    have HB1 := Lib.hid b1
    obtain ⟨w2, hw2⟩ : ∃ w2, w1.alloc (.cells #[] 2) = w2 := ⟨_, rfl⟩
    have hb2 : Below w0.heap.size w0 w2 := by rw [← hw2]; exact b1.alloc b1.size _
    have HB2 := Lib.hid hb2
    have HTI := Lib.hid (tight_any w.heap.size B n nb cap 0 0 a (some ⟨w1.heap.size, 0, none⟩) F [] w2 (HP.out.below hb2 HP.out.lt) (HR.out.keep hb2 (Nat.le_refl _)) HFS.out hn1 hn10 hnb (fun k hk => by simp at hk) rfl (by simp))
    clear b1 hb2
    go_wp2_with fail
    refine HTI.out.mono ?_; rintro r w3 ⟨go, cap2, g, c, M, ok, rfl, hcap, hmat, hsd, hcp, hok, hb3⟩
    clear hw2
    have hb03 := HB2.out.trans (hb3.mono HB2.out.size)
    have HB03 := Lib.hid hb03
    have HM : Hid (diaB (n : Int) nb F = true → Sound (keptB F [] nb) (n : Int).toNat M ∧ Comp (keptB F [] nb) (n : Int).toNat (n : Int).toNat M) := fun _ => ⟨by simpa using hsd, by simpa using hcp⟩
    have HOK := Lib.hid hok
    have hz3 : w.heap.size ≤ w3.heap.size := Nat.le_trans HB0.out.size hb03.size
    clear hb03 hb3 hmat hsd hcp hok
    cases ok with
    | false =>
      have HC : Hid (NdC (n : Int) nb F M false []) := ⟨HM.out, ⟨fun h => (by cases h), fun h => (by have := HOK.out.2 (fun a ha => h.2 a (by simpa using ha)); cases this)⟩, fun h => (by cases h), fun _ => rfl⟩
      go_wp2
      go_ret2
      exact ⟨HB0.out.trans (HB03.out.mono HB0.out.size), _, _, [], false, rfl, Ints.nil _ _, Nat.zero_le _, HC.out⟩
    | true =>
      have HPOS : Hid (∀ a, a < n → 0 ≤ M a a) := HOK.out.1 rfl
      obtain ⟨w4, hw4⟩ : ∃ w4, w3.alloc (.cells #[] 2) = w4 := ⟨_, rfl⟩
      have hz4 : w4.heap.size = w3.heap.size + 1 := by rw [← hw4]; simp
      obtain ⟨w5, hw5⟩ : ∃ w5, w4.alloc (.cells #[] 2) = w5 := ⟨_, rfl⟩
      have hz5 : w5.heap.size = w3.heap.size + 1 + 1 := by rw [← hw5]; simp [hz4]
      have hb4 : Below w3.heap.size w3 w4 := by rw [← hw4]; exact (Below.refl _ _).alloc (Nat.le_refl _) _
      have hb5 : Below w4.heap.size w4 w5 := by rw [← hw5]; exact (Below.refl _ _).alloc (Nat.le_refl _) _
      have HIW : Hid (Ints w5 w3.heap.size (.slice (some ⟨w3.heap.size, 0, none⟩) 0 0) []) := by
        have h4 : Ints w4 w3.heap.size (.slice (some ⟨w3.heap.size, 0, none⟩) 0 0) [] := by rw [← hw4]; exact Ints.lit w3
        exact h4.keep hb5 (Nat.le_refl _)
      have HIO : Hid (Ints w5 w3.heap.size (.slice (some ⟨w3.heap.size + 1, 0, none⟩) 0 0) []) := by
        have h5 : Ints w5 w4.heap.size (.slice (some ⟨w4.heap.size, 0, none⟩) 0 0) [] := by rw [← hw5]; exact Ints.lit w4
        rw [hz4] at h5
        exact h5.lowN (by omega)
      have HB35 := Lib.hid (hb4.trans (hb5.mono hb4.size))
      have HAP : Hid (ApartV (.slice (some ⟨w3.heap.size, 0, none⟩) 0 0) (.slice (some ⟨w3.heap.size + 1, 0, none⟩) 0 0)) := fun g1 g2 h1 h2 => by
        have e1 : w3.heap.size = g1 := by injection h1
        have e2 : w3.heap.size + 1 = g2 := by injection h2
        omega
      have HST := Lib.hid (NdS.start F nb n)
      clear hb4 hb5
      go_wp2
      clear hw4 hw5 hz4 hz5
      go_loopw [6, 7, 8, 9] (fun wv ov i _ wr => ∃ k : Nat, k ≤ nb ∧ i = .int .i64 k ∧ ∃ (Ws outs : Nat → List Int) (gw cw : Nat), wv = .slice (some ⟨gw, 0, none⟩) (Ws k).length cw ∧ Hid (Ints wr w3.heap.size (.slice (some ⟨gw, 0, none⟩) (Ws k).length cw) (Ws k)) ∧ Hid (Ints wr w3.heap.size ov (outs k)) ∧ Hid (ApartV (.slice (some ⟨gw, 0, none⟩) (Ws k).length cw) ov) ∧ Hid (Below w3.heap.size w3 wr) ∧ Hid (NdS F nb n Ws outs k)) (fun _ _ i _ _ => nb - (intOf i).toNat)
      case atStart => exact ⟨0, Nat.zero_le _, rfl, fun _ => [], fun _ => [], w3.heap.size, 0, rfl, HIW, HIO, HAP, HB35, HST⟩
      case round =>
        obtain ⟨k, hk, rfl, Ws, outs, gw, cw, rfl, HW, HO, HA, HBW, HN⟩ := hrel
        clear HIW HIO HAP HB35 HST
        have hb0r := HB03.out.trans (HBW.out.mono HB03.out.size)
        obtain ⟨c0, c1, -, -⟩ := HP.out.below hb0r HP.out.lt
        have HB0R := Lib.hid hb0r
        have HBR := Lib.hid (HB0.out.trans (hb0r.mono HB0.out.size))
        obtain ⟨fc1, fc2, fc3, fc4⟩ := HN.out.facts k (Nat.le_refl _)
        have HFC := Lib.hid fc1
        clear hb0r fc1
        by_cases hlt : k < nb
        · have hltz : (k : Int) < (nb : Int) := by omega
          obtain ⟨W, hW⟩ : ∃ W, Ws k = W := ⟨_, rfl⟩
          rw [hW] at HW fc2 HFC HA fc4
          have HWE := Lib.hid hW
          rw [hW]
          obtain ⟨O, hO⟩ : ∃ W, outs k = W := ⟨_, rfl⟩
          rw [hO] at HO fc3 fc4
          have HOE := Lib.hid hO
          have hszr := HBW.out.size
          have HWN : Hid (RowFromO wr gw 0 W) := HW.out.fromO.1
          clear hW hO
          have hWl : W.length ≤ 24 := by omega
          have hOl : O.length ≤ 24 := by omega
          clear fc2 fc3 fc4
          go_wp2_with fail
          refine (own_anyO gw 0 W.length cw W wr rfl (by omega) HWN.out).mono ?_
          rintro r w5 ⟨v5, rfl, i5, b5⟩
          have HI5 := Lib.hid i5
          have HB5 := Lib.hid b5
          have hsz5 := b5.size
          clear i5 b5 c0 c1
          go_wp2_with (at_builtin; refine wpList_append_own _ rfl _ _ 39 rfl wr.heap.size 2 i0 (.int .i64 0) 1 8 Try.underlying39 hi hz0 hz1 hz2 rfl (by decide) _ _ _ rfl (HI5.out.alloc _) ⟨w5.heap.size, 0, none⟩ 1 1 [.int .i64 (k : Int)] rfl rfl ?c1 ?c2 ?c3 ?c4 ?c5 ?_)
          case c1 => exact cell_one_new _ _ _
          case c2 => simp [Value.oneCell']
          case c3 => unfold maxLen; omega
          case c4 => omega
          case c5 => first | omega | (simp; omega)
          intro v' w7 hown' hgrow _
          have hnx : Ints w7 wr.heap.size v' (W ++ [(k : Int)]) := ints_snocN hown'
          have HW7 := Lib.hid (ints_belowN HB5.out (Nat.le_refl _) HI5.out _ hgrow)
          have hnl : (W ++ [(k : Int)]).length = W.length + 1 := by simp
          obtain ⟨gn, cn, hv', hgn, hgn2⟩ := ints_some hnx (by rw [hnl]; omega)
          rw [hnl] at hv'
          subst hv'
          have HNX := Lib.hid hnx
          have HNL := Lib.hid hnl
          clear hown' hgrow hnx hnl
          have hb07 := HB0R.out.trans (HW7.out.mono HB0R.out.size)
          obtain ⟨c0, c1, -, -⟩ := HP.out.below hb07 HP.out.lt
          have hr7 := HR.out.keep hb07 (Nat.le_refl _)
          have HR7 := Lib.hid hr7
          obtain ⟨gb, x, y, z, hag, -, -, ⟨e0, e1, e2⟩, x0, x1, x2⟩ := hr7.at k hlt
          obtain ⟨⟨fx1, fx2⟩, ⟨fy1, fy2⟩, fz1, fz2⟩ := HFS.out k hlt
          rw [e0] at fx1 fx2
          rw [e1] at fy1 fy2
          rw [e2] at fz1 fz2
          obtain ⟨x, rfl⟩ : ∃ i : Nat, x = (i : Int) := ⟨x.toNat, by omega⟩
          obtain ⟨y, rfl⟩ : ∃ i : Nat, y = (i : Int) := ⟨y.toNat, by omega⟩
          have HXYZ := Lib.hid (And.intro e0 (And.intro e1 e2))
          have HB07 := Lib.hid hb07
          have HFO := Lib.hid (follows_any w.heap.size B n nb cap (W.length + 1) cn a (some ⟨gn, 0, none⟩) F (W ++ [(k : Int)]) x y z w7 (HP.out.below hb07 HP.out.lt) hr7 HFS.out hn1 hn10 hnb HNX.out.row.1 HNL.out.symm (by rw [HNL.out]; omega) (by omega) (by omega))
          subst hag
          have hsz7 := HW7.out.size
          clear hr7 hb07 e0 e1 e2 fx1 fx2 fy1 fy2 fz1 fz2
          go_wp2_with fail
          refine HFO.out.mono ?_; rintro r w8 ⟨b8, M2, ok2, rfl, sd2, cp2, ok2i⟩
          have HB8 := Lib.hid b8
          have hsz8 := b8.size
          have HNN : Hid (NdS F nb n (fun j => if j = k + 1 then (if ok2 then Ws k ++ [(k : Int)] else Ws k) else Ws j) (fun j => if j = k + 1 then (if ok2 then outs k else outs k ++ [(k : Int)]) else outs j) (k + 1)) :=
            HN.out.next M2 ok2 (by rw [HWE.out]; exact sd2) (by rw [HWE.out]; exact cp2) (by rw [HXYZ.out.1, HXYZ.out.2.1, HXYZ.out.2.2]; simpa using ok2i)
          have HBR8 : Hid (Below wr.heap.size wr w8) := HW7.out.trans (b8.mono hsz7)
          clear b8 sd2 cp2 ok2i c0 c1 x0 x1 x2
          cases ok2 with
          | true =>
            have HNX8 := Lib.hid (HNX.out.keep HB8.out (Nat.le_refl _))
            have HO8 := Lib.hid (HO.out.keep HBR8.out (Nat.le_refl _))
            have HAP : Hid (ApartV (.slice (some ⟨gn, 0, none⟩) (W.length + 1) cn) _) := fun g1 g2 h1 h2 => by
              have e1 : gn = g1 := by injection h1
              have e2 := (HO.out.lt g2 h2).2
              omega
            go_wp2
            go_roundw
            case rel =>
              refine ⟨k + 1, by omega, by go_num, _, _, gn, cn, ?_, ?_, ?_, ?_, Lib.hid (HBW.out.trans (HBR8.out.mono hszr)), HNN⟩
              · simp [HWE.out]
              · simp only [if_true, HWE.out, HNL.out]; exact Lib.hid (HNX8.out.lowN hszr)
              · simp only [if_true, HOE.out]; exact HO8
              · simp only [if_true, HWE.out, HNL.out]; exact HAP
            case measure => simp [intOf]; omega
          | false =>
            have hw8 := HW.out.keep HBR8.out (Nat.le_refl _)
            have HW8 := Lib.hid hw8
            have HO8 := Lib.hid (HO.out.keep HBR8.out (Nat.le_refl _))
            have HW3 : Hid (Below w3.heap.size w3 w8) := HBW.out.trans (HBR8.out.mono hszr)
            have hsz38 := HW3.out.size
            clear hw8
            go_wp2_with (at_builtin; refine wpList_append_own_at _ rfl _ _ 39 rfl w3.heap.size 2 i0 (.int .i64 0) 1 8 Try.underlying39 hi hz0 hz1 hz2 rfl (by decide) _ _ _ rfl (HO8.out.alloc _) ⟨w8.heap.size, 0, none⟩ 1 1 [.int .i64 (k : Int)] rfl rfl ?d1 ?d2 ?d3 ?d4 ?d5 ?_)
            case d1 => exact cell_one_new _ _ _
            case d2 => simp [Value.oneCell']
            case d3 => unfold maxLen; omega
            case d4 => omega
            case d5 => first | omega | (simp; omega)
            intro v9 w9 hown9 hgrow9 _ hat9
            have HO9 : Hid (Ints w9 w3.heap.size v9 (O ++ [(k : Int)])) := ints_snocN hown9
            have HB9 := Lib.hid (ints_belowN HW3.out (Nat.le_refl _) HO8.out _ hgrow9)
            have HW9 : Hid (Ints w9 w3.heap.size (.slice (some ⟨gw, 0, none⟩) W.length cw) W) := by
              refine World.ownsRow.kept (World.ownsRow.alloc HW8.out _) hgrow9 (.inr fun e => ?_)
              exact HA.out gw gw rfl e.symm rfl
            have HAP : Hid (ApartV (.slice (some ⟨gw, 0, none⟩) W.length cw) v9) := fun g1 g2 h1 h2 => by
              rcases hat9 with h | h
              · exact HA.out g1 g2 h1 (by rw [← h]; exact h2)
              · have e1 : gw = g1 := by injection h1
                have e2 := (HW8.out.lt gw rfl).2
                rw [h2] at h
                have e3 : g2 = w8.heap.size + 1 := by simpa using h
                omega
            clear hown9 hgrow9 hat9
            go_wp2
            go_roundw
            case rel =>
              refine ⟨k + 1, by omega, by go_num, _, _, gw, cw, ?_, ?_, ?_, ?_, HB9, HNN⟩
              · simp [HWE.out]
              · simp only [if_true, Bool.false_eq_true, if_false, HWE.out]; exact HW9
              · simp only [if_true, Bool.false_eq_true, if_false, HOE.out]; exact HO9
              · simp only [if_true, Bool.false_eq_true, if_false, HWE.out]; exact HAP
            case measure => simp [intOf]; omega
        · obtain rfl : k = nb := by omega
          have hltz : ¬ (k : Int) < (k : Int) := by omega
          have HC : Hid (NdC (n : Int) k F M true (outs k)) := ⟨HM.out, ⟨fun _ => ⟨HD.out, fun a ha => HPOS.out a (by simpa using ha)⟩, fun _ => rfl⟩, fun _ => ⟨Ws, outs, by simpa using HN.out, rfl⟩, fun h => (by cases h)⟩
          have HOL : Hid ((outs k).length ≤ 24) := by have := fc3; show _ ≤ _; omega
          clear fc2 fc3 fc4
          go_wp2
          go_ret2
          exact ⟨HBR.out, _, _, _, true, rfl, HO.out.lowN hz3, HOL.out, HC.out⟩
end Go.Proofs.Ytlpdiodkolcfcab
