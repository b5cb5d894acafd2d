/- The wave of a text of runs: the model's side. -/
import Derived.Test.YtemjohkieehojaaDoorRrM
import Derived.Test.YtemjohkieehojaaDoorCutG
import Derived.Test.YtemjohkieehojaaDoorReadSpec
import Derived.Test.YtemjohkieehojaaDoorBytes
namespace Go.Proofs.YtemjohkieehojaaDoor
open Go.RowKit
set_option linter.unusedVariables false
set_option linter.unusedSimpArgs false
theorem quiet_eqR {P : Program} {f : FuncId} {args : Array Value} {w : World} {n : Nat} {v : Value}
    (h : Calls P f args (w.drewN n) fun e w' => e = .returned v ∧ w.drewN n = w') : Calls P f args (w.drewN n) fun e w' => e = .returned v ∧ ∃ m, w' = w.drewN m :=
  h.mono fun _ _ ⟨he, hm⟩ => ⟨he, n, hm.symm⟩
theorem below_drewR {B : Nat} {a w : World} (h : Below B a w) (n : Nat) : Below B a (w.drewN n) := ⟨h.os, h.tape, h.output, h.size, h.block⟩
theorem rrP_app {D : List (List UInt8)} {a : List (UInt8 × Int)} (h : rrP D = some a) : ∀ (R : List (List UInt8)) (ps : List (UInt8 × Int)), rrP (D ++ R) = some ps → ∃ qs, ps = a ++ qs := by
  refine snoc_ind (P := fun R => ∀ ps, rrP (D ++ R) = some ps → ∃ qs, ps = a ++ qs) ?_ ?_
  · intro ps hr; rw [List.append_nil, h] at hr; exact ⟨[], by simpa using (Option.some.inj hr).symm⟩
  · intro R u ih ps hr
    rw [← List.append_assoc, rrP_snoc] at hr
    cases hR : rrP (D ++ R) with
    | none => rw [hR] at hr; simp [stP] at hr
    | some qs0 =>
      rw [hR] at hr
      obtain ⟨qs, hqs⟩ := ih qs0 hR
      obtain ⟨z, -, -, -, rfl⟩ := stP_some hr
      exact ⟨qs ++ [z], by rw [hqs]; simp⟩
theorem rrA_bad {T : List UInt8} {D R : List (List UInt8)} {acc : List (UInt8 × Int)} {t : List UInt8} (h : pcs 32 T = (D ++ [t]) ++ R) (hq : rrP D = some acc) (hb : stP (some acc) t = none ∨ ∃ x, stP (some acc) t = some (acc ++ [x]) ∧ alt (acc ++ [x]) = false) : rrA T = none := by
  unfold rrA
  rcases hb with hb | ⟨x, hb, ha⟩
  · rw [h, rrP_bad hq hb]
  · rw [h]
    have h2 : rrP (D ++ [t]) = some (acc ++ [x]) := by rw [rrP_snoc, hq, hb]
    cases hr : rrP ((D ++ [t]) ++ R) with
    | none => rfl
    | some ps =>
      obtain ⟨qs, rfl⟩ := rrP_app h2 R ps hr
      simp only
      rw [if_neg]
      intro hal
      rw [alt_app _ _ hal] at ha
      cases ha
theorem Buf.keepR {w w' : World} {B : Nat} {v : Value} {l : List UInt8} (h : Buf w B v l) (hb : Below w.heap.size w w') : Buf w' B v l := by
  rcases h with ⟨h1, ⟨rfl, hn⟩ | ⟨g, cap, cur, rfl, hg, hh, hc, hm, hs, ht⟩⟩
  · exact ⟨h1, .inl ⟨rfl, hn⟩⟩
  · exact ⟨h1, .inr ⟨g, cap, cur, rfl, hg, (hb.block g (by have := (Array.getElem?_eq_some_iff.1 hh).1; omega)).trans hh, hc, hm, hs, ht⟩⟩
theorem row_ne {W : World} {B1 B2 k1 k2 n1 n2 : Nat} {t1 t2 : TypeId} {v1 v2 : Value} {x1 x2 : List Value} (h1 : W.ownsRow B1 t1 k1 v1 n1 x1) (h2 : W.ownsRow B2 t2 k2 v2 n2 x2) (hne : t1 ≠ t2) : v1.ownBlock = none ∨ v1.ownBlock ≠ v2.ownBlock := by
  rcases h1.2 with ⟨rfl, _⟩ | ⟨g, cap, cur, rfl, _, hg, _⟩
  · exact .inl rfl
  · refine .inr (fun e => ?_)
    rcases h2.2 with ⟨rfl, _⟩ | ⟨g', cap', cur', rfl, _, hg', _⟩
    · simp [Value.ownBlock] at e
    · have e2 : g = g' := by simpa [Value.ownBlock] using e
      subst e2
      rw [hg] at hg'
      cases hg'
      exact hne rfl
/-- a piece of three bytes at least, taken apart -/
theorem pr_parts (y : ByteArray) (h : 3 ≤ y.size) : pr y.data.toList = if (y[0] = 48 ∨ y[0] = 49) ∧ y[1] = 120 then (rd 1000000000000000 (y.extract 2 y.size).data.toList).map (fun n => (y[0], n)) else none := by
  obtain ⟨a, b, d, hd⟩ : ∃ a b d, y.data.toList = a :: b :: d := by
    have hz := size_toList y
    cases hl : y.data.toList with
    | nil => rw [hl] at hz; simp at hz; omega
    | cons a r =>
      cases r with
      | nil => rw [hl] at hz; simp at hz; omega
      | cons b d => exact ⟨a, b, d, rfl⟩
  have e0 : y[0] = a := by
    have : y[0] = y.data.toList[0]'(by rw [size_toList]; omega) := rfl
    rw [this]; simp only [hd]; rfl
  have e1 : y[1] = b := by
    have : y[1] = y.data.toList[1]'(by rw [size_toList]; omega) := rfl
    rw [this]; simp only [hd]; rfl
  have e2 : (y.extract 2 y.size).data.toList = d := by
    rw [Lib.extract_eq, hd]
    simp
    have hz := size_toList y
    rw [hd] at hz
    simp at hz
    rw [List.take_of_length_le (by omega)]
  rw [hd, e0, e1, e2]; rfl
theorem pr_short (y : ByteArray) (h : y.size < 3) : pr y.data.toList = none := by
  have hz := size_toList y
  unfold pr
  split
  · rename_i a b d hd
    rw [hd] at hz
    simp at hz
    have : d = [] := by cases d with | nil => rfl | cons _ _ => simp at hz; omega
    subst this
    split
    · have : rd 1000000000000000 [] = none := by
        cases hr : rd 1000000000000000 [] with
        | none => rfl
        | some n =>
          obtain ⟨-, hi⟩ := rd_some hr
          have hz2 := itoa_posR n
          rw [hi] at hz2; simp at hz2
      rw [this]; rfl
    · rfl
  · rfl
set_option maxHeartbeats 4000000 in
set_option maxRecDepth 100000 in
theorem specRr (s : ByteArray) (w : World) (hs : s.size ≤ 1048576) (hne : s ≠ (⟨#[110, 111, 110, 101]⟩ : ByteArray)) :
    Calls Tryd.prog 21 #[.string s] w fun e w' => e = .returned (.tuple #[.string ⟨((rrA s.data.toList).getD []).toArray⟩, .bool (rrA s.data.toList).isSome]) ∧ Below w.heap.size w w' := by
  obtain ⟨i0, hi, hz0, hz1, hz2⟩ := info_parts info_u8
  have n1 : (s.toList == [110, 111, 110, 101]) = false := by
    have := str_ne' (X := s) (s := (⟨#[110, 111, 110, 101]⟩ : ByteArray)) hne
    simpa using this
  clear hne
  go_enter Tryd.func21, Tryd.ntmps21
  go_wp2_with fail
  have hb1 : Below w.heap.size w (w.alloc (.cells #[] 5)) := (Below.refl _ _).alloc (Nat.le_refl _) _
  have HBF := Lib.hid (Buf.lit w)
  refine (specCutG 32 32 rfl s _ hs).mono ?_
  rintro e w2 ⟨pv, rfl, hps, hb2⟩
  rw [World.size_alloc] at hps hb2
  obtain ⟨P, hP⟩ : ∃ P, pcs 32 s.data.toList = P := ⟨_, rfl⟩
  have hPl : P.length ≤ 1048577 := by
    have := pcs_len 32 s.data.toList
    rw [hP, size_toList] at this; omega
  have hPm : Hid (∀ p ∈ P, p.length ≤ 1048576) := by
    intro p hp
    rw [← hP] at hp
    have := pcs_mem_lenS 32 s.data.toList p hp
    rw [size_toList] at this; omega
  rw [hP] at hps
  have HP := Lib.hid hP
  obtain ⟨pa, pc, rfl, -, -⟩ := hps.form
  rw [Bs_len] at hps
  have HPS : Hid (Strs w2 w.heap.size (.slice pa P.length pc) (Bs P)) := hps.low (Nat.le_succ _)
  have HB2 : Hid (Below w.heap.size w w2) := hb1.trans (hb2.mono (Nat.le_succ _))
  have HBF2 : Hid (Buf w2 w.heap.size (.slice (some ⟨w.heap.size, 0, none⟩) 0 0) []) := World.ownsRow.kept HBF.out (row := none) ⟨hb2.os, hb2.tape, hb2.output, hb2.size, fun k hk _ => hb2.block k (by rw [World.size_alloc] at hk; exact hk)⟩ (.inr (by simp [Value.ownBlock]))
  rw [Bs_len]
  clear hps hb1 hb2 hP HBF
  go_wp2
  go_loopw [4, 6] (fun v iv wr => ∃ (i : Nat) (acc : List (UInt8 × Int)), i ≤ P.length ∧ iv = .int .i64 (i : Int) ∧ Hid (rrP (P.take i) = some acc) ∧ Hid (alt acc = true) ∧ Buf wr w.heap.size v (fl acc) ∧ Strs wr w.heap.size (.slice pa P.length pc) (Bs P) ∧ Below w.heap.size w wr) (fun _ iv _ => P.length - (intOf iv).toNat)
  case atStart => exact ⟨0, [], Nat.zero_le _, rfl, rfl, rfl, HBF2.out, HPS.out, HB2.out⟩
  case round =>
    obtain ⟨i, acc, hi1, rfl, HQ, HAL, hbuf, hps, hB⟩ := hrel
    have HBW := Lib.hid hB
    have HB := Lib.hid hbuf
    have HS := Lib.hid hps
    have hsz := hB.size
    obtain ⟨hok, hfl, hal⟩ := rrP_ok _ _ HQ.out
    have HOK := Lib.hid hok
    by_cases hlt : i < P.length
    · have hw1 : IntKind.i64.wrap ((i : Int) + 1) = ((i + 1 : Nat) : Int) := by rw [IntWalk.i64_in _ (by omega)]; omega
      obtain ⟨y, hy⟩ : ∃ y : ByteArray, (⟨P[i].toArray⟩ : ByteArray) = y := ⟨_, rfl⟩
      have hyl : y.data.toList = P[i] := by rw [← hy]
      have hys : y.size ≤ 1048576 := by rw [← size_toList, hyl]; exact hPm.out _ (List.getElem_mem hlt)
      obtain ⟨g, hpa, hcell⟩ : ∃ g, pa = some ⟨g, 0, none⟩ ∧ wr.cell? ⟨g, i, none⟩ = some (.string y) := by
        obtain ⟨a', cap', hv, _, hk⟩ := hps.form
        simp only [Value.slice.injEq] at hv
        obtain ⟨rfl, _, rfl⟩ := hv
        obtain ⟨g, h1, _, _, h2, _⟩ := hk i (by rw [Bs_len]; exact hlt)
        exact ⟨g, h1, by rw [h2, Bs_get, hy]⟩
      subst hpa
      have HPX : Hid (pcs 32 s.data.toList = (P.take i ++ [y.data.toList]) ++ P.drop (i + 1)) := by
        rw [Hid, HP.out, hyl, List.append_assoc, List.singleton_append, ← List.drop_eq_getElem_cons hlt, List.take_append_drop]
      have HNX : Hid (P.take (i + 1) = P.take i ++ [y.data.toList]) := by rw [Hid, List.take_succ_eq_append_getElem hlt, hyl]
      have HBW2 := HBW
      obtain ⟨va, vc, rfl, -, hkk⟩ := hbuf.form
      have HKK := Lib.hid hkk
      clear hyl hy hbuf hps hB hkk hok
      by_cases h3 : y.size < 3
      · have t3 : (y.size : Int) < 3 := by omega
        have HE : Hid (rrA s.data.toList = none) := by
          rw [Hid]; exact rrA_bad HPX.out HQ.out (by left; unfold stP; simp only; rw [pr_short y h3])
        clear h3
        go_wp2
        go_ret2
        exact ⟨by rw [HE.out]; rfl, HBW2.out⟩
      · have hy3 : 3 ≤ y.size := by omega
        have t3 : ¬ (y.size : Int) < 3 := by omega
        have s0 : 0 < y.size := by omega
        have s1 : 1 < y.size := by omega
        have hpr := pr_parts y hy3
        obtain ⟨L, hL⟩ : ∃ L, fl acc = L := ⟨_, rfl⟩
        have HLE : Hid (fl acc = L) := hL
        rw [hL] at HB HKK hfl
        rw [hL]
        clear hL
        by_cases h48 : y[0] = 48
        · have p0 : ((y[0].toNat : Int) != 48) = false := by rw [h48]; rfl
          have hy0 := h48
          clear h48
          by_cases hx : y[1] = 120
          · have x0 : (((y[1].toNat : Int)) != 120) = false := by rw [hx]; rfl
            obtain ⟨d, hd⟩ : ∃ d, y.extract 2 y.size = d := ⟨_, rfl⟩
            have hds : d.size ≤ 1048576 := by rw [← hd, ByteArray.size_extract]; omega
            have HV := Lib.hid (l01Value_any d wr hds)
            rw [hd, if_pos ⟨by rw [hy0]; decide, hx⟩, hy0] at hpr
            have hvb : (y[0].toNat : Int) = 48 := by rw [hy0]; rfl
            clear hds hx hy0
            cases hrd : rd 1000000000000000 d.data.toList with
            | none =>
              rw [hrd] at HV hpr
              have HE : Hid (rrA s.data.toList = none) := by
                rw [Hid]; exact rrA_bad HPX.out HQ.out (by left; unfold stP; simp only; rw [hpr]; rfl)
              clear hpr hrd
              go_wp2_with fail
              refine HV.out.mono ?_; rintro e w3 ⟨rfl, hb3⟩
              have HBW2 := Lib.hid (HBW.out.trans (hb3.mono hsz))
              clear hb3
              go_wp2
              go_quiet (fail)
              go_wp2
              go_ret2
              exact ⟨by rw [HE.out]; rfl, below_drewR HBW2.out _⟩
            | some n =>
              rw [hrd] at HV hpr
              have HPR : Hid (pr y.data.toList = some (48, n)) := hpr
              have hwl : IntKind.i64.wrap (400 - (L.length : Int)) = 400 - (L.length : Int) := IntWalk.i64_in _ (by omega)
              have hnb : n.natAbs ≤ 1000000000000000 := (rd_some hrd).1
              clear hpr hrd
              by_cases hin : 1 ≤ n ∧ n ≤ 400 - (L.length : Int)
              · have HIN : Hid (1 ≤ n ∧ n ≤ 400 - ((fl acc).length : Int)) := by rw [Hid, HLE.out]; exact hin
                obtain ⟨hin1, hin2⟩ := hin
                by_cases hemp : L.length = 0
                · obtain rfl : L = [] := List.length_eq_zero_iff.1 hemp
                  have HACC : Hid (acc = []) := (fl_empty acc HOK.out).1 HLE.out
                  clear hemp
                  go_wp2_with fail
                  refine HV.out.mono ?_; rintro e w3 ⟨rfl, hb3⟩
                  have HB3 : Hid (Buf w3 w.heap.size (.slice va ([] : List UInt8).length vc) []) := HB.out.keepR hb3
                  have HS3 : Hid (Strs w3 w.heap.size (.slice (some ⟨g, 0, none⟩) P.length pc) (Bs P)) := HS.out.keep hb3 (Nat.le_refl _)
                  have HW3 := Lib.hid (HBW.out.trans (hb3.mono hsz))
                  clear hb3
                  have HQ2 : Hid (rrP (P.take (i + 1)) = some (acc ++ [(48, n)])) := by
                    rw [Hid, HNX.out, rrP_snoc, HQ.out]
                    unfold stP
                    simp only
                    rw [HPR.out]
                    simp only
                    rw [if_pos HIN.out]
                  have HA2 : Hid (alt (acc ++ [(48, n)]) = true) := by
                    rw [Hid, alt_snoc, HAL.out]
                    rw [HACC.out]; simp [lastL]
                  have hin1 := HIN.out.1
                  have hin2 := HIN.out.2
                  obtain ⟨N, rfl⟩ := Int.eq_ofNat_of_zero_le (show 0 ≤ n by omega)
                  have HFL : Hid (fl (acc ++ [(48, (N : Int))]) = fl acc ++ List.replicate N 48) := by rw [Hid, fl_snoc]; simp
                  have hNl : ([] : List UInt8).length + N ≤ 400 := by omega
                  have HB30 : Hid (∀ q, Buf (w3.drewN q) w.heap.size (.slice va ([] : List UInt8).length vc) (([] : List UInt8) ++ List.replicate 0 48)) := by intro q; rw [List.replicate_zero, List.append_nil]; exact HB3.out
                  have HS30 : Hid (∀ q, Strs (w3.drewN q) w.heap.size (.slice (some ⟨g, 0, none⟩) P.length pc) (Bs P)) := fun q => HS3.out
                  have HW30 : Hid (∀ q, Below w.heap.size w (w3.drewN q)) := fun q => below_drewR HW3.out q
                  clear hin1 hin2
                  go_wp2
                  go_quiet (first | (go_at_call 42; exact quiet_eqR (l00In_t _ _ _ _ (by omega) (by omega))) | (go_at_call 42; exact quiet_eqR (l00In_f _ _ _ _ (by omega))))
                  go_wp2
                  go_loopw [4, 8] (fun v nv wz => ∃ (v4 : Value) (k m : Nat), v4 = v ∧ m + k = N ∧ nv = .int .i64 (k : Int) ∧ Hid (Buf wz w.heap.size v4 (([] : List UInt8) ++ List.replicate m 48)) ∧ Hid (Strs wz w.heap.size (.slice (some ⟨g, 0, none⟩) P.length pc) (Bs P)) ∧ Hid (Below w.heap.size w wz)) (fun _ nv _ => (intOf nv).toNat)
                  case atStart => exact ⟨_, N, 0, rfl, by omega, rfl, HB30.out _, HS30.out _, HW30.out _⟩
                  case round =>
                    obtain ⟨v4, k, m, rfl, hkm, rfl, HB4, HS4, HW4⟩ := hrel
                    have hsz4 := HW4.out.size
                    have hll : (([] : List UInt8) ++ List.replicate m 48).length ≤ 400 := by simp; omega
                    cases k with
                    | zero =>
                      have hm : m = N := by omega
                      have HB5 : Hid (Buf wr w.heap.size v4 (fl (acc ++ [(48, (N : Int))]))) := by rw [Hid, HFL.out, HLE.out]; rw [hm] at HB4; exact HB4.out
                      clear hm hkm
                      go_wp2
                      go_roundw
                      case rel => exact ⟨i + 1, _, by omega, by go_num, HQ2, HA2, HB5.out, HS4.out, HW4.out⟩
                      case measure => simp [intOf]; omega
                    | succ k =>
                      have hpos : (0 : Int) < ((k + 1 : Nat) : Int) := by omega
                      have hwk : IntKind.i64.wrap (((k + 1 : Nat) : Int) - 1) = (k : Int) := by rw [IntWalk.i64_in _ (by omega)]; omega
                      have hwk2 : ((k + 1 : Nat) : Int) - 1 = (k : Int) := by omega
                      go_wp2_with (at_builtin; refine wpList_append_own _ rfl _ _ 43 rfl w.heap.size 5 i0 (.int .u8 0) 1 1 Tryd.underlying43 hi hz0 hz1 hz2 rfl (by decide) _ _ _ rfl (World.ownsRow.alloc HB4.out _) ⟨wr.heap.size, 0, none⟩ 1 1 [.int .u8 ((48 : UInt8).toNat : Int)] rfl rfl ?c1 ?c2 ?c3 ?c4 ?c5 ?_)
                      try (case c1 => exact cell_one_new _ _ _)
                      case c2 => simp [Value.oneCell']
                      case c3 => unfold maxLen; omega
                      case c4 => omega
                      case c5 => simp; omega
                      intro v' w5 hown' hgrow _
                      have HB6 : Hid (Buf w5 w.heap.size v' (([] : List UInt8) ++ List.replicate (m + 1) 48)) := by rw [Hid, List.replicate_succ', ← List.append_assoc]; exact Buf.snoc (by first | exact hown' | simpa using hown')
                      have HS6 : Hid (Strs w5 w.heap.size (.slice (some ⟨g, 0, none⟩) P.length pc) (Bs P)) := World.ownsRow.kept (World.ownsRow.alloc HS4.out _) hgrow (row_ne HS4.out HB4.out (by decide))
                      have HW6 := Lib.hid (Buf.below HW4.out HB4.out _ hgrow)
                      clear hown' hgrow
                      go_wp2
                      go_roundw
                      case rel => exact ⟨_, k, m + 1, rfl, by omega, by first | rfl | go_num, HB6, HS6, HW6⟩
                      case measure => first | (simp [intOf]; done) | (simp [intOf]; omega)
                · obtain ⟨p, hp⟩ : ∃ p, L.length = p + 1 := ⟨L.length - 1, by omega⟩
                  have hplt : p < L.length := by omega
                  obtain ⟨g2, hva, hg2, hcl⟩ := HKK.out p hplt
                  subst hva
                  have HLAST : Hid (lastL acc = some L[p]) := by
                    rw [Hid, ← fl_last acc HOK.out, HLE.out, List.getLast?_eq_getElem?, hp, Nat.add_sub_cancel, List.getElem?_eq_getElem hplt]
                  obtain ⟨z, hz⟩ : ∃ z, L[p] = z := ⟨_, rfl⟩
                  rw [hz] at HLAST hcl
                  rw [hp]
                  go_wp2_with fail
                  refine HV.out.mono ?_; rintro e w3 ⟨rfl, hb3⟩
                  have HB3 : Hid (Buf w3 w.heap.size (.slice (some ⟨g2, 0, none⟩) L.length vc) L) := HB.out.keepR hb3
                  have HS3 : Hid (Strs w3 w.heap.size (.slice (some ⟨g, 0, none⟩) P.length pc) (Bs P)) := HS.out.keep hb3 (Nat.le_refl _)
                  have HW3 := Lib.hid (HBW.out.trans (hb3.mono hsz))
                  have hcl3 : w3.cell? ⟨g2, p, none⟩ = some (.int .u8 (z.toNat : Int)) := (hb3.cell (p := ⟨g2, p, none⟩) hg2).trans hcl
                  have hwp : IntKind.i64.wrap (((p + 1 : Nat) : Int) - 1) = (p : Int) := by rw [IntWalk.i64_in _ (by omega)]; omega
                  have HLP := Lib.hid hp
                  rw [hp] at HB3 hwl
                  have hp4 : p + 1 ≤ 400 := by omega
                  clear hb3 hz hplt hcl hemp hp
                  by_cases hzc : z = 48
                  · have zc : ((z.toNat : Int) == 48) = true := by rw [hzc]; rfl
                    have HE : Hid (rrA s.data.toList = none) := by
                      rw [Hid]
                      refine rrA_bad HPX.out HQ.out (.inr ⟨(48, n), ?_, ?_⟩)
                      · unfold stP; simp only; rw [HPR.out]; simp only; rw [if_pos HIN.out]
                      · rw [alt_snoc, HLAST.out, hzc]; simp
                    clear hzc
                    have hin3 : n ≤ 400 - ((p + 1 : Nat) : Int) := by have := HLP.out; omega
                    go_wp2
                    go_quiet (first | (go_at_call 42; exact quiet_eqR (l00In_t _ _ _ _ (by omega) (by omega))) | (go_at_call 42; exact quiet_eqR (l00In_f _ _ _ _ (by omega))))
                    go_wp2
                    go_ret2
                    exact ⟨by rw [HE.out]; rfl, below_drewR HW3.out _⟩
                  · have zc : ((z.toNat : Int) == 48) = false := by
                      simp only [beq_eq_false_iff_ne, ne_eq]
                      intro e
                      exact hzc (UInt8.toNat_inj.1 (by have : (48 : UInt8).toNat = 48 := rfl; omega))
                    have HZC := Lib.hid hzc
                    clear hzc
                    have hin3 : n ≤ 400 - ((p + 1 : Nat) : Int) := by have := HLP.out; omega
                    have HQ2 : Hid (rrP (P.take (i + 1)) = some (acc ++ [(48, n)])) := by
                      rw [Hid, HNX.out, rrP_snoc, HQ.out]
                      unfold stP
                      simp only
                      rw [HPR.out]
                      simp only
                      rw [if_pos HIN.out]
                    have HA2 : Hid (alt (acc ++ [(48, n)]) = true) := by
                      rw [Hid, alt_snoc, HAL.out]
                      rw [HLAST.out]; simp; exact HZC.out
                    have hin1 := HIN.out.1
                    have hin2 := HIN.out.2
                    obtain ⟨N, rfl⟩ := Int.eq_ofNat_of_zero_le (show 0 ≤ n by omega)
                    have HFL : Hid (fl (acc ++ [(48, (N : Int))]) = fl acc ++ List.replicate N 48) := by rw [Hid, fl_snoc]; simp
                    have hNl : L.length + N ≤ 400 := by omega
                    have HB30 : Hid (∀ q, Buf (w3.drewN q) w.heap.size (.slice (some ⟨g2, 0, none⟩) (p + 1) vc) (L ++ List.replicate 0 48)) := by intro q; rw [List.replicate_zero, List.append_nil]; exact HB3.out
                    have HS30 : Hid (∀ q, Strs (w3.drewN q) w.heap.size (.slice (some ⟨g, 0, none⟩) P.length pc) (Bs P)) := fun q => HS3.out
                    have HW30 : Hid (∀ q, Below w.heap.size w (w3.drewN q)) := fun q => below_drewR HW3.out q
                    clear hin1 hin2
                    go_wp2
                    go_quiet (first | (go_at_call 42; exact quiet_eqR (l00In_t _ _ _ _ (by omega) (by omega))) | (go_at_call 42; exact quiet_eqR (l00In_f _ _ _ _ (by omega))))
                    go_wp2
                    go_loopw [4, 8] (fun v nv wz => ∃ (v4 : Value) (k m : Nat), v4 = v ∧ m + k = N ∧ nv = .int .i64 (k : Int) ∧ Hid (Buf wz w.heap.size v4 (L ++ List.replicate m 48)) ∧ Hid (Strs wz w.heap.size (.slice (some ⟨g, 0, none⟩) P.length pc) (Bs P)) ∧ Hid (Below w.heap.size w wz)) (fun _ nv _ => (intOf nv).toNat)
                    case atStart => exact ⟨_, N, 0, rfl, by omega, rfl, HB30.out _, HS30.out _, HW30.out _⟩
                    case round =>
                      obtain ⟨v4, k, m, rfl, hkm, rfl, HB4, HS4, HW4⟩ := hrel
                      have hsz4 := HW4.out.size
                      have hll : (L ++ List.replicate m 48).length ≤ 400 := by simp; omega
                      cases k with
                      | zero =>
                        have hm : m = N := by omega
                        have HB5 : Hid (Buf wr w.heap.size v4 (fl (acc ++ [(48, (N : Int))]))) := by rw [Hid, HFL.out, HLE.out]; rw [hm] at HB4; exact HB4.out
                        clear hm hkm
                        go_wp2
                        go_roundw
                        case rel => exact ⟨i + 1, _, by omega, by go_num, HQ2, HA2, HB5.out, HS4.out, HW4.out⟩
                        case measure => simp [intOf]; omega
                      | succ k =>
                        have hpos : (0 : Int) < ((k + 1 : Nat) : Int) := by omega
                        have hwk : IntKind.i64.wrap (((k + 1 : Nat) : Int) - 1) = (k : Int) := by rw [IntWalk.i64_in _ (by omega)]; omega
                        have hwk2 : ((k + 1 : Nat) : Int) - 1 = (k : Int) := by omega
                        go_wp2_with (at_builtin; refine wpList_append_own _ rfl _ _ 43 rfl w.heap.size 5 i0 (.int .u8 0) 1 1 Tryd.underlying43 hi hz0 hz1 hz2 rfl (by decide) _ _ _ rfl (World.ownsRow.alloc HB4.out _) ⟨wr.heap.size, 0, none⟩ 1 1 [.int .u8 ((48 : UInt8).toNat : Int)] rfl rfl ?c1 ?c2 ?c3 ?c4 ?c5 ?_)
                        try (case c1 => exact cell_one_new _ _ _)
                        case c2 => simp [Value.oneCell']
                        case c3 => unfold maxLen; omega
                        case c4 => omega
                        case c5 => simp; omega
                        intro v' w5 hown' hgrow _
                        have HB6 : Hid (Buf w5 w.heap.size v' (L ++ List.replicate (m + 1) 48)) := by rw [Hid, List.replicate_succ', ← List.append_assoc]; exact Buf.snoc (by first | exact hown' | simpa using hown')
                        have HS6 : Hid (Strs w5 w.heap.size (.slice (some ⟨g, 0, none⟩) P.length pc) (Bs P)) := World.ownsRow.kept (World.ownsRow.alloc HS4.out _) hgrow (row_ne HS4.out HB4.out (by decide))
                        have HW6 := Lib.hid (Buf.below HW4.out HB4.out _ hgrow)
                        clear hown' hgrow
                        go_wp2
                        go_roundw
                        case rel => exact ⟨_, k, m + 1, rfl, by omega, by first | rfl | go_num, HB6, HS6, HW6⟩
                        case measure => first | (simp [intOf]; done) | (simp [intOf]; omega)
              · have hno : n < 1 ∨ 400 - (L.length : Int) < n := by omega
                have HE : Hid (rrA s.data.toList = none) := by
                  rw [Hid]; exact rrA_bad HPX.out HQ.out (by left; unfold stP; simp only; rw [HPR.out]; simp only; rw [if_neg (by rw [HLE.out]; exact hin)])
                clear hin
                go_wp2_with fail
                refine HV.out.mono ?_; rintro e w3 ⟨rfl, hb3⟩
                have HW3 := Lib.hid (HBW.out.trans (hb3.mono hsz))
                clear hb3
                go_wp2
                go_quiet (first | (go_at_call 42; exact quiet_eqR (l00In_t _ _ _ _ (by omega) (by omega))) | (go_at_call 42; exact quiet_eqR (l00In_f _ _ _ _ (by omega))))
                go_wp2
                go_ret2
                exact ⟨by rw [HE.out]; rfl, below_drewR HW3.out _⟩
          · have x0 : (((y[1].toNat : Int)) != 120) = true := by
              simp only [bne_iff_ne, ne_eq]
              intro e
              exact hx (UInt8.toNat_inj.1 (by have : (120 : UInt8).toNat = 120 := rfl; omega))
            rw [if_neg (fun h => hx h.2)] at hpr
            have HE : Hid (rrA s.data.toList = none) := by
              rw [Hid]; exact rrA_bad HPX.out HQ.out (by left; unfold stP; simp only; rw [hpr])
            clear hx hpr hy0
            go_wp2
            go_ret2
            exact ⟨by rw [HE.out]; rfl, HBW2.out⟩
        · have p0 : ((y[0].toNat : Int) != 48) = true := by
            simp only [bne_iff_ne, ne_eq]
            intro e
            exact h48 (UInt8.toNat_inj.1 (by have : (48 : UInt8).toNat = 48 := rfl; omega))
          by_cases h49 : y[0] = 49
          · have p1 : ((y[0].toNat : Int) != 49) = false := by rw [h49]; rfl
            have hy0 := h49
            clear h49 h48
            by_cases hx : y[1] = 120
            · have x0 : (((y[1].toNat : Int)) != 120) = false := by rw [hx]; rfl
              obtain ⟨d, hd⟩ : ∃ d, y.extract 2 y.size = d := ⟨_, rfl⟩
              have hds : d.size ≤ 1048576 := by rw [← hd, ByteArray.size_extract]; omega
              have HV := Lib.hid (l01Value_any d wr hds)
              rw [hd, if_pos ⟨by rw [hy0]; decide, hx⟩, hy0] at hpr
              have hvb : (y[0].toNat : Int) = 49 := by rw [hy0]; rfl
              clear hds hx hy0
              cases hrd : rd 1000000000000000 d.data.toList with
              | none =>
                rw [hrd] at HV hpr
                have HE : Hid (rrA s.data.toList = none) := by
                  rw [Hid]; exact rrA_bad HPX.out HQ.out (by left; unfold stP; simp only; rw [hpr]; rfl)
                clear hpr hrd
                go_wp2_with fail
                refine HV.out.mono ?_; rintro e w3 ⟨rfl, hb3⟩
                have HBW2 := Lib.hid (HBW.out.trans (hb3.mono hsz))
                clear hb3
                go_wp2
                go_quiet (fail)
                go_wp2
                go_ret2
                exact ⟨by rw [HE.out]; rfl, below_drewR HBW2.out _⟩
              | some n =>
                rw [hrd] at HV hpr
                have HPR : Hid (pr y.data.toList = some (49, n)) := hpr
                have hwl : IntKind.i64.wrap (400 - (L.length : Int)) = 400 - (L.length : Int) := IntWalk.i64_in _ (by omega)
                have hnb : n.natAbs ≤ 1000000000000000 := (rd_some hrd).1
                clear hpr hrd
                by_cases hin : 1 ≤ n ∧ n ≤ 400 - (L.length : Int)
                · have HIN : Hid (1 ≤ n ∧ n ≤ 400 - ((fl acc).length : Int)) := by rw [Hid, HLE.out]; exact hin
                  obtain ⟨hin1, hin2⟩ := hin
                  by_cases hemp : L.length = 0
                  · obtain rfl : L = [] := List.length_eq_zero_iff.1 hemp
                    have HACC : Hid (acc = []) := (fl_empty acc HOK.out).1 HLE.out
                    clear hemp
                    go_wp2_with fail
                    refine HV.out.mono ?_; rintro e w3 ⟨rfl, hb3⟩
                    have HB3 : Hid (Buf w3 w.heap.size (.slice va ([] : List UInt8).length vc) []) := HB.out.keepR hb3
                    have HS3 : Hid (Strs w3 w.heap.size (.slice (some ⟨g, 0, none⟩) P.length pc) (Bs P)) := HS.out.keep hb3 (Nat.le_refl _)
                    have HW3 := Lib.hid (HBW.out.trans (hb3.mono hsz))
                    clear hb3
                    have HQ2 : Hid (rrP (P.take (i + 1)) = some (acc ++ [(49, n)])) := by
                      rw [Hid, HNX.out, rrP_snoc, HQ.out]
                      unfold stP
                      simp only
                      rw [HPR.out]
                      simp only
                      rw [if_pos HIN.out]
                    have HA2 : Hid (alt (acc ++ [(49, n)]) = true) := by
                      rw [Hid, alt_snoc, HAL.out]
                      rw [HACC.out]; simp [lastL]
                    have hin1 := HIN.out.1
                    have hin2 := HIN.out.2
                    obtain ⟨N, rfl⟩ := Int.eq_ofNat_of_zero_le (show 0 ≤ n by omega)
                    have HFL : Hid (fl (acc ++ [(49, (N : Int))]) = fl acc ++ List.replicate N 49) := by rw [Hid, fl_snoc]; simp
                    have hNl : ([] : List UInt8).length + N ≤ 400 := by omega
                    have HB30 : Hid (∀ q, Buf (w3.drewN q) w.heap.size (.slice va ([] : List UInt8).length vc) (([] : List UInt8) ++ List.replicate 0 49)) := by intro q; rw [List.replicate_zero, List.append_nil]; exact HB3.out
                    have HS30 : Hid (∀ q, Strs (w3.drewN q) w.heap.size (.slice (some ⟨g, 0, none⟩) P.length pc) (Bs P)) := fun q => HS3.out
                    have HW30 : Hid (∀ q, Below w.heap.size w (w3.drewN q)) := fun q => below_drewR HW3.out q
                    clear hin1 hin2
                    go_wp2
                    go_quiet (first | (go_at_call 42; exact quiet_eqR (l00In_t _ _ _ _ (by omega) (by omega))) | (go_at_call 42; exact quiet_eqR (l00In_f _ _ _ _ (by omega))))
                    go_wp2
                    go_loopw [4, 8] (fun v nv wz => ∃ (v4 : Value) (k m : Nat), v4 = v ∧ m + k = N ∧ nv = .int .i64 (k : Int) ∧ Hid (Buf wz w.heap.size v4 (([] : List UInt8) ++ List.replicate m 49)) ∧ Hid (Strs wz w.heap.size (.slice (some ⟨g, 0, none⟩) P.length pc) (Bs P)) ∧ Hid (Below w.heap.size w wz)) (fun _ nv _ => (intOf nv).toNat)
                    case atStart => exact ⟨_, N, 0, rfl, by omega, rfl, HB30.out _, HS30.out _, HW30.out _⟩
                    case round =>
                      obtain ⟨v4, k, m, rfl, hkm, rfl, HB4, HS4, HW4⟩ := hrel
                      have hsz4 := HW4.out.size
                      have hll : (([] : List UInt8) ++ List.replicate m 49).length ≤ 400 := by simp; omega
                      cases k with
                      | zero =>
                        have hm : m = N := by omega
                        have HB5 : Hid (Buf wr w.heap.size v4 (fl (acc ++ [(49, (N : Int))]))) := by rw [Hid, HFL.out, HLE.out]; rw [hm] at HB4; exact HB4.out
                        clear hm hkm
                        go_wp2
                        go_roundw
                        case rel => exact ⟨i + 1, _, by omega, by go_num, HQ2, HA2, HB5.out, HS4.out, HW4.out⟩
                        case measure => simp [intOf]; omega
                      | succ k =>
                        have hpos : (0 : Int) < ((k + 1 : Nat) : Int) := by omega
                        have hwk : IntKind.i64.wrap (((k + 1 : Nat) : Int) - 1) = (k : Int) := by rw [IntWalk.i64_in _ (by omega)]; omega
                        have hwk2 : ((k + 1 : Nat) : Int) - 1 = (k : Int) := by omega
                        go_wp2_with (at_builtin; refine wpList_append_own _ rfl _ _ 43 rfl w.heap.size 5 i0 (.int .u8 0) 1 1 Tryd.underlying43 hi hz0 hz1 hz2 rfl (by decide) _ _ _ rfl (World.ownsRow.alloc HB4.out _) ⟨wr.heap.size, 0, none⟩ 1 1 [.int .u8 ((49 : UInt8).toNat : Int)] rfl rfl ?c1 ?c2 ?c3 ?c4 ?c5 ?_)
                        try (case c1 => exact cell_one_new _ _ _)
                        case c2 => simp [Value.oneCell']
                        case c3 => unfold maxLen; omega
                        case c4 => omega
                        case c5 => simp; omega
                        intro v' w5 hown' hgrow _
                        have HB6 : Hid (Buf w5 w.heap.size v' (([] : List UInt8) ++ List.replicate (m + 1) 49)) := by rw [Hid, List.replicate_succ', ← List.append_assoc]; exact Buf.snoc (by first | exact hown' | simpa using hown')
                        have HS6 : Hid (Strs w5 w.heap.size (.slice (some ⟨g, 0, none⟩) P.length pc) (Bs P)) := World.ownsRow.kept (World.ownsRow.alloc HS4.out _) hgrow (row_ne HS4.out HB4.out (by decide))
                        have HW6 := Lib.hid (Buf.below HW4.out HB4.out _ hgrow)
                        clear hown' hgrow
                        go_wp2
                        go_roundw
                        case rel => exact ⟨_, k, m + 1, rfl, by omega, by first | rfl | go_num, HB6, HS6, HW6⟩
                        case measure => first | (simp [intOf]; done) | (simp [intOf]; omega)
                  · obtain ⟨p, hp⟩ : ∃ p, L.length = p + 1 := ⟨L.length - 1, by omega⟩
                    have hplt : p < L.length := by omega
                    obtain ⟨g2, hva, hg2, hcl⟩ := HKK.out p hplt
                    subst hva
                    have HLAST : Hid (lastL acc = some L[p]) := by
                      rw [Hid, ← fl_last acc HOK.out, HLE.out, List.getLast?_eq_getElem?, hp, Nat.add_sub_cancel, List.getElem?_eq_getElem hplt]
                    obtain ⟨z, hz⟩ : ∃ z, L[p] = z := ⟨_, rfl⟩
                    rw [hz] at HLAST hcl
                    rw [hp]
                    go_wp2_with fail
                    refine HV.out.mono ?_; rintro e w3 ⟨rfl, hb3⟩
                    have HB3 : Hid (Buf w3 w.heap.size (.slice (some ⟨g2, 0, none⟩) L.length vc) L) := HB.out.keepR hb3
                    have HS3 : Hid (Strs w3 w.heap.size (.slice (some ⟨g, 0, none⟩) P.length pc) (Bs P)) := HS.out.keep hb3 (Nat.le_refl _)
                    have HW3 := Lib.hid (HBW.out.trans (hb3.mono hsz))
                    have hcl3 : w3.cell? ⟨g2, p, none⟩ = some (.int .u8 (z.toNat : Int)) := (hb3.cell (p := ⟨g2, p, none⟩) hg2).trans hcl
                    have hwp : IntKind.i64.wrap (((p + 1 : Nat) : Int) - 1) = (p : Int) := by rw [IntWalk.i64_in _ (by omega)]; omega
                    have HLP := Lib.hid hp
                    rw [hp] at HB3 hwl
                    have hp4 : p + 1 ≤ 400 := by omega
                    clear hb3 hz hplt hcl hemp hp
                    by_cases hzc : z = 49
                    · have zc : ((z.toNat : Int) == 49) = true := by rw [hzc]; rfl
                      have HE : Hid (rrA s.data.toList = none) := by
                        rw [Hid]
                        refine rrA_bad HPX.out HQ.out (.inr ⟨(49, n), ?_, ?_⟩)
                        · unfold stP; simp only; rw [HPR.out]; simp only; rw [if_pos HIN.out]
                        · rw [alt_snoc, HLAST.out, hzc]; simp
                      clear hzc
                      have hin3 : n ≤ 400 - ((p + 1 : Nat) : Int) := by have := HLP.out; omega
                      go_wp2
                      go_quiet (first | (go_at_call 42; exact quiet_eqR (l00In_t _ _ _ _ (by omega) (by omega))) | (go_at_call 42; exact quiet_eqR (l00In_f _ _ _ _ (by omega))))
                      go_wp2
                      go_ret2
                      exact ⟨by rw [HE.out]; rfl, below_drewR HW3.out _⟩
                    · have zc : ((z.toNat : Int) == 49) = false := by
                        simp only [beq_eq_false_iff_ne, ne_eq]
                        intro e
                        exact hzc (UInt8.toNat_inj.1 (by have : (49 : UInt8).toNat = 49 := rfl; omega))
                      have HZC := Lib.hid hzc
                      clear hzc
                      have hin3 : n ≤ 400 - ((p + 1 : Nat) : Int) := by have := HLP.out; omega
                      have HQ2 : Hid (rrP (P.take (i + 1)) = some (acc ++ [(49, n)])) := by
                        rw [Hid, HNX.out, rrP_snoc, HQ.out]
                        unfold stP
                        simp only
                        rw [HPR.out]
                        simp only
                        rw [if_pos HIN.out]
                      have HA2 : Hid (alt (acc ++ [(49, n)]) = true) := by
                        rw [Hid, alt_snoc, HAL.out]
                        rw [HLAST.out]; simp; exact HZC.out
                      have hin1 := HIN.out.1
                      have hin2 := HIN.out.2
                      obtain ⟨N, rfl⟩ := Int.eq_ofNat_of_zero_le (show 0 ≤ n by omega)
                      have HFL : Hid (fl (acc ++ [(49, (N : Int))]) = fl acc ++ List.replicate N 49) := by rw [Hid, fl_snoc]; simp
                      have hNl : L.length + N ≤ 400 := by omega
                      have HB30 : Hid (∀ q, Buf (w3.drewN q) w.heap.size (.slice (some ⟨g2, 0, none⟩) (p + 1) vc) (L ++ List.replicate 0 49)) := by intro q; rw [List.replicate_zero, List.append_nil]; exact HB3.out
                      have HS30 : Hid (∀ q, Strs (w3.drewN q) w.heap.size (.slice (some ⟨g, 0, none⟩) P.length pc) (Bs P)) := fun q => HS3.out
                      have HW30 : Hid (∀ q, Below w.heap.size w (w3.drewN q)) := fun q => below_drewR HW3.out q
                      clear hin1 hin2
                      go_wp2
                      go_quiet (first | (go_at_call 42; exact quiet_eqR (l00In_t _ _ _ _ (by omega) (by omega))) | (go_at_call 42; exact quiet_eqR (l00In_f _ _ _ _ (by omega))))
                      go_wp2
                      go_loopw [4, 8] (fun v nv wz => ∃ (v4 : Value) (k m : Nat), v4 = v ∧ m + k = N ∧ nv = .int .i64 (k : Int) ∧ Hid (Buf wz w.heap.size v4 (L ++ List.replicate m 49)) ∧ Hid (Strs wz w.heap.size (.slice (some ⟨g, 0, none⟩) P.length pc) (Bs P)) ∧ Hid (Below w.heap.size w wz)) (fun _ nv _ => (intOf nv).toNat)
                      case atStart => exact ⟨_, N, 0, rfl, by omega, rfl, HB30.out _, HS30.out _, HW30.out _⟩
                      case round =>
                        obtain ⟨v4, k, m, rfl, hkm, rfl, HB4, HS4, HW4⟩ := hrel
                        have hsz4 := HW4.out.size
                        have hll : (L ++ List.replicate m 49).length ≤ 400 := by simp; omega
                        cases k with
                        | zero =>
                          have hm : m = N := by omega
                          have HB5 : Hid (Buf wr w.heap.size v4 (fl (acc ++ [(49, (N : Int))]))) := by rw [Hid, HFL.out, HLE.out]; rw [hm] at HB4; exact HB4.out
                          clear hm hkm
                          go_wp2
                          go_roundw
                          case rel => exact ⟨i + 1, _, by omega, by go_num, HQ2, HA2, HB5.out, HS4.out, HW4.out⟩
                          case measure => simp [intOf]; omega
                        | succ k =>
                          have hpos : (0 : Int) < ((k + 1 : Nat) : Int) := by omega
                          have hwk : IntKind.i64.wrap (((k + 1 : Nat) : Int) - 1) = (k : Int) := by rw [IntWalk.i64_in _ (by omega)]; omega
                          have hwk2 : ((k + 1 : Nat) : Int) - 1 = (k : Int) := by omega
                          go_wp2_with (at_builtin; refine wpList_append_own _ rfl _ _ 43 rfl w.heap.size 5 i0 (.int .u8 0) 1 1 Tryd.underlying43 hi hz0 hz1 hz2 rfl (by decide) _ _ _ rfl (World.ownsRow.alloc HB4.out _) ⟨wr.heap.size, 0, none⟩ 1 1 [.int .u8 ((49 : UInt8).toNat : Int)] rfl rfl ?c1 ?c2 ?c3 ?c4 ?c5 ?_)
                          try (case c1 => exact cell_one_new _ _ _)
                          case c2 => simp [Value.oneCell']
                          case c3 => unfold maxLen; omega
                          case c4 => omega
                          case c5 => simp; omega
                          intro v' w5 hown' hgrow _
                          have HB6 : Hid (Buf w5 w.heap.size v' (L ++ List.replicate (m + 1) 49)) := by rw [Hid, List.replicate_succ', ← List.append_assoc]; exact Buf.snoc (by first | exact hown' | simpa using hown')
                          have HS6 : Hid (Strs w5 w.heap.size (.slice (some ⟨g, 0, none⟩) P.length pc) (Bs P)) := World.ownsRow.kept (World.ownsRow.alloc HS4.out _) hgrow (row_ne HS4.out HB4.out (by decide))
                          have HW6 := Lib.hid (Buf.below HW4.out HB4.out _ hgrow)
                          clear hown' hgrow
                          go_wp2
                          go_roundw
                          case rel => exact ⟨_, k, m + 1, rfl, by omega, by first | rfl | go_num, HB6, HS6, HW6⟩
                          case measure => first | (simp [intOf]; done) | (simp [intOf]; omega)
                · have hno : n < 1 ∨ 400 - (L.length : Int) < n := by omega
                  have HE : Hid (rrA s.data.toList = none) := by
                    rw [Hid]; exact rrA_bad HPX.out HQ.out (by left; unfold stP; simp only; rw [HPR.out]; simp only; rw [if_neg (by rw [HLE.out]; exact hin)])
                  clear hin
                  go_wp2_with fail
                  refine HV.out.mono ?_; rintro e w3 ⟨rfl, hb3⟩
                  have HW3 := Lib.hid (HBW.out.trans (hb3.mono hsz))
                  clear hb3
                  go_wp2
                  go_quiet (first | (go_at_call 42; exact quiet_eqR (l00In_t _ _ _ _ (by omega) (by omega))) | (go_at_call 42; exact quiet_eqR (l00In_f _ _ _ _ (by omega))))
                  go_wp2
                  go_ret2
                  exact ⟨by rw [HE.out]; rfl, below_drewR HW3.out _⟩
            · have x0 : (((y[1].toNat : Int)) != 120) = true := by
                simp only [bne_iff_ne, ne_eq]
                intro e
                exact hx (UInt8.toNat_inj.1 (by have : (120 : UInt8).toNat = 120 := rfl; omega))
              rw [if_neg (fun h => hx h.2)] at hpr
              have HE : Hid (rrA s.data.toList = none) := by
                rw [Hid]; exact rrA_bad HPX.out HQ.out (by left; unfold stP; simp only; rw [hpr])
              clear hx hpr hy0
              go_wp2
              go_ret2
              exact ⟨by rw [HE.out]; rfl, HBW2.out⟩
          · have p1 : ((y[0].toNat : Int) != 49) = true := by
              simp only [bne_iff_ne, ne_eq]
              intro e
              exact h49 (UInt8.toNat_inj.1 (by have : (49 : UInt8).toNat = 49 := rfl; omega))
            rw [if_neg (fun h => h.1.elim h48 h49)] at hpr
            have HE : Hid (rrA s.data.toList = none) := by
              rw [Hid]; exact rrA_bad HPX.out HQ.out (by left; unfold stP; simp only; rw [hpr])
            clear h48 h49 hpr
            go_wp2
            go_ret2
            exact ⟨by rw [HE.out]; rfl, HBW2.out⟩
    · have hie : P.take i = P := List.take_of_length_le (by omega)
      have HE : Hid (rrA s.data.toList = some (fl acc)) := by
        rw [Hid]
        unfold rrA
        rw [HP.out, ← hie, HQ.out]
        simp only
        rw [if_pos HAL.out]
      have hconv := run_buf_string _ _ _ _ hbuf
      clear hbuf hps hB hok hie
      go_wp2
      go_ret2
      exact ⟨by rw [HE.out]; rfl, HBW.out⟩
end Go.Proofs.YtemjohkieehojaaDoor
