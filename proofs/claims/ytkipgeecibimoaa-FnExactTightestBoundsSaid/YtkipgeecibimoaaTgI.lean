/- TightestBounds: the program's side. -/
import Derived.Test.YtkipgeecibimoaaTgS
import Derived.Test.YtkipgeecibimoaaGapI
namespace Go.Proofs.Ytkipgeecibimoaa
open Go.RowKit
set_option linter.unusedVariables false
set_option linter.unusedSimpArgs false

theorem tg_key {e : Int} {nb : Nat} {F : List Int} {M : Nat → Nat → Int} {D : Nat → Trails} (hd : diaB e nb F = true) (hL : Least (keptB F [] nb) e.toNat D) (hM : TgM e nb F M) :
    TgP e nb F M ∧ ∀ i k, i < e.toNat → k < e.toNat → (∀ p, GI D (i : Int) (k : Int) = some p → p.2 = M i k) ∧ (GI D (i : Int) (k : Int) = none → M i k = 1000000) := by
  obtain ⟨he1, he2, hnb, -⟩ := diaB_okG hd
  obtain ⟨n, rfl⟩ : ∃ n : Nat, e = (n : Int) := ⟨e.toNat, by omega⟩
  have hfs := keptB_in (W := []) (dia_fs hd)
  have en : ((n : Int)).toNat = n := by simp
  obtain ⟨q1, q2⟩ := hM hd
  rw [en] at hL q1 q2
  obtain ⟨d0, tb⟩ := least_table hfs (by omega) hL q1 q2
  refine ⟨⟨hd, fun a ha => d0 a (by simpa using ha)⟩, fun i k hi hk => ?_⟩
  rw [en] at hi hk
  rw [GI_nat]
  refine ⟨fun p hp => ?_, fun hp => ?_⟩
  · obtain ⟨x, hx, rfl⟩ := Option.map_eq_some_iff.1 hp
    exact ((tb i k hi hk).1 x.1 x.2 hx).1.symm
  · cases hx : D i k with
    | none => exact (tb i k hi hk).2 hx
    | some x => rw [hx] at hp; cases hp
theorem tg_nil {e : Int} {nb : Nat} {F : List Int} {M : Nat → Nat → Int} (hn : diaB e nb F = true → NegRing (keptB F [] nb) e.toNat) (hM : TgM e nb F M) : ¬ TgP e nb F M := by
  rintro ⟨hd, h3⟩
  obtain ⟨n, rfl⟩ : ∃ n : Nat, e = (n : Int) := ⟨e.toNat, by have := (diaB_okG hd).1; omega⟩
  have hfs := keptB_in (W := []) (dia_fs hd)
  obtain ⟨q1, q2⟩ := hM hd
  have hr := hn hd
  rw [show ((n : Int)).toNat = n by simp] at q1 q2 hr h3
  obtain ⟨a, ha, hlt⟩ := ring_table hfs hr q2
  have := h3 a ha
  omega
/-- the outer row, of which the first k rows are whole and those behind row k are nil -/
structure TgO (w : World) (B go n k : Nat) (M : Nat → Nat → Int) (g c : Nat → Nat) : Prop where
  hgo : B ≤ go
  hlt : go < w.heap.size
  cel : ∀ i, i < n → i ≠ k → w.cell? ⟨go, i, none⟩ = some (if i < k then .slice (some ⟨g i, 0, none⟩) n (c i) else .slice none 0 0)
  frz : ∀ i, i < n → w.frozen? ⟨go, i, none⟩ = false
  row : ∀ i, i < k → Ints w B (.slice (some ⟨g i, 0, none⟩) n (c i)) (rowL M n i) ∧ g i ≠ go
  inj : ∀ i j, i < k → j < k → g i = g j → i = j
theorem Ints.keepG {w w' : World} {B g n cap : Nat} {l : List Int} (h : Ints w B (.slice (some ⟨g, 0, none⟩) n cap) l) {N : Nat} (hb : Below N w w') (hN : g < N) : Ints w' B (.slice (some ⟨g, 0, none⟩) n cap) l := by
  rcases h with ⟨h1, ⟨h2, _⟩ | ⟨g1, cap1, cur, hv, hg, hh, hc, hm, hs, ht⟩⟩
  · simp at h2
  · simp only [Value.slice.injEq, Option.some.injEq, Addr.mk.injEq, and_true] at hv
    obtain ⟨rfl, rfl, rfl⟩ := hv
    exact ⟨h1, .inr ⟨g, cap, cur, rfl, hg, (hb.block g hN).trans hh, hc, hm, hs, ht⟩⟩
theorem TgO.lts {w : World} {B go n k : Nat} {M : Nat → Nat → Int} {g c : Nat → Nat} (h : TgO w B go n k M g c) : ∀ i, i < k → g i < w.heap.size := fun i hi => (h.row i hi).1.blk.2
theorem TgO.below {w w' : World} {B go n k C : Nat} {M : Nat → Nat → Int} {g c : Nat → Nat} (h : TgO w B go n k M g c) (hb : Below C w w') (hgo : go < C) (hgi : ∀ i, i < k → g i < C) : TgO w' B go n k M g c :=
  ⟨h.hgo, Nat.lt_of_lt_of_le h.hlt hb.size, fun i hi hk => (hb.cell (p := ⟨go, i, none⟩) hgo).trans (h.cel i hi hk), fun i hi => (hb.frozen (p := ⟨go, i, none⟩) hgo).trans (h.frz i hi), fun i hi => ⟨(h.row i hi).1.keepG hb (hgi i hi), (h.row i hi).2⟩, h.inj⟩
theorem TgO.set {w : World} {B go n k : Nat} {M : Nat → Nat → Int} {g c : Nat → Nat} (h : TgO w B go n k M g c) (x : Value) : TgO (w.setCell ⟨go, k, none⟩ x) B go n k M g c :=
  ⟨h.hgo, by simp; exact h.hlt, fun i hi hk => (World.cell?_setCell_other w _ _ _ (fun e => hk (by injection e with e1 e2; exact e2.symm))).trans (h.cel i hi hk), fun i hi => by rw [World.frozen?_setCell]; exact h.frz i hi, fun i hi => ⟨(h.row i hi).1.setNe (h.row i hi).2.symm _ _, (h.row i hi).2⟩, h.inj⟩
theorem TgO.next {w : World} {B C go n k gk ck : Nat} {M : Nat → Nat → Int} {g c : Nat → Nat} (h : TgO w B go n k M g c) (hc : w.cell? ⟨go, k, none⟩ = some (.slice (some ⟨gk, 0, none⟩) n ck)) (hi : Ints w C (.slice (some ⟨gk, 0, none⟩) n ck) (rowL M n k)) (hB : B ≤ C) (hgo : go < C) (hgi : ∀ i, i < k → g i < C) :
    TgO w B go n (k + 1) M (fun i => if i = k then gk else g i) (fun i => if i = k then ck else c i) := by
  have hge := hi.blk.1
  refine ⟨h.hgo, h.hlt, fun i hin hik => ?_, h.frz, fun i hik => ?_, fun i j hik hjk hij => ?_⟩
  · by_cases e : i = k
    · subst e
      rw [if_pos (by omega), if_pos rfl, if_pos rfl]
      exact hc
    · rw [h.cel i hin e]
      by_cases hlt : i < k
      · rw [if_pos hlt, if_pos (by omega), if_neg e, if_neg e]
      · rw [if_neg hlt, if_neg (by omega)]
  · by_cases e : i = k
    · subst e
      simp only [if_true]
      exact ⟨hi.weakB hB, by omega⟩
    · simp only [if_neg e]
      exact h.row i (by omega)
  · try dsimp only at hij
    by_cases e : i = k
    · by_cases e2 : j = k
      · omega
      · rw [if_pos e, if_neg e2] at hij
        have := hgi j (by omega)
        omega
    · by_cases e2 : j = k
      · rw [if_neg e, if_pos e2] at hij
        have := hgi i (by omega)
        omega
      · rw [if_neg e, if_neg e2] at hij
        exact h.inj i j (by omega) (by omega) hij
theorem TgO.mat {w : World} {B go n : Nat} {M : Nat → Nat → Int} {g c : Nat → Nat} (h : TgO w B go n n M g c) : MatW w B n M go g c := by
  refine ⟨h.hgo, h.hlt, fun i hi => by rw [h.cel i hi (by omega), if_pos hi], fun i hi => ?_, h.inj, fun i k hi hk => ?_⟩
  · obtain ⟨b1, b2⟩ := (h.row i hi).1.blk
    refine ⟨b1, (h.row i hi).2, ?_, b2⟩
    obtain ⟨_, ⟨h2, _⟩ | ⟨g1, cap1, cur1, hv, _, _, hc1, _⟩⟩ := (h.row i hi).1
    · simp at h2
    · simp only [Value.slice.injEq, Option.some.injEq, Addr.mk.injEq, and_true] at hv
      rw [rowL_len] at hc1
      omega
  · obtain ⟨a, cap2, he, _, hk2⟩ := (h.row i hi).1.form
    obtain ⟨g2, hg2, _, _, c1, f1⟩ := hk2 k (by rw [rowL_len]; exact hk)
    simp only [Value.slice.injEq] at he
    rw [← he.1] at hg2
    simp only [Option.some.injEq, Addr.mk.injEq, and_true] at hg2
    subst hg2
    exact ⟨by rw [c1]; simp [rowL], f1⟩
theorem tg_below {B : Nat} {w wr w1 : World} {v : Value} {l : List Int} (hB : Below B w wr) (hBw : B ≤ w.heap.size) (h : Ints wr B v l) (o : Obj) (hg : (wr.alloc o).grownBy w1 v.ownBlock) : Below B w w1 :=
  (hB.alloc (Nat.le_trans hBw hB.size) o).grown hg (by have := hB.size; simp; omega) (fun k e => ((World.ownsRow.alloc h o).lt k e).1)
theorem tg_start {w2 : World} {B n : Nat} (M : Nat → Nat → Int) (h : w2.ownsRow B 30 1 (.slice (some ⟨B, 0, none⟩) n n) n (madeCells (Value.slice none 0 0).cells n).toList) (hn : 0 < n) :
    TgO w2 B B n 0 M (fun _ => 0) (fun _ => 0) ∧ (w2.cell? ⟨B, 0, none⟩ = some (.slice none 0 0)) := by
  have hc : ∀ i, i < n → w2.cell? ⟨B, i, none⟩ = some (.slice none 0 0) := fun i hi => by
    rw [World.ownsRow.cellAt h i (by omega)]
    simp [Go.madeCells, Value.cells, Nat.mod_one, hi]
  have hl : B < w2.heap.size := by
    rcases h with ⟨h1, ⟨h2, _⟩ | ⟨g1, cap1, cur, hv, hg, hh, rest⟩⟩
    · simp at h2
    · simp only [Value.slice.injEq, Option.some.injEq, Addr.mk.injEq, and_true] at hv
      obtain ⟨rfl, -, -⟩ := hv
      exact (Array.getElem?_eq_some_iff.1 hh).1
  exact ⟨⟨Nat.le_refl _, hl, fun i hi _ => by rw [hc i hi, if_neg (by omega)], fun i hi => World.ownsRow.frozenAt h i, fun i hi => by omega, fun i j hi => by omega⟩, hc 0 hn⟩

set_option maxHeartbeats 1000000 in
set_option maxRecDepth 100000 in
theorem implTg (B : Nat) (e : Int) (a : Option Addr) (nb cap : Nat) (F : List Int) (M : Nat → Nat → Int) (w : World) (hr : Recs w B (.slice a nb cap) nb F) (hl : nb ≤ 1048576) (hM : TgM e nb F M) :
    Calls Try.prog 44 #[.agg #[.int .i64 e, .slice a nb cap]] w fun r w' => Below w.heap.size w w' ∧ ∃ (v : Value) (ok : Bool), r = .returned (.tuple #[v, .bool ok]) ∧ TgIs e nb F M w' w.heap.size v ok := by
  obtain ⟨i0, hi, hz0, hz1, hz2⟩ := info_parts info_i64
  obtain ⟨j0, hj, hy0, hy1, hy2⟩ := info_parts info_sl
  have hb0 : Below w.heap.size w (w.alloc (.cells #[.int .i64 e, .slice a nb cap] 65)) := (Below.refl _ _).alloc (Nat.le_refl _) _
  obtain ⟨w0, hw0⟩ : ∃ w0, w.alloc (.cells #[.int .i64 e, .slice a nb cap] 65) = w0 := ⟨_, rfl⟩
  have HP : Hid (At2 w0 w.heap.size (.int .i64 e) (.slice a nb cap)) := by rw [← hw0]; exact At2.new w _ _ _
  have HR : Hid (Recs w0 B (.slice a nb cap) nb F) := by rw [← hw0]; exact hr.keep hb0 (Nat.le_refl _)
  rw [hw0] at hb0
  have HB0 := Lib.hid hb0
  have HV := Lib.hid (difs_any B e a nb cap F w0 HR.out hl)
  obtain ⟨c0, c1, -, -⟩ := HP.out
  have HM := Lib.hid hM
  clear hr hb0 hM
  go_enter Try.func44, Try.ntmps44
  go_wp2_with fail
  refine HV.out.mono ?_; rintro r w1 ⟨b1, ⟨hd, b, m, D, rfl, hb, ht, hls, hout⟩ | ⟨hneg, rfl⟩⟩
  case inr =>
    have HB1 := Lib.hid (HB0.out.trans (b1.mono HB0.out.size))
    have HNO := Lib.hid (tg_nil hneg HM.out)
    clear b1 hneg
    go_wp2
    go_ret2
    exact ⟨HB1.out, _, false, rfl, .inr ⟨HNO.out, rfl, rfl⟩⟩
  obtain ⟨he1, he2, hnb, -⟩ := diaB_okG hd
  have HK := Lib.hid (tg_key hd hls HM.out)
  obtain ⟨n, rfl⟩ : ∃ n : Nat, e = (n : Int) := ⟨e.toNat, by omega⟩
  rw [show ((n : Int)).toNat = n by simp] at HK
  have HT := Lib.hid ht
  have HB1 := Lib.hid b1
  have hblt := ht.lt
  clear c0 c1
  obtain ⟨c0, c1, -, -⟩ := HP.out.below b1 HP.out.lt
  have HC01 := Lib.hid c0
  have hpw1 : w.heap.size < w1.heap.size := Nat.lt_of_lt_of_le HP.out.lt b1.size
  clear hd hb ht hls hout b1 hw0
  have hn1 : 1 ≤ n := by omega
  go_wp2_with (at_make; refine wpList_make_full _ rfl _ _ 60 rfl w1.heap.size 30 j0 (.slice none 0 0) 1 Try.underlying60 hj hy0 hy1 .i64 .i64 (n : Int) (n : Int) n rfl rfl rfl rfl (by rw [hy2]; omega) (by unfold maxLen; omega) (Nat.le_refl _) ?_; intro w2 hown2 hgrow2; have d0 : w2.cell? ⟨w.heap.size, 0, none⟩ = some (.int .i64 (n : Int)) := (((Below.refl w1.heap.size w1).grown hgrow2 (Nat.le_refl _) (fun k e => by cases e)).cell (p := ⟨w.heap.size, 0, none⟩) hpw1).trans HC01.out)
  obtain ⟨hO0, hn0⟩ := tg_start M (show w2.ownsRow w1.heap.size 30 1 (.slice (some ⟨w1.heap.size, 0, none⟩) n n) n (madeCells (Value.slice none 0 0).cells n).toList by simpa using hown2) hn1
  have hb2 : Below w1.heap.size w1 w2 := (Below.refl _ _).grown hgrow2 (Nat.le_refl _) (fun k e => by cases e)
  have HO0 := Lib.hid hO0
  have HN0 : Hid (0 < n → w2.cell? ⟨w1.heap.size, 0, none⟩ = some (.slice none 0 0)) := fun _ => hn0
  have HB2 := Lib.hid hb2
  clear hO0 hn0 hb2 hown2 hgrow2 c0 c1
  go_wp2
  go_loopw [7, 8, 9, 10, 23] (fun _ _ _ _ kv wr => ∃ (k : Nat) (g c : Nat → Nat), k ≤ n ∧ kv = .int .i64 (k : Int) ∧ Hid (TgO wr w1.heap.size w1.heap.size n k M g c) ∧ Hid (k < n → wr.cell? ⟨w1.heap.size, k, none⟩ = some (.slice none 0 0)) ∧ Hid (Below w1.heap.size w1 wr)) (fun _ _ _ _ kv _ => n - (intOf kv).toNat)
  case atStart => exact ⟨0, _, _, Nat.zero_le _, rfl, HO0, HN0, HB2⟩
  case round =>
    obtain ⟨k, g, c, hk, rfl, HO, HN, HBW⟩ := hrel
    clear d0 HO0 HN0 HB2
    have hsz := HBW.out.size
    by_cases hlt : k < n
    · have hltI : (k : Int) < (n : Int) := by omega
      have d1 : wr.cell? ⟨w.heap.size, 0, none⟩ = some (.int .i64 (n : Int)) := (HBW.out.cell (p := ⟨w.heap.size, 0, none⟩) hpw1).trans HC01.out
      have HNIL := Lib.hid (HN.out hlt)
      obtain ⟨W, hWr⟩ : ∃ W, W = wr := ⟨_, rfl⟩
      subst hWr
      have hGW : w1.heap.size < W.heap.size := HO.out.hlt
      have HGI := Lib.hid HO.out.lts
      go_wp2
      go_loopw [8, 9, 10, 28] (fun _ _ _ tv wr => ∃ (t : Nat) (v : Value), t ≤ n ∧ tv = .int .i64 (t : Int) ∧ Hid (TgO wr w1.heap.size w1.heap.size n k M g c) ∧ Hid (wr.cell? ⟨w1.heap.size, k, none⟩ = some v) ∧ Hid (Ints wr W.heap.size v (rowL M t k)) ∧ Hid (Below w1.heap.size w1 wr) ∧ W.heap.size ≤ wr.heap.size) (fun _ _ _ tv _ => n - (intOf tv).toNat)
      case atStart => exact ⟨0, _, Nat.zero_le _, rfl, HO, HNIL, Ints.nil _ _, HBW, Nat.le_refl _⟩
      case round =>
        obtain ⟨t, v, ht, rfl, HO2, HV2, HI2, HBW2, hWw⟩ := hrel
        clear d1
        by_cases hlt2 : t < n
        · have hltI2 : (t : Int) < (n : Int) := by omega
          obtain ⟨hk1, hk2⟩ := HK.out.2 k t hlt hlt2
          obtain ⟨U, hU⟩ : ∃ U, GI D (k : Int) (t : Int) = U := ⟨_, rfl⟩
          have HQ := Lib.hid (most_any b m D (k : Int) (t : Int) wr (HT.out.below HBW2.out hblt) (wfI (by omega) (by omega)) (wfI (by omega) (by omega)))
          rw [hU] at HQ hk1 hk2
          clear hU
          have HLEN := Lib.hid (rowL_len M t k)
          have HSN := Lib.hid (rowL_snoc M t k)
          cases U with
          | none =>
            have HX : Hid (M k t = 1000000) := hk2 rfl
            clear hk1 hk2
            go_wp2_with fail
            refine HQ.out.mono ?_; rintro r w3 ⟨rfl, b3⟩
            have hb3 := b3.mono hWw
            have c3 : w3.cell? ⟨w1.heap.size, k, none⟩ = some v := (hb3.cell (p := ⟨w1.heap.size, k, none⟩) hGW).trans HV2.out
            have HO3 := Lib.hid (HO2.out.below hb3 hGW HGI.out)
            have HI3 := Lib.hid (HI2.out.keep b3 (Nat.le_refl _))
            have HBW3 := Lib.hid (HBW2.out.trans (b3.mono HBW2.out.size))
            have hW3 : W.heap.size ≤ w3.heap.size := Nat.le_trans hWw b3.size
            clear b3 hb3 HO2 HV2 HI2 HBW2 HQ
            go_wp2_with (at_builtin; refine wpList_append_own _ rfl _ _ 30 rfl W.heap.size 2 i0 (.int .i64 0) 1 8 Try.underlying30 hi hz0 hz1 hz2 rfl (by decide) _ _ _ rfl (HI3.out.alloc _) ⟨w3.heap.size, 0, none⟩ 1 1 [.int .i64 (1000000)] rfl rfl ?c1 ?c2 ?c3 ?c4 ?c5 ?_)
            case c1 => exact cell_one_new _ _ _
            case c2 => simp [Value.oneCell']
            case c3 => rw [HLEN.out]; unfold maxLen; omega
            case c4 => rw [HLEN.out]; omega
            case c5 => simp; omega
            intro v' w4 hown' hgrow _
            have hV4 := Ints.snocT (x := (1000000)) hown'
            have hb4 := tg_below (Below.refl W.heap.size w3) hW3 HI3.out _ hgrow
            obtain ⟨a4, q4, hv4, _, _⟩ := hV4.form
            have hl4 : (rowL M t k ++ [(1000000)]).length = t + 1 := by simp [rowL]
            rw [hl4] at hv4
            subst hv4
            clear hl4
            have c4 : w4.cell? ⟨w1.heap.size, k, none⟩ = some v := (hb4.cell (p := ⟨w1.heap.size, k, none⟩) hGW).trans c3
            have hO4 := HO3.out.below hb4 hGW HGI.out
            have f4 : w4.frozen? ⟨w1.heap.size, k, none⟩ = false := hO4.frz k hlt
            have HO5 := Lib.hid (hO4.set (.slice a4 (t + 1) q4))
            have HV5 : Hid ((w4.setCell ⟨w1.heap.size, k, none⟩ (.slice a4 (t + 1) q4)).cell? ⟨w1.heap.size, k, none⟩ = some (.slice a4 (t + 1) q4)) := World.cell?_setCell_same w4 _ _ c4
            have HI5 := Lib.hid (hV4.setBelow hV4.block_ge hGW k (.slice a4 (t + 1) q4))
            have HB5 : Hid (Below w1.heap.size w1 (w4.setCell ⟨w1.heap.size, k, none⟩ (.slice a4 (t + 1) q4))) := (HBW3.out.trans (hb4.mono hsz)).setCell (Nat.le_refl _) (.slice a4 (t + 1) q4)
            have hW5 : W.heap.size ≤ (w4.setCell ⟨w1.heap.size, k, none⟩ (.slice a4 (t + 1) q4)).heap.size := by simp; exact Nat.le_trans hW3 hb4.size
            clear hown' hgrow hV4 hb4 hO4 c3
            go_wp2
            go_roundw
            case rel => exact ⟨t + 1, _, by omega, by go_num, HO5, HV5, by rw [HSN.out, HX.out]; exact HI5, HB5, hW5⟩
            case measure => simp [intOf]; omega
          | some p =>
            obtain ⟨x, hx⟩ : ∃ x, p.2 = x := ⟨_, rfl⟩
            have HX : Hid (M k t = x) := by rw [← hx]; exact (hk1 p rfl).symm
            have e2 : ((some p : Option (Int × Int)).getD (0, 0)).2 = x := hx
            rw [e2] at HQ
            clear hk1 hk2 e2 hx
            go_wp2_with fail
            refine HQ.out.mono ?_; rintro r w3 ⟨rfl, b3⟩
            have hb3 := b3.mono hWw
            have c3 : w3.cell? ⟨w1.heap.size, k, none⟩ = some v := (hb3.cell (p := ⟨w1.heap.size, k, none⟩) hGW).trans HV2.out
            have HO3 := Lib.hid (HO2.out.below hb3 hGW HGI.out)
            have HI3 := Lib.hid (HI2.out.keep b3 (Nat.le_refl _))
            have HBW3 := Lib.hid (HBW2.out.trans (b3.mono HBW2.out.size))
            have hW3 : W.heap.size ≤ w3.heap.size := Nat.le_trans hWw b3.size
            clear b3 hb3 HO2 HV2 HI2 HBW2 HQ
            go_wp2_with (at_builtin; refine wpList_append_own _ rfl _ _ 30 rfl W.heap.size 2 i0 (.int .i64 0) 1 8 Try.underlying30 hi hz0 hz1 hz2 rfl (by decide) _ _ _ rfl (HI3.out.alloc _) ⟨w3.heap.size, 0, none⟩ 1 1 [.int .i64 (x)] rfl rfl ?c1 ?c2 ?c3 ?c4 ?c5 ?_)
            case c1 => exact cell_one_new _ _ _
            case c2 => simp [Value.oneCell']
            case c3 => rw [HLEN.out]; unfold maxLen; omega
            case c4 => rw [HLEN.out]; omega
            case c5 => simp; omega
            intro v' w4 hown' hgrow _
            have hV4 := Ints.snocT (x := (x)) hown'
            have hb4 := tg_below (Below.refl W.heap.size w3) hW3 HI3.out _ hgrow
            obtain ⟨a4, q4, hv4, _, _⟩ := hV4.form
            have hl4 : (rowL M t k ++ [(x)]).length = t + 1 := by simp [rowL]
            rw [hl4] at hv4
            subst hv4
            clear hl4
            have c4 : w4.cell? ⟨w1.heap.size, k, none⟩ = some v := (hb4.cell (p := ⟨w1.heap.size, k, none⟩) hGW).trans c3
            have hO4 := HO3.out.below hb4 hGW HGI.out
            have f4 : w4.frozen? ⟨w1.heap.size, k, none⟩ = false := hO4.frz k hlt
            have HO5 := Lib.hid (hO4.set (.slice a4 (t + 1) q4))
            have HV5 : Hid ((w4.setCell ⟨w1.heap.size, k, none⟩ (.slice a4 (t + 1) q4)).cell? ⟨w1.heap.size, k, none⟩ = some (.slice a4 (t + 1) q4)) := World.cell?_setCell_same w4 _ _ c4
            have HI5 := Lib.hid (hV4.setBelow hV4.block_ge hGW k (.slice a4 (t + 1) q4))
            have HB5 : Hid (Below w1.heap.size w1 (w4.setCell ⟨w1.heap.size, k, none⟩ (.slice a4 (t + 1) q4))) := (HBW3.out.trans (hb4.mono hsz)).setCell (Nat.le_refl _) (.slice a4 (t + 1) q4)
            have hW5 : W.heap.size ≤ (w4.setCell ⟨w1.heap.size, k, none⟩ (.slice a4 (t + 1) q4)).heap.size := by simp; exact Nat.le_trans hW3 hb4.size
            clear hown' hgrow hV4 hb4 hO4 c3
            go_wp2
            go_roundw
            case rel => exact ⟨t + 1, _, by omega, by go_num, HO5, HV5, by rw [HSN.out, HX.out]; exact HI5, HB5, hW5⟩
            case measure => simp [intOf]; omega
        · obtain rfl : t = n := by omega
          have hltI2 : ¬ (t : Int) < (t : Int) := by omega
          obtain ⟨av, cv, hv, _, hkk⟩ := HI2.out.form
          obtain ⟨gk, hgk, -⟩ := hkk 0 (by rw [rowL_len]; omega)
          rw [rowL_len, hgk] at hv
          subst hv
          have HNX := Lib.hid (HO2.out.next HV2.out HI2.out (Nat.le_of_lt hGW) hGW HGI.out)
          clear hkk hgk
          go_wp2
          go_roundw
          case rel => exact ⟨k + 1, _, _, by omega, by go_num, HNX, fun h => by have := HO2.out.cel (k + 1) h (by omega); rw [if_neg (by omega)] at this; exact this, HBW2⟩
          case measure => simp [intOf]; omega
    · obtain rfl : k = n := by omega
      have hltI : ¬ (k : Int) < (k : Int) := by omega
      have HFIN := Lib.hid (HB0.out.trans ((HB1.out.trans (HBW.out.mono HB1.out.size)).mono HB0.out.size))
      have HMT : Hid (MatW wr w.heap.size k M w1.heap.size g c) := HO.out.mat.weak (Nat.le_of_lt hpw1)
      go_wp2
      go_ret2
      first | exact ⟨HFIN.out, _, true, rfl, .inl ⟨HK.out.1, rfl, _, _, g, c, rfl, Nat.le_refl _, HMT.out⟩⟩ | exact ⟨HFIN.out, _, .inr ⟨rfl, .inl ⟨HK.out.1, rfl, _, _, g, c, rfl, Nat.le_refl _, HMT.out⟩⟩⟩
end Go.Proofs.Ytkipgeecibimoaa
