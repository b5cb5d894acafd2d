/- LatestTimes: the program's side. -/
import Derived.Test.YtmhbgpappjfolabTmL
import Derived.Test.YtmhbgpappjfolabCpyZ
import Derived.Shelf.Abstract
import Derived.Laws.EntriesVeiled
namespace Go.Proofs.Ytmhbgpappjfolab
open Go.RowKit Go.Shelf
set_option linter.unusedVariables false
set_option linter.unusedSimpArgs false

theorem tm_keyL {e : Int} {nb : Nat} {F : List Int} {M : Nat → Nat → Int} {f : Int} {D : Nat → Trails} (hd : diaB e nb F = true) (hL : Least (keptB F [] nb) e.toNat D) (hout : ∀ i, e.toNat ≤ i → D i = fun _ => none) (hM : TmML e nb F f M) (k : Nat) (hk : k < e.toNat) :
    (GI D f (k : Int) = none → ¬ TmPL e nb F M f) ∧ (∀ p, GI D f (k : Int) = some p → (0 ≤ f ∧ f ≤ e - 1) ∧ (∀ a, a < e.toNat → 0 ≤ M a a) ∧ tmCL M f.toNat k ≠ 1000000 ∧ p.2 = tmVL M f.toNat k) := by
  obtain ⟨he1, he2, hnb, -⟩ := diaB_okG hd
  obtain ⟨n, rfl⟩ : ∃ n : Nat, e = (n : Int) := ⟨e.toNat, by omega⟩
  have hfs := keptB_in (W := []) (dia_fs hd)
  have en : ((n : Int)).toNat = n := by simp
  rw [en] at hL hout hk
  have tab : (0 ≤ f ∧ f ≤ (n : Int) - 1) → (∀ a, a < n → 0 ≤ M a a) ∧ ∀ a b, a < n → b < n → (∀ c s, D a b = some (c, s) → M a b = s ∧ s ≤ 10000 ∧ -10000 ≤ s) ∧ (D a b = none → M a b = 1000000) := fun h1 => by
    obtain ⟨q1, q2⟩ := hM hd h1
    rw [en] at q1 q2
    exact least_table hfs (by omega) hL q1 q2
  constructor
  · rintro hg ⟨-, hf, -, hall⟩
    obtain ⟨d0, tb⟩ := tab hf
    obtain ⟨i, rfl⟩ : ∃ i : Nat, f = (i : Int) := ⟨f.toNat, by omega⟩
    rw [GI_nat] at hg
    have hn : D i k = none := by cases hD : D i k with
      | none => rfl
      | some v => rw [hD] at hg; cases hg
    have h2 := (tb i k (by omega) (by omega)).2 hn
    have h3 := hall k (by simpa using hk)
    have e1 : ((i : Int)).toNat = i := by simp
    rw [e1] at h3
    exact h3 h2
  · intro p hp
    have hf : 0 ≤ f ∧ f ≤ (n : Int) - 1 := by
      unfold GI at hp
      by_cases h0 : 0 ≤ f ∧ 0 ≤ (k : Int)
      · rw [if_pos h0] at hp
        obtain ⟨c, hc, -⟩ := Option.map_eq_some_iff.1 hp
        have hf1 : (f).toNat < n := by
          rcases Nat.lt_or_ge (f).toNat n with h | h
          · exact h
          · rw [hout _ h] at hc; cases hc
        have := (hL.ok (f).toNat ((k : Int)).toNat c.1 c.2 hf1 hc).1
        omega
      · rw [if_neg h0] at hp; cases hp
    obtain ⟨d0, tb⟩ := tab hf
    obtain ⟨i, rfl⟩ : ∃ i : Nat, f = (i : Int) := ⟨f.toNat, by omega⟩
    rw [GI_nat] at hp
    obtain ⟨x, hx, rfl⟩ := Option.map_eq_some_iff.1 hp
    obtain ⟨x1, x2, x3⟩ := (tb i k (by omega) (by omega)).1 x.1 x.2 hx
    have e1 : ((i : Int)).toNat = i := by simp
    refine ⟨hf, fun a ha => d0 a (by simpa using ha), ?_, ?_⟩
    · rw [e1]; show M i k ≠ _; omega
    · rw [e1]; show _ = tmVL M i k; unfold tmVL; rw [x1]
theorem tm_nilL {e : Int} {nb : Nat} {F : List Int} {M : Nat → Nat → Int} {f : Int} (hn : diaB e nb F = true → NegRing (keptB F [] nb) e.toNat) (hM : TmML e nb F f M) : ¬ TmPL e nb F M f := by
  rintro ⟨hd, h1, h3, -⟩
  obtain ⟨n, rfl⟩ : ∃ n : Nat, e = (n : Int) := ⟨e.toNat, by have := (diaB_okG hd).1; omega⟩
  obtain ⟨q1, q2⟩ := hM hd h1
  have hr := hn hd
  rw [show ((n : Int)).toNat = n by simp] at q1 q2 hr h3
  obtain ⟨a, ha, hlt⟩ := ring_table (keptB_in (W := []) (dia_fs hd)) hr q2
  have := h3 a ha
  omega
set_option maxRecDepth 100000 in
theorem tm_clL (b m fb : Nat) (D : Nat → Trails) (ev f : Int) (w : World) (ht : TM w b m D) (wev : (Lit.int .i64 ev).wf = true) (wf : (Lit.int .i64 f).wf = true) (hc : w.cell? ⟨fb, 0, none⟩ = some (.int .i64 f)) (U : Option (Int × Int)) (hU : GI D f ev = U) :
    Calls Try.prog 40 #[.map (some b), .int .i64 ev, .pointer (some ⟨fb, 0, none⟩)] w fun e w' => e = .returned (.tuple #[.int .i64 ((U.getD (0, 0)).2), .bool U.isSome]) ∧ Below w.heap.size w w' := by
  have HQ := Lib.hid (most_any b m D f ev w ht wf wev)
  rw [hU] at HQ
  obtain ⟨z, hz⟩ : ∃ z, (U.getD (0, 0)).2 = z := ⟨_, rfl⟩
  rw [hz] at HQ ⊢
  clear ht hU hz
  go_enter Try.func40, Try.ntmps40
  go_wp2_with fail
  refine HQ.out.mono ?_; rintro r w1 ⟨rfl, b1⟩
  have HB := Lib.hid b1
  clear b1
  go_wp2
  go_ret2
  exact ⟨rfl, HB.out⟩
set_option maxHeartbeats 4000000 in
set_option maxRecDepth 100000 in
theorem timesByL (B fb : Nat) (e : Int) (a : Option Addr) (nb cap : Nat) (F : List Int) (f : Int) (M : Nat → Nat → Int) (w : World) (hr : Recs w B (.slice a nb cap) nb F) (hl : nb ≤ 1048576) (hfb : fb < w.heap.size) (hfc : w.cell? ⟨fb, 0, none⟩ = some (.int .i64 f)) (wf : (Lit.int .i64 f).wf = true) (hM : TmML e nb F f M) :
    Calls Try.prog 38 #[.agg #[.int .i64 e, .slice a nb cap], .func (.func 40) #[] #[.pointer (some ⟨fb, 0, none⟩)]] w fun r w' => Below w.heap.size w w' ∧ ∃ (v : Value) (l : List Int) (ok : Bool), r = .returned (.tuple #[v, .bool ok]) ∧ Ints w' w.heap.size v l ∧ TmIsL e nb F M f l ok := by
  obtain ⟨i0, hi, hz0, hz1, hz2⟩ := info_parts info_i64
  have hb0 : Below w.heap.size w (w.alloc (.cells #[.int .i64 e, .slice a nb cap] 31)) := (Below.refl _ _).alloc (Nat.le_refl _) _
  obtain ⟨w0, hw0⟩ : ∃ w0, w.alloc (.cells #[.int .i64 e, .slice a nb cap] 31) = w0 := ⟨_, rfl⟩
  have HP : Hid (At2 w0 w.heap.size (.int .i64 e) (.slice a nb cap)) := by rw [← hw0]; exact At2.new w _ _ _
  have HR : Hid (Recs w0 B (.slice a nb cap) nb F) := by rw [← hw0]; exact hr.keep hb0 (Nat.le_refl _)
  rw [hw0] at hb0
  have HB0 := Lib.hid hb0
  have HV := Lib.hid (difs_any B e a nb cap F w0 HR.out hl)
  obtain ⟨c0, c1, -, -⟩ := HP.out
  have HM := Lib.hid hM
  have HFC : Hid (w0.cell? ⟨fb, 0, none⟩ = some (.int .i64 f)) := (hb0.cell (p := ⟨fb, 0, none⟩) hfb).trans hfc
  have hfb0 : fb < w0.heap.size := Nat.lt_of_lt_of_le hfb hb0.size
  have eg := enters_of Try.func40 (by kernel_rfl) rfl
  clear hr hb0 hM hfc
  go_enter Try.func38, Try.ntmps38
  go_wp2_with fail
  refine HV.out.mono ?_; rintro r w1 ⟨b1, ⟨hd, b, m, D, rfl, hb, ht, hls, hout⟩ | ⟨hneg, rfl⟩⟩
  · obtain ⟨he1, he2, hnb, -⟩ := diaB_okG hd
    have HK := Lib.hid (fun k hk => tm_keyL hd hls hout HM.out k hk)
    have HD := Lib.hid hd
    obtain ⟨n, rfl⟩ : ∃ n : Nat, e = (n : Int) := ⟨e.toNat, by omega⟩
    have HT := Lib.hid ht
    have HB1 := Lib.hid b1
    have hblt := ht.lt
    clear c0 c1
    obtain ⟨c0, c1, -, -⟩ := HP.out.below b1 HP.out.lt
    have HC01 := Lib.hid c0
    have hpw1 : w.heap.size < w1.heap.size := Nat.lt_of_lt_of_le HP.out.lt b1.size
    have HFC1 : Hid (w1.cell? ⟨fb, 0, none⟩ = some (.int .i64 f)) := (b1.cell (p := ⟨fb, 0, none⟩) hfb0).trans HFC.out
    have hfb1 : fb < w1.heap.size := Nat.lt_of_lt_of_le hfb0 b1.size
    clear hd hb ht hls hout b1 hw0
    have hn1 : 1 ≤ n := by omega
    go_wp2_with (at_make; refine wpList_make_full _ rfl _ _ 38 rfl w1.heap.size 2 i0 (.int .i64 0) 1 Try.underlying38 hi hz0 hz1 .i64 .i64 (n : Int) (n : Int) n rfl rfl rfl rfl (by rw [hz2]; omega) (by unfold maxLen; omega) (Nat.le_refl _) ?_; intro w2 hown2 hgrow2; have d0 : w2.cell? ⟨w.heap.size, 0, none⟩ = some (.int .i64 (n : Int)) := (((Below.refl w1.heap.size w1).grown hgrow2 (Nat.le_refl _) (fun k e => by cases e)).cell (p := ⟨w.heap.size, 0, none⟩) hpw1).trans HC01.out)
    obtain ⟨l, hl0⟩ : ∃ l, tmLL M f.toNat n = l := ⟨_, rfl⟩
    have hll : l.length = n := by rw [← hl0, tmLL_len]
    have HLK : Hid (∀ k (h : k < l.length), l[k] = tmVL M f.toNat k) := by
      show ∀ k (h : k < l.length), l[k] = tmVL M f.toNat k
      subst hl0; intro k h; simp [tmLL]
    have hi2 : Ints w2 w1.heap.size (.slice (some ⟨w1.heap.size, 0, none⟩) n n) (cpyZ l 0) := by
      have e0 : cpyZ l 0 = List.replicate n 0 := by simp [cpyZ, hll]
      unfold Ints
      rw [e0, ← zeros_listZ, List.length_replicate]
      have h : w2.ownsRow w1.heap.size 2 1 (.slice (some ⟨w1.heap.size, 0, none⟩) n n) n (madeCells (Value.int IntKind.i64 0).cells n).toList := by simpa using hown2
      exact h
    have hb2 : Below w1.heap.size w1 w2 := (Below.refl _ _).grown hgrow2 (Nat.le_refl _) (fun k e => by cases e)
    have HI2 := Lib.hid hi2
    have HB2 := Lib.hid hb2
    have HLL := Lib.hid hll
    have HL0 := Lib.hid hl0
    clear hi2 hb2 hown2 hgrow2 c0 c1 hl0 hll
    go_wp2
    go_loopw [9, 10, 11, 24] (fun _ _ _ j wr => ∃ k : Nat, k ≤ n ∧ j = .int .i64 k ∧ Hid (Ints wr w1.heap.size (.slice (some ⟨w1.heap.size, 0, none⟩) n n) (cpyZ l k)) ∧ Hid (Below w1.heap.size w1 wr) ∧ Hid (∀ ev, ev < k → tmCL M f.toNat ev ≠ 1000000) ∧ Hid (0 < k → (0 ≤ f ∧ f ≤ (n : Int) - 1) ∧ ∀ a, a < n → 0 ≤ M a a)) (fun _ _ _ j _ => n - (intOf j).toNat)
    case atStart => exact ⟨0, Nat.zero_le _, rfl, HI2, HB2, fun ev h => absurd h (Nat.not_lt_zero _), fun h => absurd h (Nat.lt_irrefl _)⟩
    case round =>
      obtain ⟨k, hk, rfl, HIN, HBW, HALL, HF0⟩ := hrel
      clear d0 HI2 HB2
      have HBR := Lib.hid (HB0.out.trans ((HB1.out.trans (HBW.out.mono HB1.out.size)).mono HB0.out.size))
      by_cases hlt : k < n
      · have hlt2 : (k : Int) < (n : Int) := by omega
        obtain ⟨hk1, hk2⟩ := HK.out k (by simpa using hlt)
        obtain ⟨U, hU⟩ : ∃ U, GI D f (k : Int) = U := ⟨_, rfl⟩
        have HCL := Lib.hid (tm_clL b m fb D (k : Int) f wr (HT.out.below HBW.out hblt) (wfI (by omega) (by omega)) wf ((HBW.out.cell (p := ⟨fb, 0, none⟩) hfb1).trans HFC1.out) U hU)
        rw [hU] at hk1 hk2
        cases U with
        | none =>
          have HNO := Lib.hid (hk1 rfl)
          clear hk1 hk2 hU
          go_wp2_with fail
          refine HCL.out.mono ?_
          rintro r w5 ⟨rfl, b5⟩
          have HB5 := Lib.hid (HBR.out.trans (b5.mono HBR.out.size))
          clear b5
          go_wp2
          go_ret2
          exact ⟨HB5.out, _, [], false, rfl, Ints.nil _ _, TmIsL.no HNO.out⟩
        | some p =>
          obtain ⟨hf, hpos, hne, hval⟩ := hk2 p rfl
          have HF1 : Hid (0 < k + 1 → (0 ≤ f ∧ f ≤ (n : Int) - 1) ∧ ∀ a, a < n → 0 ≤ M a a) := fun _ => ⟨hf, fun a ha => hpos a (by simpa using ha)⟩
          have HALL2 : Hid (∀ ev, ev < k + 1 → tmCL M f.toNat ev ≠ 1000000) := fun ev h => by
            rcases Nat.lt_or_ge ev k with h2 | h2
            · exact HALL.out ev h2
            · obtain rfl : ev = k := by omega
              exact hne
          have hval' : p.2 = tmVL M f.toNat k := hval
          obtain ⟨z, hz⟩ : ∃ z, p.2 = z := ⟨_, rfl⟩
          have HCL2 : Hid (Calls Try.prog 40 #[.map (some b), .int .i64 (k : Int), .pointer (some ⟨fb, 0, none⟩)] wr fun e w' => e = .returned (.tuple #[.int .i64 z, .bool true]) ∧ Below wr.heap.size wr w') := by rw [← hz]; exact HCL.out
          have hzl : l[k]'(by rw [HLL.out]; exact hlt) = z := by rw [HLK.out k _, ← hval', hz]
          have HZL : Hid (∃ h : k < l.length, l[k] = z) := ⟨by rw [HLL.out]; exact hlt, hzl⟩
          clear hk1 hk2 hU hf hpos hne hval hval' hz hzl HCL
          go_wp2_with fail
          refine HCL2.out.mono ?_
          rintro r w5 ⟨rfl, b5⟩
          have HB5 := Lib.hid b5
          clear b5
          have hin5 : Ints w5 w1.heap.size (.slice (some ⟨w1.heap.size, 0, none⟩) n n) (cpyZ l k) := HIN.out.keep HB5.out (Nat.le_refl _)
          have hb15 : Below w1.heap.size w1 w5 := HBW.out.trans (HB5.out.mono HBW.out.size)
          obtain ⟨hkl, hzk⟩ := HZL.out
          obtain ⟨x5, hx5⟩ := cell_ofZ hin5 hkl (by omega)
          have hst := cpyZ_step l k hkl
          rw [hzk] at hst
          have hput := hin5.put k z
          rw [hst] at hput
          have HI6 := Lib.hid hput
          have HB6 : Hid (Below w1.heap.size w1 (w5.setCell ⟨w1.heap.size, k, none⟩ (.int .i64 z))) := hb15.setCell (p := ⟨w1.heap.size, k, none⟩) (Nat.le_refl _) _
          have hc5 := hx5.1
          have hf5 := hx5.2
          clear hin5 hb15 hzk hst hput hx5 hkl
          go_wp2
          go_roundw
          case rel => exact ⟨k + 1, by omega, by go_num, HI6, HB6, HALL2, HF1⟩
          case measure => simp [intOf]; omega
      · obtain rfl : k = n := by omega
        have HYES : Hid (TmPL (k : Int) nb F M f) := by
          obtain ⟨h1, h2⟩ := HF0.out (by omega)
          exact ⟨HD.out, h1, fun a ha => h2 a (by simpa using ha), fun ev h => HALL.out ev (by simpa using h)⟩
        go_wp2
        go_ret2
        refine ⟨HBR.out, _, l, true, rfl, ?_, ?_⟩
        · have h7 := HIN.out
          rw [show cpyZ l k = l by rw [← HLL.out]; exact cpyZ_end l] at h7
          exact ints_base h7 (by have := HBR.out.size; omega)
        · have := TmIsL.yes HYES.out
          rw [← HL0.out]
          simpa using this
  · have HB1 := Lib.hid (HB0.out.trans (b1.mono HB0.out.size))
    have HNO := Lib.hid (tm_nilL hneg HM.out)
    clear b1 hneg hw0
    go_wp2
    go_ret2
    exact ⟨HB1.out, _, [], false, rfl, Ints.nil _ _, TmIsL.no HNO.out⟩
set_option maxRecDepth 100000 in
theorem implTmL (B : Nat) (e : Int) (a : Option Addr) (nb cap : Nat) (F : List Int) (f : Int) (M : Nat → Nat → Int) (w : World) (hr : Recs w B (.slice a nb cap) nb F) (hl : nb ≤ 1048576) (wf : (Lit.int .i64 f).wf = true) (hM : TmML e nb F f M) :
    Calls Try.prog 23 #[.agg #[.int .i64 e, .slice a nb cap], .int .i64 f] w fun r w' => Below w.heap.size w w' ∧ ∃ (v : Value) (l : List Int) (ok : Bool), r = .returned (.tuple #[v, .bool ok]) ∧ Ints w' w.heap.size v l ∧ TmIsL e nb F M f l ok := by
  obtain ⟨w0, hw0⟩ : ∃ w0, (w.alloc (.cells #[.int .i64 e, .slice a nb cap] 31)).alloc (.cells #[.int .i64 f] 2) = w0 := ⟨_, rfl⟩
  have hb0 : Below w.heap.size w w0 := by rw [← hw0]; exact ((Below.refl _ _).alloc (Nat.le_refl _) _).alloc (by simp) _
  have hs0 : w.heap.size + 1 < w0.heap.size := by rw [← hw0]; simp
  have c0 : w0.cell? ⟨w.heap.size, 0, none⟩ = some (.int .i64 e) := by rw [← hw0]; simp [go_sem]
  have c1 : w0.cell? ⟨w.heap.size, 1, none⟩ = some (.slice a nb cap) := by rw [← hw0]; simp [go_sem]
  have c2 : w0.cell? ⟨w.heap.size + 1, 0, none⟩ = some (.int .i64 f) := by rw [← hw0]; simp [go_sem]
  have HTB := Lib.hid (timesByL B (w.heap.size + 1) e a nb cap F f M w0 (hr.keep hb0 (Nat.le_refl _)) hl hs0 c2 wf hM)
  have HB0 := Lib.hid hb0
  clear hr hb0 hM c2
  go_enter Try.func23, Try.ntmps23
  go_wp2_with fail
  refine HTB.out.mono ?_; rintro r w1 ⟨b1, v, l, ok, rfl, hin, hts⟩
  have HB1 := Lib.hid (HB0.out.trans (b1.mono HB0.out.size))
  have HIN := Lib.hid (ints_base hin HB0.out.size)
  have HTS := Lib.hid hts
  clear b1 hin hts hw0 c0 c1
  go_wp2
  go_ret2
  exact ⟨HB1.out, v, l, ok, rfl, HIN.out, HTS.out⟩
end Go.Proofs.Ytmhbgpappjfolab
