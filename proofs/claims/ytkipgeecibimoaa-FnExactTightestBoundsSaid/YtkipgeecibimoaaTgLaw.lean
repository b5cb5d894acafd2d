/- The walk of a law: TightestBounds is the same on both sides, its answer memory of its own. -/
import Derived.Test.YtkipgeecibimoaaTgT
import Derived.Test.YtkipgeecibimoaaMarksG
import Derived.Deep.RegionWith
import Derived.Lib.OwnKind
namespace Go.Proofs.Ytkipgeecibimoaa
open Go.RowKit
set_option linter.unusedVariables false
set_option linter.unusedSimpArgs false

def Lw (w0 W : World) : Prop := Below w0.heap.size w0 W
theorem Lw.dr {w W : World} (h : Lw w W) : Lw w W.drew := ⟨h.os, h.tape, h.output, h.size, h.block⟩
theorem Lw.drN {w W : World} (h : Lw w W) (n : Nat) : Lw w (W.drewN n) := ⟨h.os, h.tape, h.output, h.size, h.block⟩
theorem Lw.call {w W W' : World} (h : Lw w W) (hb : Below W.heap.size W W') : Lw w W' := h.trans (hb.mono h.size)
theorem Lw.callB {w W W' : World} {B : Nat} (h : Lw w W) (hb : Below B W W') (hB : w.heap.size ≤ B) : Lw w W' := h.trans (hb.mono hB)
theorem meetK {G : Prop} (X : Option Addr → Nat → World → Prop) (F : Option Addr → Nat → World → Prop) (h1 : Hid (∀ a k W, F a k W → X a k W) → G) (h2 : ∀ a k W, F a k W → X a k W) : G := h1 (Lib.hid h2)
theorem gen_endK {K : Act → World → Prop} {Q : Exit → Act → World → Prop} {E : Exit} {A : Act} (W0 : World) (F : World → Prop) (h0 : F W0) (k : ∀ W, F W → Exit.then K Q E A W) : Exit.then K Q E A W0 := k W0 h0
theorem own_neT {w : World} {B X : Nat} {e size : Nat} {v : Value} {n : Nat} {xs : List Value} {cs : Array Value} {T : Nat} {fz : Nat × Nat} (h : w.ownsRow B e size v n xs) (hX : w.heap[X]? = some (.cells cs T fz)) (hT : T ≠ e) : v.ownBlock ≠ some X := by
  intro hv
  obtain ⟨c, fz2, hc⟩ := Lib.ownsRow_kind h X hv
  rw [hX] at hc
  injection hc with hc
  injection hc with h1 h2
  exact hT h2
theorem marked_below {w w' : World} {B n cap : Nat} {a : Option Addr} {F : List Int} {ob : Obj} (hr : Recs w B (.slice a n cap) n F) (hB : B ≤ w.heap.size) (hg : (w.alloc ob).grownBy w' (Value.slice a n cap).ownBlock) : Below B w w' :=
  ((Below.refl B w).alloc hB ob).grown hg (by simp; omega) (fun k e => (hr.2.lt k e).1)
set_option maxHeartbeats 1000000 in
set_option maxRecDepth 100000 in
theorem walk_FnExactTightestBounds (m : Int) (a : Option Addr) (n cap : Nat) (F : List Int) (w : World) (hn : F.length = n * 3) (hr : ArgRow w a F) (hm : n ≤ maxLen) :
    Calls Try.prog 8 #[.agg #[.int .i64 m, .slice a n cap]] w fun e w' => e = .returned (.bool true) ∧ Below w.heap.size w w' := by
  unfold maxLen at hm
  obtain ⟨w0, hw0⟩ : ∃ w0, w.alloc (.cells #[.int .i64 m, .slice a n cap] 58) = w0 := ⟨_, rfl⟩
  have hb0 : Below w.heap.size w w0 := by rw [← hw0]; exact (Below.refl _ _).alloc (Nat.le_refl _) _
  have hs0 : w.heap.size < w0.heap.size := by rw [← hw0]; simp
  have c0 : w0.cell? ⟨w.heap.size, 0, none⟩ = some (.int .i64 m) := by rw [← hw0]; simp [go_sem]
  have c1 : w0.cell? ⟨w.heap.size, 1, none⟩ = some (.slice a n cap) := by rw [← hw0]; simp [go_sem]
  have HC : Hid (∀ W, Lw w0 W → W.cell? ⟨w.heap.size, 0, none⟩ = some (.int .i64 m) ∧ W.cell? ⟨w.heap.size, 1, none⟩ = some (.slice a n cap)) := fun W h => ⟨(h.cell (p := ⟨w.heap.size, 0, none⟩) hs0).trans c0, (h.cell (p := ⟨w.heap.size, 1, none⟩) hs0).trans c1⟩
  have HB0 := Lib.hid hb0
  have HR0 := Lib.hid (hr.keep hb0 (Nat.le_refl _))
  have HN := Lib.hid hn
  have HS := Lib.hid (szDiagram_any m a n cap 1048576 w0 (by omega) (by omega) (by omega))
  clear hr hb0 hn
  by_cases hl : n ≤ 1048576
  · have hif : (if (n : Int) ≤ 1048576 then (1048576 : Int) - n else -1) = 1048576 - (n : Int) := if_pos (by omega)
    have HIF := Lib.hid hif
    clear hif
    have HTD : Hid (∀ W, Lw w0 W → Calls Try.prog 43 #[.agg #[.int .i64 m, .slice a n cap]] W fun e w' => ∃ a2 k2, e = .returned (.agg #[.int .i64 m, .slice a2 n k2]) ∧ Recs w' W.heap.size (.slice a2 n k2) n F ∧ Below W.heap.size W w') := fun W hW =>
      (toDiagram_any m a n cap F W HN.out (HR0.out.keep hW (Nat.le_refl _)) hl).mono fun e w' ⟨v, he, hi, hb⟩ => by
        obtain ⟨a2, k2, rfl, -, -⟩ := hi.form
        exact ⟨a2, k2, he, hi, hb⟩
    go_enter Try.func8, Try.ntmps8
    go_wp2_with fail
    refine HS.out.mono ?_
    rw [HIF.out]
    rintro e w1 ⟨rfl, b1⟩
    have L1 : Hid (Lw w0 w1) := b1
    clear b1 hw0 c0 c1
    obtain ⟨c0, c1⟩ := HC.out w1 L1.out
    go_wp2_with fail
    refine (HTD.out w1 L1.out).mono ?_
    rintro e w2 ⟨a2, k2, rfl, r2, b2⟩
    have L2 := Lib.hid (L1.out.call b2)
    have HR2 := Lib.hid r2
    clear b2 r2 c0 c1
    go_wp2_with fail
    refine (specTg _ m a2 n k2 F w2 HR2.out hl).mono ?_
    rintro e w3 ⟨b3, M, v0, ok, rfl, hM, hT⟩
    have L3 := Lib.hid (L2.out.call b3)
    have HM := Lib.hid hM
    obtain ⟨N, bb, hN10, hts⟩ := tg_is m n F M
    have HT := Lib.hid hts
    obtain ⟨rfl, i0⟩ := hts _ _ _ _ hT
    obtain ⟨T, hTT⟩ : ∃ T, N * N = T := ⟨_, rfl⟩
    have HTT := Lib.hid hTT
    have hT100 : T ≤ 100 := by rw [← hTT]; exact cnt_le (Nat.le_refl N) hN10
    have HI0 : Hid (∀ W, Below w3.heap.size w3 W → TgV W w2.heap.size v0 N M) := fun W hW => i0.below hW (Nat.le_refl _)
    clear b3 hM hT i0 hts hTT
    obtain ⟨c0, c1⟩ := HC.out w3 L3.out
    go_wp2_with fail
    refine (HTD.out w3 L3.out).mono ?_
    rintro e w4 ⟨a4, k4, rfl, r4, b4⟩
    have L4 := Lib.hid (L3.out.call b4)
    have hz34 := b4.size
    obtain ⟨w5, hw5⟩ : ∃ w5, w4.alloc (.cells #[.int .i64 m, .slice a4 n k4] 65) = w5 := ⟨_, rfl⟩
    have hb5 : Below w4.heap.size w4 w5 := by rw [← hw5]; exact (Below.refl _ _).alloc (Nat.le_refl _) _
    have hs5 : w4.heap.size < w5.heap.size := by rw [← hw5]; simp
    have p0 : w5.cell? ⟨w4.heap.size, 0, none⟩ = some (.int .i64 m) := by rw [← hw5]; simp [go_sem]
    have p1 : w5.cell? ⟨w4.heap.size, 1, none⟩ = some (.slice a4 n k4) := by rw [← hw5]; simp [go_sem]
    have HX : Hid (∀ W, Lw w5 W → W.cell? ⟨w4.heap.size, 0, none⟩ = some (.int .i64 m) ∧ W.cell? ⟨w4.heap.size, 1, none⟩ = some (.slice a4 n k4)) := fun W h => ⟨(h.cell (p := ⟨w4.heap.size, 0, none⟩) hs5).trans p0, (h.cell (p := ⟨w4.heap.size, 1, none⟩) hs5).trans p1⟩
    have HR5 := Lib.hid (r4.keep hb5 (Nat.le_refl _))
    have L5 := Lib.hid (L4.out.call hb5)
    have HB35 := Lib.hid (b4.trans (hb5.mono hz34))
    clear b4 r4 hb5 c0 c1
    go_wp2_with fail
    clear hw5
    refine (implTg _ m a4 n k4 F M w5 HR5.out hl HM.out).mono ?_
    rintro e w6 ⟨b6, v1, ok', rfl, hT'⟩
    obtain ⟨rfl, i1⟩ := HT.out _ _ _ _ hT'
    have L6 := Lib.hid (L5.out.call b6)
    have X6 : Hid (Lw w5 w6) := b6
    have HI1 := Lib.hid i1
    have HR6 := Lib.hid (HR5.out.keep b6 (Nat.le_refl _))
    have K6 := Lib.hid (HB35.out.trans (b6.mono HB35.out.size))
    have HI06 := Lib.hid (HI0.out _ K6.out)
    clear b6 i1 hT' p0 p1
    go_wp2_with fail
    refine (eqTab _ _ N M v1 v0 w6 hN10 HI1.out HI06.out).mono ?_; rintro e w' ⟨rfl, q, rfl⟩
    obtain ⟨W6, hW6⟩ : ∃ W, w6.drewN q = W := ⟨_, rfl⟩
    have L7 : Hid (Lw w0 W6) := by rw [← hW6]; exact L6.out.drN q
    have X7 : Hid (Lw w5 W6) := by rw [← hW6]; exact X6.out.drN q
    have K7 : Hid (Below w3.heap.size w3 W6) := by rw [← hW6]; exact ⟨K6.out.os, K6.out.tape, K6.out.output, K6.out.size, K6.out.block⟩
    have HI17 : Hid (TgV W6 w5.heap.size v1 N M) := by rw [← hW6]; exact HI1.out.below (K := w6.heap.size) ⟨rfl, rfl, rfl, Nat.le_refl _, fun _ _ => rfl⟩ (Nat.le_refl _)
    have HR7 : Hid (Recs W6 w3.heap.size (.slice a4 n k4) n F) := by rw [← hW6]; exact HR6.out
    obtain ⟨c0, c1⟩ := HC.out W6 L7.out
    obtain ⟨x0, x1⟩ := HX.out W6 X7.out
    have HTD7 := Lib.hid (HTD.out W6.drew L7.out.dr)
    rw [hW6]
    clear hW6 L6 X6 HI1 HI06 HR6 K6
    go_wp2
    refine meetK ?X (fun a6 k6 W => Lw W6 W) ?h1 ?h2
    case h1 =>
      intro K1
      go_region_with (first | (go_at_call 43; refine HTD7.out.mono ?_; rintro e w7 ⟨a6, k6, rfl, i7, b7⟩; have HI7 := Lib.hid i7; have HB7 := Lib.hid b7; obtain ⟨y0, y1⟩ := HX.out w7 (X7.out.call ((Below.refl W6.heap.size W6).drew.trans b7)); clear i7 b7) | (go_at_call 46; refine (eqDiagram_same _ _ m _ _ n F _ ((HR7.out.keep (show Below W6.heap.size W6 _ from (Below.refl _ _).drew) (Nat.le_refl _)).keep HB7.out (Nat.le_refl _)) HI7.out).mono ?_; rintro e w8 ⟨rfl, b8⟩; have HB8 := Lib.hid b8; clear b8))
      all_goals
        refine gen_endK _ (fun W => Lw W6 W) ?_ ?_
        · exact ((show Lw W6 W6 from Below.refl _ _).dr.call HB7.out).call HB8.out
        · intro Wn hW
          exact K1.out a6 k6 Wn hW
    case h2 =>
      intro a6 k6 W8 hlw8
      have L8 := Lib.hid (L7.out.call hlw8)
      have X8 := Lib.hid (X7.out.call hlw8)
      have HI18 := Lib.hid (HI17.out.below hlw8 (Nat.le_refl _))
      have K8 := Lib.hid (K7.out.trans (hlw8.mono K7.out.size))
      have HR8 := Lib.hid (HR7.out.keep hlw8 (Nat.le_refl _))
      clear hlw8 c0 c1 x0 x1 HTD7 L7 X7 HI17 K7 HR7
      obtain ⟨x0, x1⟩ := HX.out W8 X8.out
      have hz8 : w3.heap.size ≤ W8.heap.size := by have h1 := X8.out.size; have h2 := HB35.out.size; omega
      go_wp2_with fail
      refine (markDiagram_any _ m a4 n k4 F W8 HR8.out hl).mono ?_
      rintro e w9 ⟨kk, rfl, hkk, -, ob, hg9⟩
      have HB9 := Lib.hid (marked_below HR8.out hz8 hg9)
      have HI19 := Lib.hid ((HI18.out.below ((Below.refl W8.heap.size W8).alloc (Nat.le_refl _) ob) (Nat.le_refl _)).grownLt hg9 (fun r e => (HR5.out.2.lt r e).2))
      have K9 := Lib.hid (K8.out.trans HB9.out)
      have HI09 := Lib.hid (HI0.out _ K9.out)
      have L9 := Lib.hid (L8.out.callB HB9.out (by have h1 := L3.out.size; omega))
      have kn1 : ¬ kk < 0 := by omega
      have kn2 : decide (kk < 0) = false := decide_eq_false kn1
      clear hg9 x0 x1 HI18 K8 HR8
      go_wp2_with fail
      refine (eqTab _ _ N M v1 v0 w9 hN10 HI19.out HI09.out).mono ?_; rintro e w' ⟨rfl, q2, rfl⟩
      go_wp2_with fail
      have HMK := Lib.hid (markTab _ N M v1 (w9.drewN q2) hN10 (HI19.out.below (K := w9.heap.size) ⟨rfl, rfl, rfl, Nat.le_refl _, fun _ _ => rfl⟩ (Nat.le_refl _)) T HTT.out (show w5.heap.size ≤ w9.heap.size by have h1 := L9.out.size; have h2 := X8.out.size; have h3 := HB9.out.size; omega))
      refine HMK.out.mono ?_; rintro e w10 ⟨rfl, ⟨M', i10, hM'⟩, b10⟩
      have HM' := Lib.hid hM'
      have B10 : Hid (Below w5.heap.size w9 w10) := ⟨b10.os, b10.tape, b10.output, b10.size, b10.block⟩
      have HI10 := Lib.hid i10
      have L10 := Lib.hid (L9.out.callB B10.out (by have h1 := L5.out.size; omega))
      have K10 := Lib.hid (K9.out.trans (B10.out.mono HB35.out.size))
      have hT0 : ¬ (1 + (T : Int)) < 0 := by omega
      clear i10 b10 HI19 HI09 hM' HMK
      go_wp2_with fail
      refine (heldTab _ N M' v1 _ hN10 HI10.out T HTT.out HM'.out).mono ?_; rintro e w' ⟨rfl, rfl⟩
      obtain ⟨c0, c1⟩ := HC.out w10 L10.out
      go_wp2_with fail
      refine (HTD.out w10 L10.out).mono ?_
      rintro e w11 ⟨a11, k11, rfl, r11, b11⟩
      have L11 := Lib.hid (L10.out.call b11)
      have HR11 := Lib.hid r11
      have HB11 := Lib.hid b11
      clear b11 r11 c0 c1
      go_wp2_with fail
      refine (implTg _ m a11 n k11 F M w11 HR11.out hl HM.out).mono ?_
      rintro e w12 ⟨b12, v2, ok2, rfl, hT2⟩
      obtain ⟨rfl, i12⟩ := HT.out _ _ _ _ hT2
      have L12 := Lib.hid (L11.out.call b12)
      have HB12 := Lib.hid (HB11.out.trans (b12.mono HB11.out.size))
      have HI12 := Lib.hid i12
      have HI012 := Lib.hid (HI0.out _ (K10.out.trans (HB12.out.mono K10.out.size)))
      have HI112 := Lib.hid (HI10.out.below HB12.out (Nat.le_refl _))
      clear b12 i12 hT2
      go_wp2_with fail
      refine (eqTab _ _ N M v2 v0 w12 hN10 HI12.out HI012.out).mono ?_; rintro e w' ⟨rfl, q3, rfl⟩
      go_wp2_with fail
      refine (heldTab _ N M' v1 (w12.drewN q3) hN10 (HI112.out.below (K := w12.heap.size) ⟨rfl, rfl, rfl, Nat.le_refl _, fun _ _ => rfl⟩ (Nat.le_refl _)) T HTT.out HM'.out).mono ?_; rintro e w' ⟨rfl, rfl⟩
      have HFIN := Lib.hid (HB0.out.trans (L12.out.mono HB0.out.size))
      go_wp2
      go_ret
      exact ⟨rfl, ⟨HFIN.out.os, HFIN.out.tape, HFIN.out.output, HFIN.out.size, HFIN.out.block⟩⟩
  · have hif : (if (n : Int) ≤ 1048576 then (1048576 : Int) - n else -1) = -1 := if_neg (by omega)
    have HIF := Lib.hid hif
    clear hif
    go_enter Try.func8, Try.ntmps8
    go_wp2_with fail
    refine HS.out.mono ?_
    rw [HIF.out]
    rintro e w1 ⟨rfl, b1⟩
    have HB1 := Lib.hid (HB0.out.trans (b1.mono HB0.out.size))
    clear b1 hw0
    go_wp2
    go_ret
    exact ⟨rfl, HB1.out⟩
end Go.Proofs.Ytkipgeecibimoaa
