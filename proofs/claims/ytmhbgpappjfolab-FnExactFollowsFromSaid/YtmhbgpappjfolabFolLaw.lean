/- The walk of a law: what follows from a diagram is the same on both sides. -/
import Derived.Test.YtmhbgpappjfolabFolS
import Derived.Deep.RegionHeld3
namespace Go.Proofs.Ytmhbgpappjfolab
open Go.RowKit
set_option linter.unusedVariables false

/-- a world behind w0 -/
def Lw (w0 W : World) : Prop := Below w0.heap.size w0 W
theorem Lw.dr {w W : World} (h : Lw w W) : Lw w W.drew := ⟨h.os, h.tape, h.output, h.size, h.block⟩
theorem Lw.call {w W W' : World} (h : Lw w W) (hb : Below W.heap.size W W') : Lw w W' := h.trans (hb.mono h.size)
theorem Lw.refl (w : World) : Lw w w := Below.refl _ _
theorem meetF {G : Prop} (X : Bool → Option Addr → Nat → World → Prop) (F : Bool → Option Addr → Nat → World → Prop) (h1 : Hid (∀ c a k W, F c a k W → X c a k W) → G) (h2 : ∀ c a k W, F c a k W → X c a k W) : G := h1 (Lib.hid h2)
theorem meetB {G : Prop} (X : Bool → World → Prop) (F : Bool → World → Prop) (h1 : Hid (∀ c W, F c W → X c W) → G) (h2 : ∀ c W, F c W → X c W) : G := h1 (Lib.hid h2)
theorem gen_endF {K : Act → World → Prop} {Q : Exit → Act → World → Prop} {E : Exit} {A : Act} (W0 : World) (F : World → Prop) (h0 : F W0) (k : ∀ W, F W → Exit.then K Q E A W) : Exit.then K Q E A W0 := k W0 h0
def RecE (w : World) (v : Value) (n : Nat) (F : List Int) : Prop := ∃ B, Recs w B v n F
theorem RecE.keep {w w' : World} {v : Value} {n N : Nat} {F : List Int} (h : RecE w v n F) (hb : Below N w w') (hN : w.heap.size ≤ N) : RecE w' v n F := by
  obtain ⟨B, h⟩ := h
  exact ⟨B, h.keep hb hN⟩
theorem specFolE (e : Int) (a : Option Addr) (nb cap : Nat) (F : List Int) (x y z : Int) (w : World) (hr : RecE w (.slice a nb cap) nb F) (hl : nb ≤ 1048576) :
    Calls Try.prog 24 #[.agg #[.int .i64 e, .slice a nb cap], .agg #[.int .i64 x, .int .i64 y, .int .i64 z]] w fun r w' => FolR e nb F x y z w r w' := by
  obtain ⟨B, h⟩ := hr
  exact specFol B e a nb cap F x y z w h hl
theorem implFolE (e : Int) (a : Option Addr) (nb cap : Nat) (F : List Int) (x y z : Int) (M : Nat → Nat → Int) (w : World) (hr : RecE w (.slice a nb cap) nb F) (hl : nb ≤ 1048576) (wx : (Lit.int .i64 x).wf = true) (wy : (Lit.int .i64 y).wf = true) (hM : FolM e nb F x y z M) :
    Calls Try.prog 26 #[.agg #[.int .i64 e, .slice a nb cap], .agg #[.int .i64 x, .int .i64 y, .int .i64 z]] w fun r w' => Below w.heap.size w w' ∧ ∃ ok : Bool, r = .returned (.bool ok) ∧ (ok = true ↔ FolP e nb F M x y z) := by
  obtain ⟨B, h⟩ := hr
  exact implFol B e a nb cap F x y z M w h hl wx wy hM
def FolAns (e : Int) (nb : Nat) (F : List Int) (x y z : Int) (ok : Bool) : Prop := ∃ M : Nat → Nat → Int, FolM e nb F x y z M ∧ (ok = true ↔ FolP e nb F M x y z)

set_option maxHeartbeats 4000000 in
set_option maxRecDepth 100000 in
theorem walk_FnExactFollowsFrom (m : Int) (a : Option Addr) (n cap : Nat) (F : List Int) (x y z : Int) (w : World) (hn : F.length = n * 3) (hr : ArgRow w a F) (hm : n ≤ maxLen) (wx : (Lit.int .i64 x).wf = true) (wy : (Lit.int .i64 y).wf = true) (wz : (Lit.int .i64 z).wf = true) :
    Calls Try.prog 6 #[.agg #[.int .i64 m, .slice a n cap], .agg #[.int .i64 x, .int .i64 y, .int .i64 z]] w fun e w' => e = .returned (.bool true) ∧ Below w.heap.size w w' := by
  unfold maxLen at hm
  obtain ⟨w0, hw0⟩ : ∃ w0, (w.alloc (.cells #[.int .i64 m, .slice a n cap] 24)).alloc (.cells #[.int .i64 x, .int .i64 y, .int .i64 z] 45) = w0 := ⟨_, rfl⟩
  have hb0 : Below w.heap.size w w0 := by rw [← hw0]; exact ((Below.refl _ _).alloc (Nat.le_refl _) _).alloc (by simp) _
  have hs0 : w.heap.size + 1 < w0.heap.size := by rw [← hw0]; simp
  have c0 : w0.cell? ⟨w.heap.size, 0, none⟩ = some (.int .i64 m) := by rw [← hw0]; simp [go_sem]
  have c1 : w0.cell? ⟨w.heap.size, 1, none⟩ = some (.slice a n cap) := by rw [← hw0]; simp [go_sem]
  have s0 : w0.cell? ⟨w.heap.size + 1, 0, none⟩ = some (.int .i64 x) := by rw [← hw0]; simp [go_sem]
  have s1 : w0.cell? ⟨w.heap.size + 1, 1, none⟩ = some (.int .i64 y) := by rw [← hw0]; simp [go_sem]
  have s2 : w0.cell? ⟨w.heap.size + 1, 2, none⟩ = some (.int .i64 z) := by rw [← hw0]; simp [go_sem]
  have HC0 := Lib.hid (And.intro c0 (And.intro c1 (And.intro s0 (And.intro s1 s2))))
  have HB0 := Lib.hid hb0
  have HR0 := Lib.hid (hr.keep hb0 (Nat.le_refl _))
  have HN := Lib.hid hn
  have HS := Lib.hid (szDiagram_any m a n cap 1048576 w0 (by omega) (by omega) (by omega))
  clear hr hb0 hn s0 s1 s2
  by_cases hl : n ≤ 1048576
  · have hif : (if (n : Int) ≤ 1048576 then (1048576 : Int) - n else -1) = 1048576 - (n : Int) := if_pos (by omega)
    have HIF := Lib.hid hif
    clear hif
    go_enter Try.func6, Try.ntmps6
    go_wp2_with fail
    refine HS.out.mono ?_
    rw [HIF.out]
    rintro e w1 ⟨rfl, b1⟩
    have hsz1 : w.heap.size + 1 < w1.heap.size := Nat.lt_of_lt_of_le hs0 b1.size
    have HB1 := Lib.hid (HB0.out.trans (b1.mono HB0.out.size))
    have HR1 := Lib.hid (HR0.out.keep b1 (Nat.le_refl _))
    have q0 : w1.cell? ⟨w.heap.size, 0, none⟩ = some (.int .i64 m) := (b1.cell (p := ⟨w.heap.size, 0, none⟩) (Nat.lt_trans (Nat.lt_succ_self _) hs0)).trans HC0.out.1
    have q1 : w1.cell? ⟨w.heap.size, 1, none⟩ = some (.slice a n cap) := (b1.cell (p := ⟨w.heap.size, 1, none⟩) (Nat.lt_trans (Nat.lt_succ_self _) hs0)).trans HC0.out.2.1
    have q2 : w1.cell? ⟨w.heap.size + 1, 0, none⟩ = some (.int .i64 x) := (b1.cell (p := ⟨w.heap.size + 1, 0, none⟩) hs0).trans HC0.out.2.2.1
    have q3 : w1.cell? ⟨w.heap.size + 1, 1, none⟩ = some (.int .i64 y) := (b1.cell (p := ⟨w.heap.size + 1, 1, none⟩) hs0).trans HC0.out.2.2.2.1
    have q4 : w1.cell? ⟨w.heap.size + 1, 2, none⟩ = some (.int .i64 z) := (b1.cell (p := ⟨w.heap.size + 1, 2, none⟩) hs0).trans HC0.out.2.2.2.2
    have q5 : Lw w1 w1 := Lw.refl _
    have HQ1 := Lib.hid (And.intro q0 (And.intro q1 (And.intro q2 (And.intro q3 q4))))
    have HTD : Hid (∀ W, Lw w1 W → Calls Try.prog 10 #[.agg #[.int .i64 m, .slice a n cap]] W fun e w' => ∃ a2 k2, e = .returned (.agg #[.int .i64 m, .slice a2 n k2]) ∧ Recs w' W.heap.size (.slice a2 n k2) n F ∧ Below W.heap.size W w') := fun W hW =>
      (toDiagram_any m a n cap F W HN.out (HR1.out.keep hW (Nat.le_refl _)) hl).mono fun e w' ⟨v, he, hi, hb⟩ => by
        obtain ⟨a2, k2, rfl, -, -⟩ := hi.form
        exact ⟨a2, k2, he, hi, hb⟩
    clear b1 hw0 c0 c1
    go_wp2
    refine meetF ?X (fun ok a2 k2 W => FolAns m n F x y z ok ∧ Lw w1 W) ?h1 ?h2
    case h1 =>
      intro K1
      go_region_held3 (fun W => W.cell? ⟨w.heap.size, 0, none⟩ = some (.int .i64 m) ∧ W.cell? ⟨w.heap.size, 1, none⟩ = some (.slice a n cap) ∧ W.cell? ⟨w.heap.size + 1, 0, none⟩ = some (.int .i64 x) ∧ W.cell? ⟨w.heap.size + 1, 1, none⟩ = some (.int .i64 y) ∧ W.cell? ⟨w.heap.size + 1, 2, none⟩ = some (.int .i64 z) ∧ Lw w1 W) (first | (go_split_ands; (refine ⟨?_, ?_, ?_, ?_, ?_, ?_⟩ <;> (first | (with_reducible assumption) | ((with_reducible apply cell_kept) <;> (with_reducible assumption)) | ((with_reducible refine cell_drA ?_); (with_reducible assumption)) | ((with_reducible refine cell_alloc_kept ?_); (with_reducible assumption)) | ((repeat' (first | (with_reducible assumption) | (with_reducible refine Lw.dr ?_) | (with_reducible refine Lw.call ?_ hba) | (with_reducible refine Lw.call ?_ hbb) | (with_reducible refine Lw.call ?_ hbc))); done))))) (first | (go_at_call 10; refine Calls.mono (HTD.out _ ?_) ?_; (focus (first | (with_reducible assumption) | ((with_reducible refine Lw.dr ?_); (with_reducible assumption)) | ((repeat' (first | (with_reducible assumption) | (with_reducible refine Lw.dr ?_) | (with_reducible refine Lw.call ?_ hba) | (with_reducible refine Lw.call ?_ hbb))); done))); rintro e wa ⟨a2, k2, rfl, ra, hba⟩; have HRA : Hid (RecE wa (.slice a2 n k2) n F) := ⟨_, ra⟩; clear ra) | (go_at_call 25; (with_reducible refine (toBound_any x y z _).mono ?_); rintro e wb ⟨rfl, hbb⟩) | (go_at_call 24; refine Calls.mono (specFolE m _ n _ F x y z _ ?_ hl) ?_; (focus (first | exact HRA.out | exact HRA.out.keep hbb (Nat.le_refl _))); rintro e wc ⟨hbc, M, ok, rfl, hM, hG⟩; have HANS : Hid (FolAns m n F x y z ok) := ⟨M, hM, hG⟩; clear hM hG))
      all_goals
        refine gen_endF _ (fun W => FolAns m n F x y z ok ∧ Lw w1 W) ?_ ?_
        · go_split_ands
          exact ⟨HANS.out, by (repeat' (first | (with_reducible assumption) | (with_reducible refine Lw.dr ?_) | (with_reducible refine Lw.call ?_ hba) | (with_reducible refine Lw.call ?_ hbb) | (with_reducible refine Lw.call ?_ hbc)))⟩
        · intro Wn hW
          exact K1.out ok a2 k2 Wn hW
    case h2 =>
      intro ok a2 k2 W ⟨hans, hlw⟩
      have HANS := Lib.hid hans
      have HLW := Lib.hid hlw
      have hszW : w.heap.size + 1 < W.heap.size := Nat.lt_of_lt_of_le hsz1 hlw.size
      clear hans q0 q1 q2 q3 q4 q5
      have c0 : W.cell? ⟨w.heap.size, 0, none⟩ = some (.int .i64 m) := (hlw.cell (p := ⟨w.heap.size, 0, none⟩) (Nat.lt_trans (Nat.lt_succ_self _) hsz1)).trans HQ1.out.1
      have c1 : W.cell? ⟨w.heap.size, 1, none⟩ = some (.slice a n cap) := (hlw.cell (p := ⟨w.heap.size, 1, none⟩) (Nat.lt_trans (Nat.lt_succ_self _) hsz1)).trans HQ1.out.2.1
      clear hlw
      go_wp2_with fail
      refine (HTD.out W HLW.out).mono ?_
      rintro e w4 ⟨a4, k4, rfl, r4, b4⟩
      obtain ⟨w5, hw5⟩ : ∃ w5, w4.alloc (.cells #[.int .i64 m, .slice a4 n k4] 31) = w5 := ⟨_, rfl⟩
      have hb5 : Below w4.heap.size w4 w5 := by rw [← hw5]; exact (Below.refl _ _).alloc (Nat.le_refl _) _
      have hs5 : w4.heap.size < w5.heap.size := by rw [← hw5]; simp
      have p0 : w5.cell? ⟨w4.heap.size, 0, none⟩ = some (.int .i64 m) := by rw [← hw5]; simp [go_sem]
      have p1 : w5.cell? ⟨w4.heap.size, 1, none⟩ = some (.slice a4 n k4) := by rw [← hw5]; simp [go_sem]
      have HR5 := Lib.hid (r4.keep hb5 (Nat.le_refl _))
      have HE5 : Hid (RecE w5 (.slice a4 n k4) n F) := ⟨_, HR5.out⟩
      have hl5 : Lw w1 w5 := (HLW.out.call b4).call hb5
      have p2 : w5.cell? ⟨w.heap.size + 1, 0, none⟩ = some (.int .i64 x) := (hl5.cell (p := ⟨w.heap.size + 1, 0, none⟩) hsz1).trans HQ1.out.2.2.1
      have p3 : w5.cell? ⟨w.heap.size + 1, 1, none⟩ = some (.int .i64 y) := (hl5.cell (p := ⟨w.heap.size + 1, 1, none⟩) hsz1).trans HQ1.out.2.2.2.1
      have p4 : w5.cell? ⟨w.heap.size + 1, 2, none⟩ = some (.int .i64 z) := (hl5.cell (p := ⟨w.heap.size + 1, 2, none⟩) hsz1).trans HQ1.out.2.2.2.2
      have p5 : Lw w5 w5 := Lw.refl _
      have HL5 := Lib.hid hl5
      have HP5 := Lib.hid (And.intro p0 p1)
      have hsz5 : w.heap.size + 1 < w5.heap.size := Nat.lt_of_lt_of_le hsz1 hl5.size
      clear b4 hb5 r4 hl5 c0 c1
      obtain ⟨M, hM, hG⟩ := HANS.out
      have HM := Lib.hid hM
      have HG := Lib.hid hG
      clear hM hG
      go_wp2
      clear hw5
      refine meetB ?X2 (fun ok' W' => (ok' = true ↔ FolP m n F M x y z) ∧ Lw w5 W') ?g1 ?g2
      case g1 =>
        intro K2
        go_region_held3 (fun W => W.cell? ⟨w4.heap.size, 0, none⟩ = some (.int .i64 m) ∧ W.cell? ⟨w4.heap.size, 1, none⟩ = some (.slice a4 n k4) ∧ W.cell? ⟨w.heap.size + 1, 0, none⟩ = some (.int .i64 x) ∧ W.cell? ⟨w.heap.size + 1, 1, none⟩ = some (.int .i64 y) ∧ W.cell? ⟨w.heap.size + 1, 2, none⟩ = some (.int .i64 z) ∧ Lw w5 W) (first | (go_split_ands; (refine ⟨?_, ?_, ?_, ?_, ?_, ?_⟩ <;> (first | (with_reducible assumption) | ((with_reducible apply cell_kept) <;> (with_reducible assumption)) | ((with_reducible refine cell_drA ?_); (with_reducible assumption)) | ((with_reducible refine cell_alloc_kept ?_); (with_reducible assumption)) | ((repeat' (first | (with_reducible assumption) | (with_reducible refine Lw.dr ?_) | (with_reducible refine Lw.call ?_ hba) | (with_reducible refine Lw.call ?_ hbb) | (with_reducible refine Lw.call ?_ hbc))); done))))) (first | (go_at_call 25; (with_reducible refine (toBound_any x y z _).mono ?_); rintro e wb ⟨rfl, hbb⟩) | (go_at_call 26; refine Calls.mono (implFolE m a4 n k4 F x y z M _ ?_ hl wx wy HM.out) ?_; (focus (first | (exact HE5.out.keep hbb (Nat.le_refl _)) | (exact HE5.out.keep (show Below w5.heap.size w5 _ from Lw.call (Lw.dr (Lw.refl w5)) hbb) (Nat.le_refl _)))); rintro e wc ⟨hbc, ok', rfl, hG'⟩; have HG' := Lib.hid hG'; clear hG'))
        all_goals
          refine gen_endF _ (fun W' => (ok' = true ↔ FolP m n F M x y z) ∧ Lw w5 W') ?_ ?_
          · go_split_ands
            exact ⟨HG'.out, by (repeat' (first | (with_reducible assumption) | (with_reducible refine Lw.dr ?_) | (with_reducible refine Lw.call ?_ hbb) | (with_reducible refine Lw.call ?_ hbc)))⟩
          · intro Wn hW
            exact K2.out ok' Wn hW
      case g2 =>
        intro ok' W6 ⟨hG', hl6⟩
        clear p0 p1 p2 p3 p4 p5
        obtain rfl : ok = ok' := by
          have h1 := HG.out
          cases ok <;> cases ok' <;> simp_all
        have c0 : W6.cell? ⟨w.heap.size, 0, none⟩ = some (.int .i64 m) := ((HL5.out.trans (hl6.mono HL5.out.size)).cell (p := ⟨w.heap.size, 0, none⟩) (Nat.lt_trans (Nat.lt_succ_self _) hsz1)).trans HQ1.out.1
        have c1 : W6.cell? ⟨w.heap.size, 1, none⟩ = some (.slice a n cap) := ((HL5.out.trans (hl6.mono HL5.out.size)).cell (p := ⟨w.heap.size, 1, none⟩) (Nat.lt_trans (Nat.lt_succ_self _) hsz1)).trans HQ1.out.2.1
        have x0 : W6.cell? ⟨w4.heap.size, 0, none⟩ = some (.int .i64 m) := (hl6.cell (p := ⟨w4.heap.size, 0, none⟩) hs5).trans HP5.out.1
        have x1 : W6.cell? ⟨w4.heap.size, 1, none⟩ = some (.slice a4 n k4) := (hl6.cell (p := ⟨w4.heap.size, 1, none⟩) hs5).trans HP5.out.2
        have HL6 : Hid (Lw w1 W6) := HL5.out.trans (hl6.mono HL5.out.size)
        have HX6 : Hid (∀ W', Below W6.heap.size W6 W' → W'.cell? ⟨w4.heap.size, 0, none⟩ = some (.int .i64 m) ∧ W'.cell? ⟨w4.heap.size, 1, none⟩ = some (.slice a4 n k4)) := fun W' hb => ⟨(hb.cell (p := ⟨w4.heap.size, 0, none⟩) (Nat.lt_of_lt_of_le hs5 hl6.size)).trans x0, (hb.cell (p := ⟨w4.heap.size, 1, none⟩) (Nat.lt_of_lt_of_le hs5 hl6.size)).trans x1⟩
        have HI6 := Lib.hid ((HR5.out.keep hl6 (Nat.le_refl _)).keep ((Below.refl W6.heap.size W6).drew) (Nat.le_refl _))
        have HT6 := Lib.hid (HTD.out W6.drew HL6.out.dr)
        have HB6 := Lib.hid (HB1.out.trans (HL6.out.mono HB1.out.size))
        clear hG' hl6
        go_wp2
        go_region_with (first | (go_at_call 10; refine HT6.out.mono ?_; rintro e w6 ⟨a6, k6, rfl, i6, b6⟩; have HI7 := Lib.hid i6; have HB7 := Lib.hid b6; obtain ⟨y0, y1⟩ := HX6.out w6 ((Below.refl W6.heap.size W6).drew.trans b6); clear i6 b6) | (go_at_call 13; refine (eqDiagram_same _ _ m _ _ n F _ (HI6.out.keep HB7.out (Nat.le_refl _)) HI7.out).mono ?_; rintro e w7 ⟨rfl, b7⟩; have HB8 := Lib.hid b7; clear b7))
        all_goals
          go_wp2
          go_ret
          exact ⟨rfl, (HB6.out.drew.trans (HB7.out.mono (by have := HB6.out.size; simp; omega))).trans (HB8.out.mono (Nat.le_trans (by have := HB6.out.size; simp; omega) HB7.out.size))⟩
  · have hif : (if (n : Int) ≤ 1048576 then (1048576 : Int) - n else -1) = -1 := if_neg (by omega)
    have HIF := Lib.hid hif
    clear hif
    go_enter Try.func6, Try.ntmps6
    go_wp2_with fail
    refine HS.out.mono ?_
    rw [HIF.out]
    rintro e w1 ⟨rfl, b1⟩
    have HB1 := Lib.hid (HB0.out.trans (b1.mono HB0.out.size))
    clear b1 hw0
    go_wp2
    go_ret
    exact ⟨rfl, HB1.out⟩
end Go.Proofs.Ytmhbgpappjfolab
