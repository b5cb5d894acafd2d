/- The comparison of two fractions, on the side of the model. -/
import Derived.Test.YtkipgeecibimoaaCmpImpl
import Derived.Test.YtkipgeecibimoaaTimes
import Derived.Test.YtkipgeecibimoaaKept
import Derived.Deep.RegionHeld3
namespace Go.Proofs.Ytkipgeecibimoaa
open Go.RowKit
set_option linter.unusedVariables false

theorem less_raw (a b c d : Nat) (w : World) :
    Calls Try.prog 181 #[.agg #[.int .u64 a, .int .u64 b], .agg #[.int .u64 c, .int .u64 d]] w fun e w' => e = .returned (.bool (decide (a < c ∨ (a = c ∧ b < d)))) ∧ Below w.heap.size w w' := by
  by_cases h : a < c
  · have h1 : decide ((a : Int) < c) = true := by simp; omega
    go_enter Try.func181, Try.ntmps181
    go_wp2
    go_ret
    exact ⟨by simp [h], ((Below.refl _ _).alloc (Nat.le_refl _) _).alloc (by simp) _⟩
  · have h1 : decide ((a : Int) < c) = false := by simp; omega
    by_cases h' : a = c
    · have h2 : ((a : Int) == c) = true := by simp; omega
      go_enter Try.func181, Try.ntmps181
      go_wp2
      go_ret
      exact ⟨by simp [h'], ((Below.refl _ _).alloc (Nat.le_refl _) _).alloc (by simp) _⟩
    · have h2 : ((a : Int) == c) = false := by simp; omega
      go_enter Try.func181, Try.ntmps181
      go_wp2
      go_ret
      exact ⟨by simp [h, h'], ((Below.refl _ _).alloc (Nat.le_refl _) _).alloc (by simp) _⟩
theorem less_any (A B : Nat) (r : Bool) (w : World) (h : decide (A < B) = r) :
    Calls Try.prog 181 #[.agg #[.int .u64 (hiW A), .int .u64 (loW A)], .agg #[.int .u64 (hiW B), .int .u64 (loW B)]] w fun e w' => e = .returned (.bool r) ∧ Below w.heap.size w w' := by
  have h : decide (hiW A < hiW B ∨ (hiW A = hiW B ∧ loW A < loW B)) = r := by
    rw [← h, decide_eq_decide]; unfold hiW loW; omega
  rw [← h]
  exact less_raw _ _ _ _ w

/-- the comparison in words: of numbers with the sizes A, B of the products -/
def cmpV (s t : Bool) (A B : Nat) : Int :=
  if s != t then (if s then -1 else 1) else (if A < B then (if s then 1 else -1) else if B < A then (if s then -1 else 1) else 0)

theorem fcmp_mixed (n d p q : Int) (w : World) (h : (decide (n < 0) != decide (p < 0)) = true) :
    Calls Try.prog 135 #[.agg #[.int .i64 n, .int .i64 d], .agg #[.int .i64 p, .int .i64 q]] w fun e w' => e = .returned (.int .i64 (if n < 0 then -1 else 1)) ∧ Below w.heap.size w w' := by
  by_cases hn : n < 0
  · have hp : ¬ p < 0 := by intro hp; simp [hn, hp] at h
    clear h
    go_enter Try.func135, Try.ntmps135
    go_wp2
    go_ret
    exact ⟨rfl, ((Below.refl _ _).alloc (Nat.le_refl _) _).alloc (by simp) _⟩
  · have hp : p < 0 := by
      by_cases hp : p < 0
      · exact hp
      · simp [hn, hp] at h
    clear h
    go_enter Try.func135, Try.ntmps135
    go_wp2
    go_ret
    exact ⟨rfl, ((Below.refl _ _).alloc (Nat.le_refl _) _).alloc (by simp) _⟩


theorem cell_alloc_other {W : World} {a : Addr} {v : Value} {o o' : Obj} (h : (W.alloc o').cell? a = some v) (hlt : a.block < W.heap.size) : (W.alloc o).cell? a = some v := by
  have e : W.cell? a = some v := (((Below.refl W.heap.size W).alloc (Nat.le_refl _) o').cell (p := a) hlt).symm.trans h
  exact cell_alloc_kept e
theorem gen_end {K : Act → World → Prop} {Q : Exit → Act → World → Prop} {E : Exit} {A : Act} (W0 : World) (F : World → Prop) (h0 : F W0) (k : ∀ W, F W → Exit.then K Q E A W) : Exit.then K Q E A W0 := k W0 h0
theorem below_dr1 {B : Nat} {a w : World} (h : Below B a w) : Below B a w.drew := ⟨h.os, h.tape, h.output, h.size, h.block⟩
theorem meet2 {G : Prop} (X : Nat → World → Prop) (F : Nat → World → Prop) (h1 : Hid (∀ b W, F b W → X b W) → G) (h2 : ∀ b W, F b W → X b W) : G := h1 (Lib.hid h2)

set_option maxHeartbeats 4000000 in
set_option maxRecDepth 100000 in
theorem fcmp_neg (n p : Int) (D Q : Nat) (w : World) (hn : n < 0) (hp : p < 0) (d1 : D ≤ 1000000000000000000) (q1 : Q ≤ 1000000000000000000) (n0 : -1000000000000000000 ≤ n) (p0 : -1000000000000000000 ≤ p) (n1 : n ≤ 1000000000000000000) (p1 : p ≤ 1000000000000000000)
    (r1 r2 : Bool) (h1 : decide (n.natAbs * Q < p.natAbs * D) = r1) (h2 : decide (p.natAbs * D < n.natAbs * Q) = r2) :
    Calls Try.prog 135 #[.agg #[.int .i64 n, .int .i64 (D : Int)], .agg #[.int .i64 p, .int .i64 (Q : Int)]] w fun e w' => e = .returned (.int .i64 (-(if r2 then 1 else if r1 then -1 else 0))) ∧ Below w.heap.size w w' := by
  have H1 := Lib.hid h1
  have H2 := Lib.hid h2
  clear h1 h2
  have wn : IntKind.i64.wrap (-n) = -n := IntWalk.i64_in _ (by omega)
  have wp : IntKind.i64.wrap (-p) = -p := IntWalk.i64_in _ (by omega)
  go_enter Try.func135, Try.ntmps135
  go_wp2_with fail
  refine meet2 ?X (fun b W => W.cell? ⟨w.heap.size, 0, none⟩ = some (.int .i64 n) ∧ W.cell? ⟨w.heap.size, 1, none⟩ = some (.int .i64 (D : Int)) ∧ W.cell? ⟨w.heap.size + 1, 0, none⟩ = some (.int .i64 p) ∧ W.cell? ⟨w.heap.size + 1, 1, none⟩ = some (.int .i64 (Q : Int)) ∧ W.cell? ⟨b, 0, none⟩ = some (.int .u64 (hiW (n.natAbs * Q) : Int)) ∧ W.cell? ⟨b, 1, none⟩ = some (.int .u64 (loW (n.natAbs * Q) : Int)) ∧ w.heap.size + 1 < b ∧ b < W.heap.size ∧ Below w.heap.size w W) ?h1 ?h2
  case h1 =>
    intro K1
    go_region_held3 (fun w' => w'.cell? ⟨w.heap.size, 0, none⟩ = some (.int .i64 n) ∧ w'.cell? ⟨w.heap.size, 1, none⟩ = some (.int .i64 (D : Int)) ∧ w'.cell? ⟨w.heap.size + 1, 0, none⟩ = some (.int .i64 p) ∧ w'.cell? ⟨w.heap.size + 1, 1, none⟩ = some (.int .i64 (Q : Int))) (first | (go_keep; done) | ((try dsimp only); (repeat' apply And.intro) <;> assumption) | (go_split_ands; (refine ⟨?_, ?_, ?_, ?_⟩ <;> (apply cell_kept <;> assumption))) | (go_split_ands; (refine ⟨?_, ?_, ?_, ?_⟩ <;> (exact cell_alloc_other (by assumption) (by have h1 := sza.out; (try simp at h1); dsimp only; omega)))) | (go_split_ands; (refine ⟨?_, ?_, ?_, ?_⟩ <;> (exact cell_set_kept (by have h1 := sza.out; (try simp at h1); dsimp only; omega) (cell_set_kept (by have h1 := sza.out; (try simp at h1); dsimp only; omega) (by assumption))))) | ((try dsimp only); (repeat' apply And.intro) <;> (first | assumption | (go_keep; done) | (apply cell_kept <;> assumption)))) (first | (go_at_call 142; refine (l00Max_size _ _ _ rfl).mono ?_; rintro e w' ⟨rfl, rfl⟩) | (go_at_call 180; refine (specTimes _ _ _ (by omega) (by omega)).mono ?_; rintro e wa ⟨rfl, hba⟩; have sza := Lib.hid hba.size; (try (refine fresh2 (w.heap.size + 1 + 1) (.int .u64 0) (.int .u64 0) hba ?_ ?_ ?_ ?_ ?_ ?_; (focus (first | assumption | (simp [go_sem]; done))); (focus (first | assumption | (simp [go_sem]; done))); (focus (first | assumption | (simp [go_sem]; done))); (focus (first | assumption | (simp [go_sem]; done))); (focus (first | (simp; done) | (simp; omega) | omega)); intro ae1 ae2 ae3 ae4 ae5))))
    · refine gen_end _ (fun W => W.cell? ⟨w.heap.size, 0, none⟩ = some (.int .i64 n) ∧ W.cell? ⟨w.heap.size, 1, none⟩ = some (.int .i64 (D : Int)) ∧ W.cell? ⟨w.heap.size + 1, 0, none⟩ = some (.int .i64 p) ∧ W.cell? ⟨w.heap.size + 1, 1, none⟩ = some (.int .i64 (Q : Int)) ∧ W.cell? ⟨wa.heap.size, 0, none⟩ = some (.int .u64 (hiW (n.natAbs * Q) : Int)) ∧ W.cell? ⟨wa.heap.size, 1, none⟩ = some (.int .u64 (loW (n.natAbs * Q) : Int)) ∧ w.heap.size + 1 < wa.heap.size ∧ wa.heap.size < W.heap.size ∧ Below w.heap.size w W) ?_ ?_
      · have h1 := sza.out; (try simp at h1)
        refine ⟨?_, ?_, ?_, ?_, ?_, ?_, ?_, ?_, ?_⟩
        all_goals (first | assumption | (simp [go_sem, *]; done) | (simp; omega) | ((repeat' (first | exact (Below.refl _ _) | (refine below_dr1 ?_) | (refine Below.setCell ?_ ?_ _) | (refine Below.alloc ?_ ?_ _) | (refine Below.trans ?_ (hba.mono ?_)))) <;> (first | (simp; done) | (simp; omega) | omega); done) | skip)
      · intro Wn hW
        generalize wa.heap.size = g at hW ⊢
        exact K1.out g Wn hW
    · refine gen_end _ (fun W => W.cell? ⟨w.heap.size, 0, none⟩ = some (.int .i64 n) ∧ W.cell? ⟨w.heap.size, 1, none⟩ = some (.int .i64 (D : Int)) ∧ W.cell? ⟨w.heap.size + 1, 0, none⟩ = some (.int .i64 p) ∧ W.cell? ⟨w.heap.size + 1, 1, none⟩ = some (.int .i64 (Q : Int)) ∧ W.cell? ⟨w.heap.size + 1 + 1, 0, none⟩ = some (.int .u64 (hiW (n.natAbs * Q) : Int)) ∧ W.cell? ⟨w.heap.size + 1 + 1, 1, none⟩ = some (.int .u64 (loW (n.natAbs * Q) : Int)) ∧ w.heap.size + 1 < w.heap.size + 1 + 1 ∧ w.heap.size + 1 + 1 < W.heap.size ∧ Below w.heap.size w W) ?_ ?_
      · have h1 := sza.out; (try simp at h1)
        refine ⟨?_, ?_, ?_, ?_, ?_, ?_, ?_, ?_, ?_⟩
        all_goals (first | assumption | (simp [go_sem, *]; done) | (simp; omega) | ((repeat' (first | exact (Below.refl _ _) | (refine below_dr1 ?_) | (refine Below.setCell ?_ ?_ _) | (refine Below.alloc ?_ ?_ _) | (refine Below.trans ?_ (hba.mono ?_)))) <;> (first | (simp; done) | (simp; omega) | omega); done) | skip)
      · intro Wn hW
        generalize w.heap.size + 1 + 1 = g at hW ⊢
        exact K1.out g Wn hW
    · refine gen_end _ (fun W => W.cell? ⟨w.heap.size, 0, none⟩ = some (.int .i64 n) ∧ W.cell? ⟨w.heap.size, 1, none⟩ = some (.int .i64 (D : Int)) ∧ W.cell? ⟨w.heap.size + 1, 0, none⟩ = some (.int .i64 p) ∧ W.cell? ⟨w.heap.size + 1, 1, none⟩ = some (.int .i64 (Q : Int)) ∧ W.cell? ⟨w.heap.size + 1 + 1, 0, none⟩ = some (.int .u64 (hiW (n.natAbs * Q) : Int)) ∧ W.cell? ⟨w.heap.size + 1 + 1, 1, none⟩ = some (.int .u64 (loW (n.natAbs * Q) : Int)) ∧ w.heap.size + 1 < w.heap.size + 1 + 1 ∧ w.heap.size + 1 + 1 < W.heap.size ∧ Below w.heap.size w W) ?_ ?_
      · have h1 := sza.out; (try simp at h1)
        refine ⟨?_, ?_, ?_, ?_, ?_, ?_, ?_, ?_, ?_⟩
        all_goals (first | assumption | (simp [go_sem, *]; done) | (simp; omega) | ((repeat' (first | exact (Below.refl _ _) | (refine below_dr1 ?_) | (refine Below.setCell ?_ ?_ _) | (refine Below.alloc ?_ ?_ _) | (refine Below.trans ?_ (hba.mono ?_)))) <;> (first | (simp; done) | (simp; omega) | omega); done) | skip)
      · intro Wn hW
        generalize w.heap.size + 1 + 1 = g at hW ⊢
        exact K1.out g Wn hW
  case h2 =>
    intro b W hW
    obtain ⟨c0, c1, c2, c3, c4, c5, hb1, hb2, hB⟩ := hW
    have HB := Lib.hid hB
    clear hB
    go_wp2_with fail
    refine meet2 ?X2 (fun b2 W2 => W2.cell? ⟨w.heap.size, 0, none⟩ = some (.int .i64 n) ∧ W2.cell? ⟨b, 0, none⟩ = some (.int .u64 (hiW (n.natAbs * Q) : Int)) ∧ W2.cell? ⟨b, 1, none⟩ = some (.int .u64 (loW (n.natAbs * Q) : Int)) ∧ W2.cell? ⟨b2, 0, none⟩ = some (.int .u64 (hiW (p.natAbs * D) : Int)) ∧ W2.cell? ⟨b2, 1, none⟩ = some (.int .u64 (loW (p.natAbs * D) : Int)) ∧ Below w.heap.size w W2) ?g1 ?g2
    case g1 =>
      intro K2
      go_region_held3 (fun w' => w'.cell? ⟨w.heap.size, 0, none⟩ = some (.int .i64 n) ∧ w'.cell? ⟨w.heap.size, 1, none⟩ = some (.int .i64 (D : Int)) ∧ w'.cell? ⟨w.heap.size + 1, 0, none⟩ = some (.int .i64 p) ∧ w'.cell? ⟨w.heap.size + 1, 1, none⟩ = some (.int .i64 (Q : Int)) ∧ w'.cell? ⟨b, 0, none⟩ = some (.int .u64 (hiW (n.natAbs * Q) : Int)) ∧ w'.cell? ⟨b, 1, none⟩ = some (.int .u64 (loW (n.natAbs * Q) : Int))) (first | (go_keep; done) | ((try dsimp only); (repeat' apply And.intro) <;> assumption) | (go_split_ands; (refine ⟨?_, ?_, ?_, ?_, ?_, ?_⟩ <;> (apply cell_kept <;> assumption))) | (go_split_ands; (refine ⟨?_, ?_, ?_, ?_, ?_, ?_⟩ <;> (exact cell_alloc_other (by assumption) (by have h1 := sza.out; (try simp at h1); dsimp only; omega)))) | (go_split_ands; (refine ⟨?_, ?_, ?_, ?_, ?_, ?_⟩ <;> (exact cell_set_kept (by have h1 := sza.out; (try simp at h1); dsimp only; omega) (cell_set_kept (by have h1 := sza.out; (try simp at h1); dsimp only; omega) (by assumption))))) | ((try dsimp only); (repeat' apply And.intro) <;> (first | assumption | (go_keep; done) | (apply cell_kept <;> assumption)))) (first | (go_at_call 142; refine (l00Max_size _ _ _ rfl).mono ?_; rintro e w' ⟨rfl, rfl⟩) | (go_at_call 180; refine (specTimes _ _ _ (by omega) (by omega)).mono ?_; rintro e wa ⟨rfl, hba⟩; have sza := Lib.hid hba.size; (try (refine fresh2 (W.heap.size) (.int .u64 0) (.int .u64 0) hba ?_ ?_ ?_ ?_ ?_ ?_; (focus (first | assumption | (simp [go_sem]; done))); (focus (first | assumption | (simp [go_sem]; done))); (focus (first | assumption | (simp [go_sem]; done))); (focus (first | assumption | (simp [go_sem]; done))); (focus (first | (simp; done) | (simp; omega) | omega)); intro ae1 ae2 ae3 ae4 ae5))))
      · refine gen_end _ (fun W' => W'.cell? ⟨w.heap.size, 0, none⟩ = some (.int .i64 n) ∧ W'.cell? ⟨b, 0, none⟩ = some (.int .u64 (hiW (n.natAbs * Q) : Int)) ∧ W'.cell? ⟨b, 1, none⟩ = some (.int .u64 (loW (n.natAbs * Q) : Int)) ∧ W'.cell? ⟨wa.heap.size, 0, none⟩ = some (.int .u64 (hiW (p.natAbs * D) : Int)) ∧ W'.cell? ⟨wa.heap.size, 1, none⟩ = some (.int .u64 (loW (p.natAbs * D) : Int)) ∧ Below w.heap.size w W') ?_ ?_
        · have h1 := sza.out; (try simp at h1)
          refine ⟨?_, ?_, ?_, ?_, ?_, ?_⟩
          all_goals (first | assumption | (simp [go_sem, *]; done) | (simp; omega) | ((repeat' (first | exact HB.out | (refine below_dr1 ?_) | (refine Below.setCell ?_ ?_ _) | (refine Below.alloc ?_ ?_ _) | (refine Below.trans ?_ (hba.mono ?_)))) <;> (first | (simp; done) | (simp; omega) | omega); done) | skip)
        · intro Wn hW
          generalize wa.heap.size = g at hW ⊢
          exact K2.out g Wn hW
      · refine gen_end _ (fun W' => W'.cell? ⟨w.heap.size, 0, none⟩ = some (.int .i64 n) ∧ W'.cell? ⟨b, 0, none⟩ = some (.int .u64 (hiW (n.natAbs * Q) : Int)) ∧ W'.cell? ⟨b, 1, none⟩ = some (.int .u64 (loW (n.natAbs * Q) : Int)) ∧ W'.cell? ⟨W.heap.size, 0, none⟩ = some (.int .u64 (hiW (p.natAbs * D) : Int)) ∧ W'.cell? ⟨W.heap.size, 1, none⟩ = some (.int .u64 (loW (p.natAbs * D) : Int)) ∧ Below w.heap.size w W') ?_ ?_
        · have h1 := sza.out; (try simp at h1)
          refine ⟨?_, ?_, ?_, ?_, ?_, ?_⟩
          all_goals (first | assumption | (simp [go_sem, *]; done) | (simp; omega) | ((repeat' (first | exact HB.out | (refine below_dr1 ?_) | (refine Below.setCell ?_ ?_ _) | (refine Below.alloc ?_ ?_ _) | (refine Below.trans ?_ (hba.mono ?_)))) <;> (first | (simp; done) | (simp; omega) | omega); done) | skip)
        · intro Wn hW
          generalize W.heap.size = g at hW ⊢
          exact K2.out g Wn hW
      · refine gen_end _ (fun W' => W'.cell? ⟨w.heap.size, 0, none⟩ = some (.int .i64 n) ∧ W'.cell? ⟨b, 0, none⟩ = some (.int .u64 (hiW (n.natAbs * Q) : Int)) ∧ W'.cell? ⟨b, 1, none⟩ = some (.int .u64 (loW (n.natAbs * Q) : Int)) ∧ W'.cell? ⟨W.heap.size, 0, none⟩ = some (.int .u64 (hiW (p.natAbs * D) : Int)) ∧ W'.cell? ⟨W.heap.size, 1, none⟩ = some (.int .u64 (loW (p.natAbs * D) : Int)) ∧ Below w.heap.size w W') ?_ ?_
        · have h1 := sza.out; (try simp at h1)
          refine ⟨?_, ?_, ?_, ?_, ?_, ?_⟩
          all_goals (first | assumption | (simp [go_sem, *]; done) | (simp; omega) | ((repeat' (first | exact HB.out | (refine below_dr1 ?_) | (refine Below.setCell ?_ ?_ _) | (refine Below.alloc ?_ ?_ _) | (refine Below.trans ?_ (hba.mono ?_)))) <;> (first | (simp; done) | (simp; omega) | omega); done) | skip)
        · intro Wn hW
          generalize W.heap.size = g at hW ⊢
          exact K2.out g Wn hW
    case g2 =>
      clear c0 c1 c2 c3 c4 c5 hb1 hb2 HB
      intro b2 W2 hW
      obtain ⟨c0, c4, c5, c6, c7, hB⟩ := hW
      have HB := Lib.hid hB
      clear hB
      go_wp2_with fail
      refine (less_any _ _ _ _ H1.out).mono ?_; rintro e w3 ⟨rfl, hb3⟩
      have e0 := cell_kept hb3 c0
      have e4 := cell_kept hb3 c4
      have e5 := cell_kept hb3 c5
      have e6 := cell_kept hb3 c6
      have e7 := cell_kept hb3 c7
      have HB3 := Lib.hid (HB.out.trans (hb3.mono HB.out.size))
      clear hb3 c0 c4 c5 c6 c7
      cases r1 <;> cases r2
      all_goals
        go_wp2_with fail
        refine (less_any _ _ _ _ H2.out).mono ?_; rintro e w4 ⟨rfl, hb4⟩
        have i0 := cell_kept hb4 e0
        have HB4 := Lib.hid (HB3.out.trans (hb4.mono HB3.out.size))
        clear hb4 e0 e4 e5 e6 e7
        go_wp2
        go_ret
        exact ⟨by simp, HB4.out⟩

set_option maxHeartbeats 4000000 in
set_option maxRecDepth 100000 in
theorem fcmp_pos (n p : Int) (D Q : Nat) (w : World) (hn : ¬ n < 0) (hp : ¬ p < 0) (d1 : D ≤ 1000000000000000000) (q1 : Q ≤ 1000000000000000000) (n0 : -1000000000000000000 ≤ n) (p0 : -1000000000000000000 ≤ p) (n1 : n ≤ 1000000000000000000) (p1 : p ≤ 1000000000000000000)
    (r1 r2 : Bool) (h1 : decide (n.natAbs * Q < p.natAbs * D) = r1) (h2 : decide (p.natAbs * D < n.natAbs * Q) = r2) :
    Calls Try.prog 135 #[.agg #[.int .i64 n, .int .i64 (D : Int)], .agg #[.int .i64 p, .int .i64 (Q : Int)]] w fun e w' => e = .returned (.int .i64 (if r2 then 1 else if r1 then -1 else 0)) ∧ Below w.heap.size w w' := by
  have H1 := Lib.hid h1
  have H2 := Lib.hid h2
  clear h1 h2
  have wn : IntKind.i64.wrap (-n) = -n := IntWalk.i64_in _ (by omega)
  have wp : IntKind.i64.wrap (-p) = -p := IntWalk.i64_in _ (by omega)
  go_enter Try.func135, Try.ntmps135
  go_wp2_with fail
  refine meet2 ?X (fun b W => W.cell? ⟨w.heap.size, 0, none⟩ = some (.int .i64 n) ∧ W.cell? ⟨w.heap.size, 1, none⟩ = some (.int .i64 (D : Int)) ∧ W.cell? ⟨w.heap.size + 1, 0, none⟩ = some (.int .i64 p) ∧ W.cell? ⟨w.heap.size + 1, 1, none⟩ = some (.int .i64 (Q : Int)) ∧ W.cell? ⟨b, 0, none⟩ = some (.int .u64 (hiW (n.natAbs * Q) : Int)) ∧ W.cell? ⟨b, 1, none⟩ = some (.int .u64 (loW (n.natAbs * Q) : Int)) ∧ w.heap.size + 1 < b ∧ b < W.heap.size ∧ Below w.heap.size w W) ?h1 ?h2
  case h1 =>
    intro K1
    go_region_held3 (fun w' => w'.cell? ⟨w.heap.size, 0, none⟩ = some (.int .i64 n) ∧ w'.cell? ⟨w.heap.size, 1, none⟩ = some (.int .i64 (D : Int)) ∧ w'.cell? ⟨w.heap.size + 1, 0, none⟩ = some (.int .i64 p) ∧ w'.cell? ⟨w.heap.size + 1, 1, none⟩ = some (.int .i64 (Q : Int))) (first | (go_keep; done) | ((try dsimp only); (repeat' apply And.intro) <;> assumption) | (go_split_ands; (refine ⟨?_, ?_, ?_, ?_⟩ <;> (apply cell_kept <;> assumption))) | (go_split_ands; (refine ⟨?_, ?_, ?_, ?_⟩ <;> (exact cell_alloc_other (by assumption) (by have h1 := sza.out; (try simp at h1); dsimp only; omega)))) | (go_split_ands; (refine ⟨?_, ?_, ?_, ?_⟩ <;> (exact cell_set_kept (by have h1 := sza.out; (try simp at h1); dsimp only; omega) (cell_set_kept (by have h1 := sza.out; (try simp at h1); dsimp only; omega) (by assumption))))) | ((try dsimp only); (repeat' apply And.intro) <;> (first | assumption | (go_keep; done) | (apply cell_kept <;> assumption)))) (first | (go_at_call 142; refine (l00Max_size _ _ _ rfl).mono ?_; rintro e w' ⟨rfl, rfl⟩) | (go_at_call 180; refine (specTimes _ _ _ (by omega) (by omega)).mono ?_; rintro e wa ⟨rfl, hba⟩; have sza := Lib.hid hba.size; (try (refine fresh2 (w.heap.size + 1 + 1) (.int .u64 0) (.int .u64 0) hba ?_ ?_ ?_ ?_ ?_ ?_; (focus (first | assumption | (simp [go_sem]; done))); (focus (first | assumption | (simp [go_sem]; done))); (focus (first | assumption | (simp [go_sem]; done))); (focus (first | assumption | (simp [go_sem]; done))); (focus (first | (simp; done) | (simp; omega) | omega)); intro ae1 ae2 ae3 ae4 ae5))))
    · refine gen_end _ (fun W => W.cell? ⟨w.heap.size, 0, none⟩ = some (.int .i64 n) ∧ W.cell? ⟨w.heap.size, 1, none⟩ = some (.int .i64 (D : Int)) ∧ W.cell? ⟨w.heap.size + 1, 0, none⟩ = some (.int .i64 p) ∧ W.cell? ⟨w.heap.size + 1, 1, none⟩ = some (.int .i64 (Q : Int)) ∧ W.cell? ⟨wa.heap.size, 0, none⟩ = some (.int .u64 (hiW (n.natAbs * Q) : Int)) ∧ W.cell? ⟨wa.heap.size, 1, none⟩ = some (.int .u64 (loW (n.natAbs * Q) : Int)) ∧ w.heap.size + 1 < wa.heap.size ∧ wa.heap.size < W.heap.size ∧ Below w.heap.size w W) ?_ ?_
      · have h1 := sza.out; (try simp at h1)
        refine ⟨?_, ?_, ?_, ?_, ?_, ?_, ?_, ?_, ?_⟩
        all_goals (first | assumption | (simp [go_sem, *]; done) | (simp; omega) | ((repeat' (first | exact (Below.refl _ _) | (refine below_dr1 ?_) | (refine Below.setCell ?_ ?_ _) | (refine Below.alloc ?_ ?_ _) | (refine Below.trans ?_ (hba.mono ?_)))) <;> (first | (simp; done) | (simp; omega) | omega); done) | skip)
      · intro Wn hW
        generalize wa.heap.size = g at hW ⊢
        exact K1.out g Wn hW
    · refine gen_end _ (fun W => W.cell? ⟨w.heap.size, 0, none⟩ = some (.int .i64 n) ∧ W.cell? ⟨w.heap.size, 1, none⟩ = some (.int .i64 (D : Int)) ∧ W.cell? ⟨w.heap.size + 1, 0, none⟩ = some (.int .i64 p) ∧ W.cell? ⟨w.heap.size + 1, 1, none⟩ = some (.int .i64 (Q : Int)) ∧ W.cell? ⟨w.heap.size + 1 + 1, 0, none⟩ = some (.int .u64 (hiW (n.natAbs * Q) : Int)) ∧ W.cell? ⟨w.heap.size + 1 + 1, 1, none⟩ = some (.int .u64 (loW (n.natAbs * Q) : Int)) ∧ w.heap.size + 1 < w.heap.size + 1 + 1 ∧ w.heap.size + 1 + 1 < W.heap.size ∧ Below w.heap.size w W) ?_ ?_
      · have h1 := sza.out; (try simp at h1)
        refine ⟨?_, ?_, ?_, ?_, ?_, ?_, ?_, ?_, ?_⟩
        all_goals (first | assumption | (simp [go_sem, *]; done) | (simp; omega) | ((repeat' (first | exact (Below.refl _ _) | (refine below_dr1 ?_) | (refine Below.setCell ?_ ?_ _) | (refine Below.alloc ?_ ?_ _) | (refine Below.trans ?_ (hba.mono ?_)))) <;> (first | (simp; done) | (simp; omega) | omega); done) | skip)
      · intro Wn hW
        generalize w.heap.size + 1 + 1 = g at hW ⊢
        exact K1.out g Wn hW
    · refine gen_end _ (fun W => W.cell? ⟨w.heap.size, 0, none⟩ = some (.int .i64 n) ∧ W.cell? ⟨w.heap.size, 1, none⟩ = some (.int .i64 (D : Int)) ∧ W.cell? ⟨w.heap.size + 1, 0, none⟩ = some (.int .i64 p) ∧ W.cell? ⟨w.heap.size + 1, 1, none⟩ = some (.int .i64 (Q : Int)) ∧ W.cell? ⟨w.heap.size + 1 + 1, 0, none⟩ = some (.int .u64 (hiW (n.natAbs * Q) : Int)) ∧ W.cell? ⟨w.heap.size + 1 + 1, 1, none⟩ = some (.int .u64 (loW (n.natAbs * Q) : Int)) ∧ w.heap.size + 1 < w.heap.size + 1 + 1 ∧ w.heap.size + 1 + 1 < W.heap.size ∧ Below w.heap.size w W) ?_ ?_
      · have h1 := sza.out; (try simp at h1)
        refine ⟨?_, ?_, ?_, ?_, ?_, ?_, ?_, ?_, ?_⟩
        all_goals (first | assumption | (simp [go_sem, *]; done) | (simp; omega) | ((repeat' (first | exact (Below.refl _ _) | (refine below_dr1 ?_) | (refine Below.setCell ?_ ?_ _) | (refine Below.alloc ?_ ?_ _) | (refine Below.trans ?_ (hba.mono ?_)))) <;> (first | (simp; done) | (simp; omega) | omega); done) | skip)
      · intro Wn hW
        generalize w.heap.size + 1 + 1 = g at hW ⊢
        exact K1.out g Wn hW
  case h2 =>
    intro b W hW
    obtain ⟨c0, c1, c2, c3, c4, c5, hb1, hb2, hB⟩ := hW
    have HB := Lib.hid hB
    clear hB
    go_wp2_with fail
    refine meet2 ?X2 (fun b2 W2 => W2.cell? ⟨w.heap.size, 0, none⟩ = some (.int .i64 n) ∧ W2.cell? ⟨b, 0, none⟩ = some (.int .u64 (hiW (n.natAbs * Q) : Int)) ∧ W2.cell? ⟨b, 1, none⟩ = some (.int .u64 (loW (n.natAbs * Q) : Int)) ∧ W2.cell? ⟨b2, 0, none⟩ = some (.int .u64 (hiW (p.natAbs * D) : Int)) ∧ W2.cell? ⟨b2, 1, none⟩ = some (.int .u64 (loW (p.natAbs * D) : Int)) ∧ Below w.heap.size w W2) ?g1 ?g2
    case g1 =>
      intro K2
      go_region_held3 (fun w' => w'.cell? ⟨w.heap.size, 0, none⟩ = some (.int .i64 n) ∧ w'.cell? ⟨w.heap.size, 1, none⟩ = some (.int .i64 (D : Int)) ∧ w'.cell? ⟨w.heap.size + 1, 0, none⟩ = some (.int .i64 p) ∧ w'.cell? ⟨w.heap.size + 1, 1, none⟩ = some (.int .i64 (Q : Int)) ∧ w'.cell? ⟨b, 0, none⟩ = some (.int .u64 (hiW (n.natAbs * Q) : Int)) ∧ w'.cell? ⟨b, 1, none⟩ = some (.int .u64 (loW (n.natAbs * Q) : Int))) (first | (go_keep; done) | ((try dsimp only); (repeat' apply And.intro) <;> assumption) | (go_split_ands; (refine ⟨?_, ?_, ?_, ?_, ?_, ?_⟩ <;> (apply cell_kept <;> assumption))) | (go_split_ands; (refine ⟨?_, ?_, ?_, ?_, ?_, ?_⟩ <;> (exact cell_alloc_other (by assumption) (by have h1 := sza.out; (try simp at h1); dsimp only; omega)))) | (go_split_ands; (refine ⟨?_, ?_, ?_, ?_, ?_, ?_⟩ <;> (exact cell_set_kept (by have h1 := sza.out; (try simp at h1); dsimp only; omega) (cell_set_kept (by have h1 := sza.out; (try simp at h1); dsimp only; omega) (by assumption))))) | ((try dsimp only); (repeat' apply And.intro) <;> (first | assumption | (go_keep; done) | (apply cell_kept <;> assumption)))) (first | (go_at_call 142; refine (l00Max_size _ _ _ rfl).mono ?_; rintro e w' ⟨rfl, rfl⟩) | (go_at_call 180; refine (specTimes _ _ _ (by omega) (by omega)).mono ?_; rintro e wa ⟨rfl, hba⟩; have sza := Lib.hid hba.size; (try (refine fresh2 (W.heap.size) (.int .u64 0) (.int .u64 0) hba ?_ ?_ ?_ ?_ ?_ ?_; (focus (first | assumption | (simp [go_sem]; done))); (focus (first | assumption | (simp [go_sem]; done))); (focus (first | assumption | (simp [go_sem]; done))); (focus (first | assumption | (simp [go_sem]; done))); (focus (first | (simp; done) | (simp; omega) | omega)); intro ae1 ae2 ae3 ae4 ae5))))
      · refine gen_end _ (fun W' => W'.cell? ⟨w.heap.size, 0, none⟩ = some (.int .i64 n) ∧ W'.cell? ⟨b, 0, none⟩ = some (.int .u64 (hiW (n.natAbs * Q) : Int)) ∧ W'.cell? ⟨b, 1, none⟩ = some (.int .u64 (loW (n.natAbs * Q) : Int)) ∧ W'.cell? ⟨wa.heap.size, 0, none⟩ = some (.int .u64 (hiW (p.natAbs * D) : Int)) ∧ W'.cell? ⟨wa.heap.size, 1, none⟩ = some (.int .u64 (loW (p.natAbs * D) : Int)) ∧ Below w.heap.size w W') ?_ ?_
        · have h1 := sza.out; (try simp at h1)
          refine ⟨?_, ?_, ?_, ?_, ?_, ?_⟩
          all_goals (first | assumption | (simp [go_sem, *]; done) | (simp; omega) | ((repeat' (first | exact HB.out | (refine below_dr1 ?_) | (refine Below.setCell ?_ ?_ _) | (refine Below.alloc ?_ ?_ _) | (refine Below.trans ?_ (hba.mono ?_)))) <;> (first | (simp; done) | (simp; omega) | omega); done) | skip)
        · intro Wn hW
          generalize wa.heap.size = g at hW ⊢
          exact K2.out g Wn hW
      · refine gen_end _ (fun W' => W'.cell? ⟨w.heap.size, 0, none⟩ = some (.int .i64 n) ∧ W'.cell? ⟨b, 0, none⟩ = some (.int .u64 (hiW (n.natAbs * Q) : Int)) ∧ W'.cell? ⟨b, 1, none⟩ = some (.int .u64 (loW (n.natAbs * Q) : Int)) ∧ W'.cell? ⟨W.heap.size, 0, none⟩ = some (.int .u64 (hiW (p.natAbs * D) : Int)) ∧ W'.cell? ⟨W.heap.size, 1, none⟩ = some (.int .u64 (loW (p.natAbs * D) : Int)) ∧ Below w.heap.size w W') ?_ ?_
        · have h1 := sza.out; (try simp at h1)
          refine ⟨?_, ?_, ?_, ?_, ?_, ?_⟩
          all_goals (first | assumption | (simp [go_sem, *]; done) | (simp; omega) | ((repeat' (first | exact HB.out | (refine below_dr1 ?_) | (refine Below.setCell ?_ ?_ _) | (refine Below.alloc ?_ ?_ _) | (refine Below.trans ?_ (hba.mono ?_)))) <;> (first | (simp; done) | (simp; omega) | omega); done) | skip)
        · intro Wn hW
          generalize W.heap.size = g at hW ⊢
          exact K2.out g Wn hW
      · refine gen_end _ (fun W' => W'.cell? ⟨w.heap.size, 0, none⟩ = some (.int .i64 n) ∧ W'.cell? ⟨b, 0, none⟩ = some (.int .u64 (hiW (n.natAbs * Q) : Int)) ∧ W'.cell? ⟨b, 1, none⟩ = some (.int .u64 (loW (n.natAbs * Q) : Int)) ∧ W'.cell? ⟨W.heap.size, 0, none⟩ = some (.int .u64 (hiW (p.natAbs * D) : Int)) ∧ W'.cell? ⟨W.heap.size, 1, none⟩ = some (.int .u64 (loW (p.natAbs * D) : Int)) ∧ Below w.heap.size w W') ?_ ?_
        · have h1 := sza.out; (try simp at h1)
          refine ⟨?_, ?_, ?_, ?_, ?_, ?_⟩
          all_goals (first | assumption | (simp [go_sem, *]; done) | (simp; omega) | ((repeat' (first | exact HB.out | (refine below_dr1 ?_) | (refine Below.setCell ?_ ?_ _) | (refine Below.alloc ?_ ?_ _) | (refine Below.trans ?_ (hba.mono ?_)))) <;> (first | (simp; done) | (simp; omega) | omega); done) | skip)
        · intro Wn hW
          generalize W.heap.size = g at hW ⊢
          exact K2.out g Wn hW
    case g2 =>
      clear c0 c1 c2 c3 c4 c5 hb1 hb2 HB
      intro b2 W2 hW
      obtain ⟨c0, c4, c5, c6, c7, hB⟩ := hW
      have HB := Lib.hid hB
      clear hB
      go_wp2_with fail
      refine (less_any _ _ _ _ H1.out).mono ?_; rintro e w3 ⟨rfl, hb3⟩
      have e0 := cell_kept hb3 c0
      have e4 := cell_kept hb3 c4
      have e5 := cell_kept hb3 c5
      have e6 := cell_kept hb3 c6
      have e7 := cell_kept hb3 c7
      have HB3 := Lib.hid (HB.out.trans (hb3.mono HB.out.size))
      clear hb3 c0 c4 c5 c6 c7
      cases r1 <;> cases r2
      all_goals
        go_wp2_with fail
        refine (less_any _ _ _ _ H2.out).mono ?_; rintro e w4 ⟨rfl, hb4⟩
        have i0 := cell_kept hb4 e0
        have HB4 := Lib.hid (HB3.out.trans (hb4.mono HB3.out.size))
        clear hb4 e0 e4 e5 e6 e7
        go_wp2
        go_ret
        exact ⟨by simp, HB4.out⟩


theorem cmpI_mixed (n d p q : Int) (hd : 1 ≤ d) (hq : 1 ≤ q) (h : (decide (n < 0) != decide (p < 0)) = true) : (if n < 0 then (-1 : Int) else 1) = cmpI n d p q := by
  unfold cmpI addN addV ngB sgv
  by_cases hn : n < 0
  · have hp : ¬ p < 0 := by intro hp; simp [hn, hp] at h
    have hA : 0 < n.natAbs * q.natAbs := Nat.mul_pos (by omega) (by omega)
    by_cases hp0 : p = 0
    · subst hp0
      simp [hn]; omega
    · have h1 : -p < 0 := by omega
      simp only [hn, h1, decide_true, if_true]
      rw [if_neg (by omega)]
  · have hp : p < 0 := by
      by_cases hp : p < 0
      · exact hp
      · simp [hn, hp] at h
    have hB : 0 < p.natAbs * d.natAbs := Nat.mul_pos (by omega) (by omega)
    have h1 : ¬ -p < 0 := by omega
    simp only [hn, h1, decide_false, if_true, if_false]
    rw [if_neg (by omega)]
    simp
theorem cmpI_neg (n d p q : Int) (hn : n < 0) (hp : p < 0) : -(if p.natAbs * d.natAbs < n.natAbs * q.natAbs then (1 : Int) else if n.natAbs * q.natAbs < p.natAbs * d.natAbs then -1 else 0) = cmpI n d p q := by
  unfold cmpI addN addV ngB sgv
  have h1 : ¬ -p < 0 := by omega
  generalize n.natAbs * q.natAbs = a
  generalize p.natAbs * d.natAbs = b
  simp only [hn, h1, decide_true, decide_false]
  by_cases k1 : b < a
  · rw [if_pos k1]; simp [show ¬ a < b from by omega, show ¬ a - b = 0 from by omega]; try omega
  · by_cases k2 : a < b
    · rw [if_neg k1, if_pos k2]; simp [k2, show ¬ b - a = 0 from by omega]; try omega
    · rw [if_neg k1, if_neg k2]; simp [k2]; try omega
theorem cmpI_pos (n d p q : Int) (hn : ¬ n < 0) (hp : ¬ p < 0) : (if p.natAbs * d.natAbs < n.natAbs * q.natAbs then (1 : Int) else if n.natAbs * q.natAbs < p.natAbs * d.natAbs then -1 else 0) = cmpI n d p q := by
  unfold cmpI addN addV ngB sgv
  by_cases hp0 : p = 0
  · subst hp0
    simp [hn]
    generalize n.natAbs * q.natAbs = a
    by_cases k : a = 0
    · simp [k]
    · simp [k]; try omega
  · have h1 : -p < 0 := by omega
    generalize n.natAbs * q.natAbs = a
    generalize p.natAbs * d.natAbs = b
    simp only [hn, h1, decide_true, decide_false]
    by_cases k1 : b < a
    · rw [if_pos k1]; simp [show ¬ a < b from by omega, show ¬ a - b = 0 from by omega]; try omega
    · by_cases k2 : a < b
      · rw [if_neg k1, if_pos k2]; simp [k2, show ¬ b - a = 0 from by omega]; try omega
      · rw [if_neg k1, if_neg k2]; simp [k2]; try omega

theorem l01FIs_bc (n d : Int) (b : Bool) (w : World) (h : fracB n d = b) :
    Calls Try.prog 134 #[.agg #[.int .i64 n, .int .i64 d]] w fun e w' => e = .returned (.bool b) ∧ Below w.heap.size w w' := by
  rw [← h]; exact l01FIs_any n d w
theorem implValid_bc (n d : Int) (b : Bool) (w : World) (h : fracB n d = b) :
    Calls Try.prog 133 #[.agg #[.int .i64 n, .int .i64 d]] w fun e w' => e = .returned (.bool b) ∧ Below w.heap.size w w' := by
  rw [← h]; exact implValid n d w
theorem fcmp_any (n d p q : Int) (w : World) (hf : fracB n d = true) (hg : fracB p q = true) :
    Calls Try.prog 135 #[.agg #[.int .i64 n, .int .i64 d], .agg #[.int .i64 p, .int .i64 q]] w fun e w' => e = .returned (.int .i64 (cmpI n d p q)) ∧ Below w.heap.size w w' := by
  obtain ⟨f1, f2, f3, f4, -⟩ : 1 ≤ d ∧ d ≤ 1000000000000000000 ∧ -1000000000000000000 ≤ n ∧ n ≤ 1000000000000000000 ∧ Int.gcd n d = 1 := by unfold fracB at hf; exact of_decide_eq_true hf
  obtain ⟨g1, g2, g3, g4, -⟩ : 1 ≤ q ∧ q ≤ 1000000000000000000 ∧ -1000000000000000000 ≤ p ∧ p ≤ 1000000000000000000 ∧ Int.gcd p q = 1 := by unfold fracB at hg; exact of_decide_eq_true hg
  cases hx : (decide (n < 0) != decide (p < 0)) with
  | true => rw [← cmpI_mixed n d p q f1 g1 hx]; exact fcmp_mixed n d p q w hx
  | false =>
    obtain ⟨D, rfl⟩ := Int.eq_ofNat_of_zero_le (show 0 ≤ d by omega)
    obtain ⟨Q, rfl⟩ := Int.eq_ofNat_of_zero_le (show 0 ≤ q by omega)
    by_cases hn : n < 0
    · have hp : p < 0 := by
        by_cases hp : p < 0
        · exact hp
        · simp [hn, hp] at hx
      rw [← cmpI_neg n D p Q hn hp]
      refine (fcmp_neg n p D Q w hn hp (by omega) (by omega) f3 g3 f4 g4 _ _ rfl rfl).mono ?_
      rintro e w' ⟨rfl, hb⟩
      exact ⟨by simp [decide_eq_true_eq], hb⟩
    · have hp : ¬ p < 0 := by intro hp; simp [hn, hp] at hx
      rw [← cmpI_pos n D p Q hn hp]
      refine (fcmp_pos n p D Q w hn hp (by omega) (by omega) f3 g3 f4 g4 _ _ rfl rfl).mono ?_
      rintro e w' ⟨rfl, hb⟩
      exact ⟨by simp [decide_eq_true_eq], hb⟩

theorem specCmp_t (n d p q : Int) (w : World) (hf : fracB n d = true) (hg : fracB p q = true) :
    Calls Try.prog 75 #[.agg #[.int .i64 n, .int .i64 d], .agg #[.int .i64 p, .int .i64 q]] w fun e w' => e = .returned (.tuple #[.int .i64 (cmpI n d p q), .bool true]) ∧ Below w.heap.size w w' := by
  have HC := Lib.hid (fun w => fcmp_any n d p q w hf hg)
  have HF := Lib.hid hf
  have HG := Lib.hid hg
  clear hf hg
  go_enter Try.func75, Try.ntmps75
  go_wp2_with fail
  refine (l01FIs_bc n d true _ HF.out).mono ?_; rintro e w1 ⟨rfl, hb1⟩
  have j0 := cell_kept hb1 (a := ⟨w.heap.size, 0, none⟩) (v := .int .i64 n) (by simp [go_sem])
  have j1 := cell_kept hb1 (a := ⟨w.heap.size, 1, none⟩) (v := .int .i64 d) (by simp [go_sem])
  have j2 := cell_kept hb1 (a := ⟨w.heap.size + 1, 0, none⟩) (v := .int .i64 p) (by simp [go_sem])
  have j3 := cell_kept hb1 (a := ⟨w.heap.size + 1, 1, none⟩) (v := .int .i64 q) (by simp [go_sem])
  have HB1 := Lib.hid ((((Below.refl w.heap.size w).alloc (Nat.le_refl _) _).alloc (by simp) _).trans (hb1.mono (by simp; omega)))
  clear hb1
  go_wp2_with fail
  refine (l01FIs_bc p q true _ HG.out).mono ?_; rintro e w2 ⟨rfl, hb2⟩
  have k0 := cell_kept hb2 j0
  have k1 := cell_kept hb2 j1
  have k2 := cell_kept hb2 j2
  have k3 := cell_kept hb2 j3
  have HB2 := Lib.hid (HB1.out.trans (hb2.mono HB1.out.size))
  clear hb2 j0 j1 j2 j3
  go_wp2_with fail
  refine (HC.out _).mono ?_; rintro e w3 ⟨rfl, hb3⟩
  have HB3 := Lib.hid (HB2.out.trans (hb3.mono HB2.out.size))
  clear hb3
  go_wp2
  go_ret2
  exact ⟨rfl, HB3.out⟩
theorem specCmp_f (n d p q : Int) (w : World) (h : fracB n d = false ∨ fracB p q = false) :
    Calls Try.prog 75 #[.agg #[.int .i64 n, .int .i64 d], .agg #[.int .i64 p, .int .i64 q]] w fun e w' => e = .returned (.tuple #[.int .i64 0, .bool false]) ∧ Below w.heap.size w w' := by
  cases hf : fracB n d with
  | false =>
    have HF := Lib.hid hf
    clear hf h
    go_enter Try.func75, Try.ntmps75
    go_wp2_with fail
    refine (l01FIs_bc n d false _ HF.out).mono ?_; rintro e w1 ⟨rfl, hb1⟩
    go_wp2
    go_ret2
    exact ⟨rfl, (((Below.refl w.heap.size w).alloc (Nat.le_refl _) _).alloc (by simp) _).trans (hb1.mono (by simp; omega))⟩
  | true =>
    have HG := Lib.hid (show fracB p q = false from h.resolve_left (by rw [hf]; simp))
    have HF := Lib.hid hf
    clear hf h
    go_enter Try.func75, Try.ntmps75
    go_wp2_with fail
    refine (l01FIs_bc n d true _ HF.out).mono ?_; rintro e w1 ⟨rfl, hb1⟩
    have j2 := cell_kept hb1 (a := ⟨w.heap.size + 1, 0, none⟩) (v := .int .i64 p) (by simp [go_sem])
    have j3 := cell_kept hb1 (a := ⟨w.heap.size + 1, 1, none⟩) (v := .int .i64 q) (by simp [go_sem])
    have HB1 := Lib.hid ((((Below.refl w.heap.size w).alloc (Nat.le_refl _) _).alloc (by simp) _).trans (hb1.mono (by simp; omega)))
    clear hb1
    go_wp2_with fail
    refine (l01FIs_bc p q false _ HG.out).mono ?_; rintro e w2 ⟨rfl, hb2⟩
    have HB2 := Lib.hid (HB1.out.trans (hb2.mono HB1.out.size))
    clear hb2 j2 j3
    go_wp2
    go_ret2
    exact ⟨rfl, HB2.out⟩
end Go.Proofs.Ytkipgeecibimoaa
