/- The sum of a list of fractions, on both sides. -/
import Derived.Test.YtomdoamfdidghaaAddLaw
import Derived.Test.YtomdoamfdidghaaRecsF
namespace Go.Proofs.Ytomdoamfdidghaa
open Go.RowKit
set_option linter.unusedVariables false
def frK (F : List Int) (k : Nat) : Bool := fracB (F.getD (k * 2) 0) (F.getD (k * 2 + 1) 0)
/-- the sum of the first ones, as far as the sums are fractions -/
def sumL (F : List Int) : Nat → Option (Int × Int)
  | 0 => some (0, 1)
  | k + 1 => match sumL F k with
    | none => none
    | some (a, b) => if addC a b (F.getD (k * 2) 0) (F.getD (k * 2 + 1) 0) then some (addX a b (F.getD (k * 2) 0) (F.getD (k * 2 + 1) 0), addY a b (F.getD (k * 2) 0) (F.getD (k * 2 + 1) 0)) else none
theorem sumL_none (F : List Int) : ∀ (j s : Nat), j ≤ s → sumL F j = none → sumL F s = none
  | j, 0, hj, h => by rwa [show j = 0 by omega] at h
  | j, s + 1, hj, h => by
    by_cases e : j = s + 1
    · rwa [e] at h
    · rw [sumL, sumL_none F j s (by omega) h]
theorem sumL_step (F : List Int) (k : Nat) (a b : Int) (h : sumL F k = some (a, b)) : sumL F (k + 1) = if addC a b (F.getD (k * 2) 0) (F.getD (k * 2 + 1) 0) then some (addX a b (F.getD (k * 2) 0) (F.getD (k * 2 + 1) 0), addY a b (F.getD (k * 2) 0) (F.getD (k * 2 + 1) 0)) else none := by
  rw [sumL, h]
def allV (F : List Int) (n : Nat) : Bool := (List.range n).all (frK F)
theorem allV_at {F : List Int} {n k : Nat} (h : allV F n = true) (hk : k < n) : frK F k = true := List.all_eq_true.1 h k (List.mem_range.2 hk)
theorem allV_bad {F : List Int} {n k : Nat} (hk : k < n) (h : frK F k = false) : allV F n = false := by
  cases e : allV F n with
  | false => rfl
  | true => have := allV_at e hk; rw [h] at this; cases this
theorem allV_step {F : List Int} {k : Nat} (h0 : allV F k = true) (h : frK F k = true) : allV F (k + 1) = true := by
  unfold allV at *
  rw [List.range_succ, List.all_append, h0]; simp [h]
def SumR (F : List Int) (n : Nat) (R Q : Int) (c : Bool) : Prop := (allV F n = true ∧ sumL F n = some (R, Q) ∧ c = true) ∨ ((allV F n = false ∨ sumL F n = none) ∧ R = 0 ∧ Q = 0 ∧ c = false)
theorem sumR_ex (F : List Int) (n : Nat) : ∃ R Q c, SumR F n R Q c := by
  cases h : allV F n with
  | false => exact ⟨0, 0, false, .inr ⟨.inl h, rfl, rfl, rfl⟩⟩
  | true =>
    cases h2 : sumL F n with
    | none => exact ⟨0, 0, false, .inr ⟨.inr h2, rfl, rfl, rfl⟩⟩
    | some x => exact ⟨x.1, x.2, true, .inl ⟨h, h2, rfl⟩⟩
theorem frac_zero : fracB 0 1 = true := by decide

set_option maxRecDepth 100000 in
theorem specAll_any (B : Nat) (a : Option Addr) (n cap : Nat) (F : List Int) (w : World) (hr : Recs w B (.slice a n cap) n F) (hn : n ≤ 64) :
    Calls Try.prog 41 #[.slice a n cap] w fun e w' => e = .returned (.bool (allV F n)) ∧ Below w.heap.size w w' := by
  have HR := Lib.hid hr
  clear hr
  go_enter Try.func41, Try.ntmps41
  go_wp2
  go_loopw [3] (fun i wr => ∃ k : Nat, k ≤ n ∧ i = .int .i64 (k : Int) ∧ allV F k = true ∧ Below w.heap.size w wr) (fun i _ => n - (intOf i).toNat)
  case atStart => exact ⟨0, Nat.zero_le _, rfl, rfl, Below.refl _ _⟩
  case round =>
    obtain ⟨k, hk, rfl, h0, hB⟩ := hrel
    have H0 := Lib.hid h0
    have HB := Lib.hid hB
    by_cases hlt : k < n
    · obtain ⟨g, x, y, rfl, -, hgl, ⟨e0, e1⟩, x0, x1⟩ := (HR.out.keep hB (Nat.le_refl _)).at k hlt
      have HK := Lib.hid (show frK F k = fracB x y by unfold frK; rw [e0, e1])
      clear h0 hB e0 e1
      cases hv : fracB x y with
      | true =>
        have HS := Lib.hid (allV_step H0.out (by rw [HK.out]; exact hv))
        have HV := Lib.hid hv
        clear hv
        go_wp2_with fail
        refine (l01FIs_any x y _).mono ?_; rw [HV.out]; rintro e w2 ⟨rfl, hb2⟩
        have HB2 := Lib.hid (HB.out.trans (hb2.mono HB.out.size))
        clear hb2
        go_wp2
        go_roundw
        case rel => exact ⟨k + 1, by omega, by go_num, HS.out, HB2.out⟩
        case measure => simp [intOf]; omega
      | false =>
        have HS := Lib.hid (allV_bad hlt (by rw [HK.out]; exact hv))
        have HV := Lib.hid hv
        clear hv
        go_wp2_with fail
        refine (l01FIs_any x y _).mono ?_; rw [HV.out]; rintro e w2 ⟨rfl, hb2⟩
        have HB2 := Lib.hid (HB.out.trans (hb2.mono HB.out.size))
        clear hb2
        go_wp2
        go_ret
        exact ⟨by rw [HS.out]; rfl, HB2.out⟩
    · have HE := Lib.hid (show allV F n = true by rw [show n = k by omega]; exact H0.out)
      clear h0 hB
      go_wp2
      go_ret
      exact ⟨by rw [HE.out]; rfl, HB.out⟩

set_option maxHeartbeats 4000000 in
set_option maxRecDepth 100000 in
theorem specFSum_any (B : Nat) (a : Option Addr) (n cap : Nat) (F : List Int) (R Q : Int) (c : Bool) (w : World) (hr : Recs w B (.slice a n cap) n F) (hn : n ≤ 64) (hav : allV F n = true) (hres : SumR F n R Q c) :
    Calls Try.prog 42 #[.slice a n cap] w fun e w' => e = .returned (.tuple #[.agg #[.int .i64 R, .int .i64 Q], .bool c]) ∧ Below w.heap.size w w' := by
  have HR := Lib.hid hr
  have HRES := Lib.hid hres
  have PR := Lib.hid (At2.new w (.int .i64 0) (.int .i64 0) 24)
  have HAV := Lib.hid hav
  clear hr hres hav
  go_enter Try.func42, Try.ntmps42
  go_wp2
  go_loopw [5] (fun i wr => ∃ (k : Nat) (x y : Int), k ≤ n ∧ i = .int .i64 (k : Int) ∧ allV F k = true ∧ sumL F k = some (x, y) ∧ fracB x y = true ∧ At2 wr w.heap.size (.int .i64 0) (.int .i64 0) ∧ At2 wr (w.heap.size + 1) (.int .i64 x) (.int .i64 y) ∧ Below w.heap.size w wr) (fun i _ => n - (intOf i).toNat)
  case atStart => exact ⟨0, 0, 1, Nat.zero_le _, rfl, rfl, rfl, frac_zero, PR.out.alloc _, by have := At2.new (w.alloc (.cells #[.int .i64 0, .int .i64 0] 24)) (.int .i64 0) (.int .i64 1) 24; simpa using this, ((Below.refl _ _).alloc (Nat.le_refl _) _).alloc (by simp) _⟩
  case round =>
    obtain ⟨k, x, y, hk, rfl, h0, hsum, hval, p1, p2, hB⟩ := hrel
    have H0 := Lib.hid h0
    have HSUM := Lib.hid hsum
    have HVAL := Lib.hid hval
    have Q1 := Lib.hid p1
    have Q2 := Lib.hid p2
    have HB := Lib.hid hB
    have hlt2 := p2.lt
    have hne : w.heap.size + 1 ≠ w.heap.size := by omega
    have HNE := Lib.hid hne
    clear h0 hsum hval p1 hne
    by_cases hkn : k < n
    · obtain ⟨g, u, v, rfl, -, hgl, ⟨e0, e1⟩, x0, x1⟩ := (HR.out.keep hB (Nat.le_refl _)).at k hkn
      have HK := Lib.hid (show frK F k = fracB u v by unfold frK; rw [e0, e1])
      have hstep := sumL_step F k x y HSUM.out
      rw [e0, e1] at hstep
      have HSTEP := Lib.hid hstep
      obtain ⟨d0, d1, d2, d3⟩ := p2
      clear hB e0 e1 hstep
      cases hv : fracB u v with
      | true =>
        have hadd := add_val x y u v HVAL.out hv
        cases hc : addC x y u v with
        | true =>
        obtain ⟨N0, hN0⟩ : ∃ N0, addX x y u v = N0 := ⟨_, rfl⟩
        obtain ⟨D0, hD0⟩ : ∃ D0, addY x y u v = D0 := ⟨_, rfl⟩
        rw [hc, hN0, hD0] at hadd
        have HM := Lib.hid hadd.2.1
        have HV2 := Lib.hid (hadd.1 rfl)
        have HST := Lib.hid (show sumL F (k + 1) = some (N0, D0) by rw [HSTEP.out, hc, if_pos rfl, hN0, hD0])
        have HAL := Lib.hid (allV_step H0.out (by rw [HK.out]; exact hv))
        clear hadd hN0 hD0 hc hv
        go_wp2_with fail
        refine meet2 ?Xa (fun (b : Nat) W => At2 W b (.int .i64 N0) (.int .i64 D0) ∧ wr.heap.size ≤ b ∧ Below wr.heap.size wr W) ?ha ?ka
        case ha =>
          intro K1
          go_region_held3 (fun w' => w'.cell? ⟨w.heap.size + 1, 0, none⟩ = some (.int .i64 x) ∧ w'.cell? ⟨w.heap.size + 1, 1, none⟩ = some (.int .i64 y) ∧ w'.cell? ⟨g, k * 2, none⟩ = some (.int .i64 u) ∧ w'.cell? ⟨g, k * 2 + 1, none⟩ = some (.int .i64 v)) (first | (go_split_ands; (refine ⟨?_, ?_, ?_, ?_⟩ <;> (with_reducible assumption))) | (go_split_ands; (refine ⟨?_, ?_, ?_, ?_⟩ <;> ((with_reducible apply cell_kept) <;> (with_reducible assumption)))) | (go_split_ands; (refine ⟨?_, ?_, ?_, ?_⟩ <;> ((with_reducible refine cell_alloc_kept ?_); (with_reducible assumption)))) | (go_split_ands; (refine ⟨?_, ?_, ?_, ?_⟩ <;> ((with_reducible refine cell_dr ?_); (with_reducible assumption)))) | (go_split_ands; (refine ⟨?_, ?_, ?_, ?_⟩ <;> ((with_reducible refine cell_alloc_dr ?_); (with_reducible assumption)))) | (go_split_ands; (refine ⟨?_, ?_, ?_, ?_⟩ <;> ((with_reducible refine cell_set_kept ?_ (cell_set_kept ?_ ?_)) <;> (first | (with_reducible assumption) | ((try have hq0 := sza.out); (try simp at hq0); (try dsimp only); omega))))) | (go_split_ands; (refine ⟨?_, ?_, ?_, ?_⟩ <;> ((with_reducible apply cell_alloc_other) <;> (first | (with_reducible assumption) | ((try have hq0 := sza.out); (try simp at hq0); (try dsimp only); omega)))))) (first | (go_at_call 34; (with_reducible refine (HM.out _).mono ?_); rintro e wa ⟨rfl, hba⟩; have sza := Lib.hid hba.size; (try (refine fresh2 (wr.heap.size) (.int .i64 0) (.int .i64 0) hba ?_ ?_ ?_ ?_ ?_ ?_; (focus (first | (with_reducible assumption) | (simp [go_sem]; done))); (focus (first | (with_reducible assumption) | (simp [go_sem]; done))); (focus (first | (with_reducible assumption) | (simp [go_sem]; done))); (focus (first | (with_reducible assumption) | (simp [go_sem]; done))); (focus (first | (simp; done) | (simp; omega) | omega)); intro ae1 ae2 ae3 ae4 ae5))))
          all_goals (first
            | (refine gen_end _ (fun W => At2 W wa.heap.size (.int .i64 N0) (.int .i64 D0) ∧ wr.heap.size ≤ wa.heap.size ∧ Below wr.heap.size wr W) ?_ ?_; (focus (have h1 := sza.out; (try simp at h1); refine ⟨⟨?_, ?_, ?_, ?_⟩, ?_, ?_⟩; (focus (simp [go_sem, *]; done)); (focus (simp [go_sem, *]; done)); (focus (simp [go_sem, *]; done)); (focus (simp [go_sem, *]; done)); (focus omega); (focus ((repeat' (first | exact (Below.refl _ _) | (refine below_dr1 ?_) | (refine Below.setCell ?_ ?_ _) | (refine Below.alloc ?_ ?_ _) | (refine Below.trans ?_ (hba.mono ?_)))) <;> (first | (simp; done) | (simp; omega) | omega))))); (focus (intro Wn hW; generalize wa.heap.size = g1 at hW ⊢; exact K1.out g1 Wn hW)))
            | (refine gen_end _ (fun W => At2 W wr.heap.size (.int .i64 N0) (.int .i64 D0) ∧ wr.heap.size ≤ wr.heap.size ∧ Below wr.heap.size wr W) ?_ ?_; (focus (have h1 := sza.out; (try simp at h1); refine ⟨⟨?_, ?_, ?_, ?_⟩, ?_, ?_⟩; (focus (simp [go_sem, *]; done)); (focus (simp [go_sem, *]; done)); (focus (simp [go_sem, *]; done)); (focus (simp [go_sem, *]; done)); (focus omega); (focus ((repeat' (first | exact (Below.refl _ _) | (refine below_dr1 ?_) | (refine Below.setCell ?_ ?_ _) | (refine Below.alloc ?_ ?_ _) | (refine Below.trans ?_ (hba.mono ?_)))) <;> (first | (simp; done) | (simp; omega) | omega))))); (focus (intro Wn hW; exact K1.out _ Wn hW))))
        case ka =>
        intro b2 w2 hW
        obtain ⟨r4, hge, hb2⟩ := hW
        have R1 := Lib.hid (Q1.out.below hb2 Q1.out.lt)
        have r3 := Q2.out.below hb2 Q2.out.lt
        have R3 := Lib.hid r3
        have HB2 := Lib.hid (HB.out.trans (hb2.mono HB.out.size))
        obtain ⟨z0, z1, z2, z3⟩ := r3
        obtain ⟨z4, z5, z6, z7⟩ := r4
        clear hb2 d0 d1 d2 d3 
        go_wp2
        go_roundw
        case rel => exact ⟨k + 1, N0, D0, by omega, by go_num, HAL.out, HST.out, HV2.out, (R1.out.set_ne HNE.out _ _).set_ne HNE.out _ _, (R3.out.set0 _).set1 _, (HB2.out.setCell (show w.heap.size ≤ w.heap.size + 1 by omega) _).setCell (show w.heap.size ≤ w.heap.size + 1 by omega) _⟩
        case measure => simp [intOf]; omega
        | false =>
        have hN0 : addX x y u v = 0 := by unfold addX; rw [hc]; rfl
        have hD0 : addY x y u v = 0 := by unfold addY; rw [hc]; rfl
        rw [hc, hN0, hD0] at hadd
        have HM := Lib.hid hadd.2.1
        have hnone := sumL_none F (k + 1) n (by omega) (by rw [HSTEP.out, hc]; rfl)
        have hrr := HRES.out
        unfold SumR at hrr
        rw [hnone] at hrr
        obtain ⟨-, rfl, rfl, rfl⟩ := hrr.resolve_left (by simp)
        obtain ⟨N0, hN0'⟩ : ∃ N0 : Int, N0 = 0 := ⟨_, rfl⟩
        obtain ⟨D0, hD0'⟩ : ∃ D0 : Int, D0 = 0 := ⟨_, rfl⟩
        have HM : Hid (∀ w, Calls Try.prog 34 #[.agg #[.int .i64 x, .int .i64 y], .agg #[.int .i64 u, .int .i64 v]] w fun e w' => e = .returned (.tuple #[.agg #[.int .i64 N0, .int .i64 D0], .bool false]) ∧ Below w.heap.size w w') := by rw [hN0', hD0']; exact HM
        clear hadd hN0 hD0 hc hv hnone hrr hN0' hD0'
        go_wp2_with fail
        refine meet2 ?Xb (fun (b : Nat) W => At2 W b (.int .i64 N0) (.int .i64 D0) ∧ wr.heap.size ≤ b ∧ Below wr.heap.size wr W) ?hb ?kb
        case hb =>
          intro K1
          go_region_held3 (fun w' => w'.cell? ⟨w.heap.size + 1, 0, none⟩ = some (.int .i64 x) ∧ w'.cell? ⟨w.heap.size + 1, 1, none⟩ = some (.int .i64 y) ∧ w'.cell? ⟨g, k * 2, none⟩ = some (.int .i64 u) ∧ w'.cell? ⟨g, k * 2 + 1, none⟩ = some (.int .i64 v)) (first | (go_split_ands; (refine ⟨?_, ?_, ?_, ?_⟩ <;> (with_reducible assumption))) | (go_split_ands; (refine ⟨?_, ?_, ?_, ?_⟩ <;> ((with_reducible apply cell_kept) <;> (with_reducible assumption)))) | (go_split_ands; (refine ⟨?_, ?_, ?_, ?_⟩ <;> ((with_reducible refine cell_alloc_kept ?_); (with_reducible assumption)))) | (go_split_ands; (refine ⟨?_, ?_, ?_, ?_⟩ <;> ((with_reducible refine cell_dr ?_); (with_reducible assumption)))) | (go_split_ands; (refine ⟨?_, ?_, ?_, ?_⟩ <;> ((with_reducible refine cell_alloc_dr ?_); (with_reducible assumption)))) | (go_split_ands; (refine ⟨?_, ?_, ?_, ?_⟩ <;> ((with_reducible refine cell_set_kept ?_ (cell_set_kept ?_ ?_)) <;> (first | (with_reducible assumption) | ((try have hq0 := sza.out); (try simp at hq0); (try dsimp only); omega))))) | (go_split_ands; (refine ⟨?_, ?_, ?_, ?_⟩ <;> ((with_reducible apply cell_alloc_other) <;> (first | (with_reducible assumption) | ((try have hq0 := sza.out); (try simp at hq0); (try dsimp only); omega)))))) (first | (go_at_call 34; (with_reducible refine (HM.out _).mono ?_); rintro e wa ⟨rfl, hba⟩; have sza := Lib.hid hba.size; (try (refine fresh2 (wr.heap.size) (.int .i64 0) (.int .i64 0) hba ?_ ?_ ?_ ?_ ?_ ?_; (focus (first | (with_reducible assumption) | (simp [go_sem]; done))); (focus (first | (with_reducible assumption) | (simp [go_sem]; done))); (focus (first | (with_reducible assumption) | (simp [go_sem]; done))); (focus (first | (with_reducible assumption) | (simp [go_sem]; done))); (focus (first | (simp; done) | (simp; omega) | omega)); intro ae1 ae2 ae3 ae4 ae5))))
          all_goals (first
            | (refine gen_end _ (fun W => At2 W wa.heap.size (.int .i64 N0) (.int .i64 D0) ∧ wr.heap.size ≤ wa.heap.size ∧ Below wr.heap.size wr W) ?_ ?_; (focus (have h1 := sza.out; (try simp at h1); refine ⟨⟨?_, ?_, ?_, ?_⟩, ?_, ?_⟩; (focus (simp [go_sem, *]; done)); (focus (simp [go_sem, *]; done)); (focus (simp [go_sem, *]; done)); (focus (simp [go_sem, *]; done)); (focus omega); (focus ((repeat' (first | exact (Below.refl _ _) | (refine below_dr1 ?_) | (refine Below.setCell ?_ ?_ _) | (refine Below.alloc ?_ ?_ _) | (refine Below.trans ?_ (hba.mono ?_)))) <;> (first | (simp; done) | (simp; omega) | omega))))); (focus (intro Wn hW; generalize wa.heap.size = g1 at hW ⊢; exact K1.out g1 Wn hW)))
            | (refine gen_end _ (fun W => At2 W wr.heap.size (.int .i64 N0) (.int .i64 D0) ∧ wr.heap.size ≤ wr.heap.size ∧ Below wr.heap.size wr W) ?_ ?_; (focus (have h1 := sza.out; (try simp at h1); refine ⟨⟨?_, ?_, ?_, ?_⟩, ?_, ?_⟩; (focus (simp [go_sem, *]; done)); (focus (simp [go_sem, *]; done)); (focus (simp [go_sem, *]; done)); (focus (simp [go_sem, *]; done)); (focus omega); (focus ((repeat' (first | exact (Below.refl _ _) | (refine below_dr1 ?_) | (refine Below.setCell ?_ ?_ _) | (refine Below.alloc ?_ ?_ _) | (refine Below.trans ?_ (hba.mono ?_)))) <;> (first | (simp; done) | (simp; omega) | omega))))); (focus (intro Wn hW; exact K1.out _ Wn hW))))
        case kb =>
        intro b2 w2 hW
        obtain ⟨r4, hge, hb2⟩ := hW
        have r3 := Q1.out.below hb2 Q1.out.lt
        have q0 := Lib.hid (r3.set0 (.int .i64 0)).1
        have q1 := Lib.hid ((r3.set0 (.int .i64 0)).set1 (.int .i64 0)).2.1
        have HB2 := Lib.hid (HB.out.trans (hb2.mono HB.out.size))
        obtain ⟨z0, z1, z2, z3⟩ := r3
        clear hb2 r4 d0 d1 d2 d3 
        go_wp2
        try rw [Exit.noGoto_ret]
        refine bodyPost_ret (v := .tuple #[.agg #[.int .i64 0, .int .i64 0], .bool false]) (by simp [results, Try.results42, go_sem, q0.out, q1.out]) rfl ⟨rfl, ?_⟩
        exact (HB2.out.setCell (Nat.le_refl _) _).setCell (Nat.le_refl _) _
      | false =>
        have := allV_at HAV.out hkn
        rw [HK.out, hv] at this
        cases this
    · obtain rfl : k = n := by omega
      have hrr := HRES.out
      unfold SumR at hrr
      rw [HSUM.out, H0.out] at hrr
      obtain ⟨-, hab, rfl⟩ := hrr.resolve_right (by simp)
      simp only [Option.some.injEq, Prod.mk.injEq] at hab
      obtain ⟨rfl, rfl⟩ := hab
      have q0 := Lib.hid (Q1.out.set0 (.int .i64 x)).1
      have q1 := Lib.hid ((Q1.out.set0 (.int .i64 x)).set1 (.int .i64 y)).2.1
      obtain ⟨z0, z1, z2, z3⟩ := Q1.out
      obtain ⟨d0, d1, -, -⟩ := p2
      clear hrr hB
      go_wp2
      try rw [Exit.noGoto_ret]
      refine bodyPost_ret (v := .tuple #[.agg #[.int .i64 x, .int .i64 y], .bool true]) (by simp [results, Try.results42, go_sem, q0.out, q1.out]) rfl ⟨rfl, ?_⟩
      exact (HB.out.setCell (Nat.le_refl _) _).setCell (Nat.le_refl _) _

set_option maxHeartbeats 4000000 in
set_option maxRecDepth 100000 in
theorem implSum_any (B : Nat) (a : Option Addr) (n cap : Nat) (F : List Int) (R Q : Int) (c : Bool) (w : World) (hr : Recs w B (.slice a n cap) n F) (hn : n ≤ 64) (hres : SumR F n R Q c) :
    Calls Try.prog 20 #[.slice a n cap] w fun e w' => e = .returned (.tuple #[.agg #[.int .i64 R, .int .i64 Q], .bool c]) ∧ Below w.heap.size w w' := by
  have HR := Lib.hid hr
  have HRES := Lib.hid hres
  have PR := Lib.hid (At2.new w (.int .i64 0) (.int .i64 0) 24)
  skip
  clear hr hres 
  go_enter Try.func20, Try.ntmps20
  go_wp2
  go_loopw [16] (fun i wr => ∃ (k : Nat) (x y : Int), k ≤ n ∧ i = .int .i64 (k : Int) ∧ allV F k = true ∧ sumL F k = some (x, y) ∧ fracB x y = true ∧ At2 wr w.heap.size (.int .i64 0) (.int .i64 0) ∧ At2 wr (w.heap.size + 1) (.int .i64 x) (.int .i64 y) ∧ Below w.heap.size w wr) (fun i _ => n - (intOf i).toNat)
  case atStart => exact ⟨0, 0, 1, Nat.zero_le _, rfl, rfl, rfl, frac_zero, PR.out.alloc _, by have := At2.new (w.alloc (.cells #[.int .i64 0, .int .i64 0] 24)) (.int .i64 0) (.int .i64 1) 24; simpa using this, ((Below.refl _ _).alloc (Nat.le_refl _) _).alloc (by simp) _⟩
  case round =>
    obtain ⟨k, x, y, hk, rfl, h0, hsum, hval, p1, p2, hB⟩ := hrel
    have H0 := Lib.hid h0
    have HSUM := Lib.hid hsum
    have HVAL := Lib.hid hval
    have Q1 := Lib.hid p1
    have Q2 := Lib.hid p2
    have HB := Lib.hid hB
    have hlt2 := p2.lt
    have hne : w.heap.size + 1 ≠ w.heap.size := by omega
    have HNE := Lib.hid hne
    clear h0 hsum hval p1 hne
    by_cases hkn : k < n
    · obtain ⟨g, u, v, rfl, -, hgl, ⟨e0, e1⟩, x0, x1⟩ := (HR.out.keep hB (Nat.le_refl _)).at k hkn
      have HK := Lib.hid (show frK F k = fracB u v by unfold frK; rw [e0, e1])
      have hstep := sumL_step F k x y HSUM.out
      rw [e0, e1] at hstep
      have HSTEP := Lib.hid hstep
      obtain ⟨d0, d1, d2, d3⟩ := p2
      clear hB e0 e1 hstep
      cases hv : fracB u v with
      | true =>
        have hadd := add_val x y u v HVAL.out hv
        cases hc : addC x y u v with
        | true =>
        obtain ⟨N0, hN0⟩ : ∃ N0, addX x y u v = N0 := ⟨_, rfl⟩
        obtain ⟨D0, hD0⟩ : ∃ D0, addY x y u v = D0 := ⟨_, rfl⟩
        rw [hc, hN0, hD0] at hadd
        have HM := Lib.hid hadd.2.2
        have HV2 := Lib.hid (hadd.1 rfl)
        have HST := Lib.hid (show sumL F (k + 1) = some (N0, D0) by rw [HSTEP.out, hc, if_pos rfl, hN0, hD0])
        have HAL := Lib.hid (allV_step H0.out (by rw [HK.out]; exact hv))
        clear hadd hN0 hD0 hc hv
        have y0 := cell_alloc_kept (o := .cells #[.int .i64 u, .int .i64 v] 24) d0
        have y1 := cell_alloc_kept (o := .cells #[.int .i64 u, .int .i64 v] 24) d1
        go_wp2_with fail
        refine (HM.out _).mono ?_; rintro e w1 ⟨rfl, hb1⟩
        have hb2 : Below wr.heap.size wr (w1.alloc (.cells #[.int .i64 N0, .int .i64 D0] 24)) := (((Below.refl _ _).alloc (Nat.le_refl _) (.cells #[.int .i64 u, .int .i64 v] 24)).trans (hb1.mono (by simp))).alloc (by have := hb1.size; simp at this; omega) _
        have r4 := At2.new w1 (.int .i64 N0) (.int .i64 D0) 24
        have R1 := Lib.hid (Q1.out.below hb2 Q1.out.lt)
        have r3 := Q2.out.below hb2 Q2.out.lt
        have R3 := Lib.hid r3
        have HB2 := Lib.hid (HB.out.trans (hb2.mono HB.out.size))
        obtain ⟨z0, z1, z2, z3⟩ := r3
        obtain ⟨z4, z5, z6, z7⟩ := r4
        clear hb2 d0 d1 d2 d3 hb1 y0 y1
        go_wp2
        go_roundw
        case rel => exact ⟨k + 1, N0, D0, by omega, by go_num, HAL.out, HST.out, HV2.out, (R1.out.set_ne HNE.out _ _).set_ne HNE.out _ _, (R3.out.set0 _).set1 _, (HB2.out.setCell (show w.heap.size ≤ w.heap.size + 1 by omega) _).setCell (show w.heap.size ≤ w.heap.size + 1 by omega) _⟩
        case measure => simp [intOf]; omega
        | false =>
        have hN0 : addX x y u v = 0 := by unfold addX; rw [hc]; rfl
        have hD0 : addY x y u v = 0 := by unfold addY; rw [hc]; rfl
        rw [hc, hN0, hD0] at hadd
        have HM := Lib.hid hadd.2.2
        have hnone := sumL_none F (k + 1) n (by omega) (by rw [HSTEP.out, hc]; rfl)
        have hrr := HRES.out
        unfold SumR at hrr
        rw [hnone] at hrr
        obtain ⟨-, rfl, rfl, rfl⟩ := hrr.resolve_left (by simp)
        obtain ⟨N0, hN0'⟩ : ∃ N0 : Int, N0 = 0 := ⟨_, rfl⟩
        obtain ⟨D0, hD0'⟩ : ∃ D0 : Int, D0 = 0 := ⟨_, rfl⟩
        have HM : Hid (∀ w, Calls Try.prog 14 #[.agg #[.int .i64 x, .int .i64 y], .agg #[.int .i64 u, .int .i64 v]] w fun e w' => e = .returned (.tuple #[.agg #[.int .i64 N0, .int .i64 D0], .bool false]) ∧ Below w.heap.size w w') := by rw [hN0', hD0']; exact HM
        clear hadd hN0 hD0 hc hv hnone hrr hN0' hD0'
        have y0 := cell_alloc_kept (o := .cells #[.int .i64 u, .int .i64 v] 24) d0
        have y1 := cell_alloc_kept (o := .cells #[.int .i64 u, .int .i64 v] 24) d1
        go_wp2_with fail
        refine (HM.out _).mono ?_; rintro e w1 ⟨rfl, hb1⟩
        have hb2 : Below wr.heap.size wr (w1.alloc (.cells #[.int .i64 N0, .int .i64 D0] 24)) := (((Below.refl _ _).alloc (Nat.le_refl _) (.cells #[.int .i64 u, .int .i64 v] 24)).trans (hb1.mono (by simp))).alloc (by have := hb1.size; simp at this; omega) _
        have r4 := At2.new w1 (.int .i64 N0) (.int .i64 D0) 24
        have r3 := Q1.out.below hb2 Q1.out.lt
        have q0 := Lib.hid (r3.set0 (.int .i64 0)).1
        have q1 := Lib.hid ((r3.set0 (.int .i64 0)).set1 (.int .i64 0)).2.1
        have HB2 := Lib.hid (HB.out.trans (hb2.mono HB.out.size))
        obtain ⟨z0, z1, z2, z3⟩ := r3
        clear hb2 r4 d0 d1 d2 d3 hb1 y0 y1
        go_wp2
        try rw [Exit.noGoto_ret]
        refine bodyPost_ret (v := .tuple #[.agg #[.int .i64 0, .int .i64 0], .bool false]) (by simp [results, Try.results20, go_sem, q0.out, q1.out]) rfl ⟨rfl, ?_⟩
        exact (HB2.out.setCell (Nat.le_refl _) _).setCell (Nat.le_refl _) _
      | false =>
        obtain ⟨N0, hN0'⟩ : ∃ N0 : Int, N0 = 0 := ⟨_, rfl⟩
        obtain ⟨D0, hD0'⟩ : ∃ D0 : Int, D0 = 0 := ⟨_, rfl⟩
        have HM : Hid (∀ w, Calls Try.prog 14 #[.agg #[.int .i64 x, .int .i64 y], .agg #[.int .i64 u, .int .i64 v]] w fun e w' => e = .returned (.tuple #[.agg #[.int .i64 N0, .int .i64 D0], .bool false]) ∧ Below w.heap.size w w') := by rw [hN0', hD0']; exact Lib.hid (fun w => implAdd_xi2 x y u v w HVAL.out hv)
        have hbad := allV_bad hkn (by rw [HK.out]; exact hv)
        have hrr := HRES.out
        unfold SumR at hrr
        rw [hbad] at hrr
        obtain ⟨-, rfl, rfl, rfl⟩ := hrr.resolve_left (by simp)
        clear hv hbad hrr hN0' hD0'
        have y0 := cell_alloc_kept (o := .cells #[.int .i64 u, .int .i64 v] 24) d0
        have y1 := cell_alloc_kept (o := .cells #[.int .i64 u, .int .i64 v] 24) d1
        go_wp2_with fail
        refine (HM.out _).mono ?_; rintro e w1 ⟨rfl, hb1⟩
        have hb2 : Below wr.heap.size wr (w1.alloc (.cells #[.int .i64 N0, .int .i64 D0] 24)) := (((Below.refl _ _).alloc (Nat.le_refl _) (.cells #[.int .i64 u, .int .i64 v] 24)).trans (hb1.mono (by simp))).alloc (by have := hb1.size; simp at this; omega) _
        have r4 := At2.new w1 (.int .i64 N0) (.int .i64 D0) 24
        have r3 := Q1.out.below hb2 Q1.out.lt
        have q0 := Lib.hid (r3.set0 (.int .i64 0)).1
        have q1 := Lib.hid ((r3.set0 (.int .i64 0)).set1 (.int .i64 0)).2.1
        have HB2 := Lib.hid (HB.out.trans (hb2.mono HB.out.size))
        obtain ⟨z0, z1, z2, z3⟩ := r3
        clear hb2 r4 d0 d1 d2 d3 hb1 y0 y1
        go_wp2
        try rw [Exit.noGoto_ret]
        refine bodyPost_ret (v := .tuple #[.agg #[.int .i64 0, .int .i64 0], .bool false]) (by simp [results, Try.results20, go_sem, q0.out, q1.out]) rfl ⟨rfl, ?_⟩
        exact (HB2.out.setCell (Nat.le_refl _) _).setCell (Nat.le_refl _) _
    · obtain rfl : k = n := by omega
      have hrr := HRES.out
      unfold SumR at hrr
      rw [HSUM.out, H0.out] at hrr
      obtain ⟨-, hab, rfl⟩ := hrr.resolve_right (by simp)
      simp only [Option.some.injEq, Prod.mk.injEq] at hab
      obtain ⟨rfl, rfl⟩ := hab
      have q0 := Lib.hid (Q1.out.set0 (.int .i64 x)).1
      have q1 := Lib.hid ((Q1.out.set0 (.int .i64 x)).set1 (.int .i64 y)).2.1
      obtain ⟨z0, z1, z2, z3⟩ := Q1.out
      obtain ⟨d0, d1, -, -⟩ := p2
      clear hrr hB
      go_wp2
      try rw [Exit.noGoto_ret]
      refine bodyPost_ret (v := .tuple #[.agg #[.int .i64 x, .int .i64 y], .bool true]) (by simp [results, Try.results20, go_sem, q0.out, q1.out]) rfl ⟨rfl, ?_⟩
      exact (HB.out.setCell (Nat.le_refl _) _).setCell (Nat.le_refl _) _

set_option maxRecDepth 100000 in
theorem specSum_any (B : Nat) (a : Option Addr) (n cap : Nat) (F : List Int) (R Q : Int) (c : Bool) (w : World) (hr : Recs w B (.slice a n cap) n F) (hn : n ≤ 64) (hres : SumR F n R Q c) :
    Calls Try.prog 18 #[.slice a n cap] w fun e w' => e = .returned (.tuple #[.agg #[.int .i64 R, .int .i64 Q], .bool c]) ∧ Below w.heap.size w w' := by
  have PR := Lib.hid (At2.new w (.int .i64 0) (.int .i64 0) 24)
  have hr1 : Recs (w.alloc (.cells #[.int .i64 0, .int .i64 0] 24)) B (.slice a n cap) n F := hr.keep ((Below.refl _ _).alloc (Nat.le_refl _) _) (Nat.le_refl _)
  have HALL := Lib.hid (specAll_any B a n cap F _ hr1 hn)
  have HR1 := Lib.hid hr1
  have HRES := Lib.hid hres
  clear hr hr1 hres
  cases hav : allV F n with
  | false =>
    have hrr := HRES.out
    unfold SumR at hrr
    rw [hav] at hrr
    obtain ⟨-, rfl, rfl, rfl⟩ := hrr.resolve_left (by simp)
    rw [hav] at HALL
    clear hrr hav
    go_enter Try.func18, Try.ntmps18
    go_wp2_with fail
    refine HALL.out.mono ?_; rintro e w1 ⟨rfl, hb1⟩
    have hp1 := PR.out.below hb1 (by simp)
    have q0 := Lib.hid (hp1.set0 (.int .i64 0)).1
    have q1 := Lib.hid ((hp1.set0 (.int .i64 0)).set1 (.int .i64 0)).2.1
    have HB1 := Lib.hid (((Below.refl w.heap.size w).alloc (Nat.le_refl _) (.cells #[.int .i64 0, .int .i64 0] 24)).trans (hb1.mono (by simp)))
    obtain ⟨z0, z1, z2, z3⟩ := hp1
    clear hb1
    go_wp2
    refine bodyPost_ret (v := .tuple #[.agg #[.int .i64 0, .int .i64 0], .bool false]) (by simp [results, Try.results18, go_sem, q0.out, q1.out]) rfl ⟨rfl, ?_⟩
    exact (HB1.out.setCell (Nat.le_refl _) _).setCell (Nat.le_refl _) _
  | true =>
    have HAV := Lib.hid hav
    rw [hav] at HALL
    clear hav
    go_enter Try.func18, Try.ntmps18
    go_wp2_with fail
    refine HALL.out.mono ?_; rintro e w1 ⟨rfl, hb1⟩
    have HP1 := Lib.hid (PR.out.below hb1 (by simp))
    have HR2 := Lib.hid (HR1.out.keep hb1 (Nat.le_refl _))
    have HB1 := Lib.hid (((Below.refl w.heap.size w).alloc (Nat.le_refl _) (.cells #[.int .i64 0, .int .i64 0] 24)).trans (hb1.mono (by simp)))
    clear hb1
    go_wp2_with fail
    refine (specFSum_any B a n cap F R Q c _ HR2.out hn HAV.out HRES.out).mono ?_; rintro e w2 ⟨rfl, hb2⟩
    have hp1 := HP1.out.below hb2 HP1.out.lt
    have q0 := Lib.hid (hp1.set0 (.int .i64 R)).1
    have q1 := Lib.hid ((hp1.set0 (.int .i64 R)).set1 (.int .i64 Q)).2.1
    have HB2 := Lib.hid (HB1.out.trans (hb2.mono HB1.out.size))
    obtain ⟨z0, z1, z2, z3⟩ := hp1
    clear hb2
    go_wp2
    refine bodyPost_ret (v := .tuple #[.agg #[.int .i64 R, .int .i64 Q], .bool c]) (by simp [results, Try.results18, go_sem, q0.out, q1.out]) rfl ⟨rfl, ?_⟩
    exact (HB2.out.setCell (Nat.le_refl _) _).setCell (Nat.le_refl _) _
set_option maxRecDepth 100000 in
theorem specSum_long (a : Option Addr) (n cap : Nat) (w : World) (hn : 64 < n) (hn2 : n ≤ 1048576) :
    Calls Try.prog 18 #[.slice a n cap] w fun e w' => e = .returned (.tuple #[.agg #[.int .i64 0, .int .i64 0], .bool false]) ∧ Below w.heap.size w w' := by
  go_enter Try.func18, Try.ntmps18
  go_wp2
  refine bodyPost_ret (v := .tuple #[.agg #[.int .i64 0, .int .i64 0], .bool false]) (by simp [results, Try.results18, go_sem]) rfl ⟨rfl, ?_⟩
  exact (Below.refl _ _).alloc (Nat.le_refl _) _
set_option maxRecDepth 100000 in
theorem implSum_long (a : Option Addr) (n cap : Nat) (w : World) (hn : 64 < n) (hn2 : n ≤ 1048576) :
    Calls Try.prog 20 #[.slice a n cap] w fun e w' => e = .returned (.tuple #[.agg #[.int .i64 0, .int .i64 0], .bool false]) ∧ Below w.heap.size w w' := by
  go_enter Try.func20, Try.ntmps20
  go_wp2
  refine bodyPost_ret (v := .tuple #[.agg #[.int .i64 0, .int .i64 0], .bool false]) (by simp [results, Try.results20, go_sem]) rfl ⟨rfl, ?_⟩
  exact (Below.refl _ _).alloc (Nat.le_refl _) _
end Go.Proofs.Ytomdoamfdidghaa
