/- The nearest ratio, on the side of the program. -/
import Derived.Test.YthkooboiacajeaaBestSpec
import Derived.StillTailTactics
import Derived.WalkMore
namespace Go.Proofs.Ythkooboiacajeaa
open Go.RowKit
set_option linter.unusedVariables false

theorem gen_end {K : Act → World → Prop} {Q : Exit → Act → World → Prop} {E : Exit} {A : Act} (W0 : World) (F : World → Prop) (h0 : F W0) (k : ∀ W, F W → Exit.then K Q E A W) : Exit.then K Q E A W0 := k W0 h0
theorem meet2 {G : Prop} (X : Nat → World → Prop) (F : Nat → World → Prop) (h1 : Hid (∀ b W, F b W → X b W) → G) (h2 : ∀ b W, F b W → X b W) : G := h1 (Lib.hid h2)
theorem At2.below' {w w' : World} {g N : Nat} {x y : Value} (h : At2 w g x y) (hb : Below N w w') (hN : g < N) : At2 w' g x y :=
  ⟨(hb.cell (p := ⟨g, 0, none⟩) hN).trans h.1, (hb.cell (p := ⟨g, 1, none⟩) hN).trans h.2.1, (hb.frozen (p := ⟨g, 0, none⟩) hN).trans h.2.2.1, (hb.frozen (p := ⟨g, 1, none⟩) hN).trans h.2.2.2⟩
theorem hs_end (N D : Nat) (s0 : Nat × Nat) (e i M dn : Nat) (t : Nat × Nat) (hdn : dn = e + 1) (hM : dn ≤ M) (hi : i = 1 ∨ i = 2) (ht : t = hsB N D (bsF N D s0 e) dn i) (h : dsB N D t.1 t.2 = 0) : bsF N D s0 M = t := by
  subst hdn
  have h1 : bsF N D s0 (e + 1) = t := by
    rcases hi with rfl | rfl
    · have e1 : bsF N D s0 (e + 1) = stB2 N D (hsB N D (bsF N D s0 e) (e + 1) 1) (N * (e + 1) / D + 1) (e + 1) := rfl
      rw [e1, ← ht, stB2_zero _ _ _ _ _ h]
    · rw [ht]; rfl
  obtain ⟨k, rfl⟩ : ∃ k, M = e + 1 + k := ⟨M - (e + 1), by omega⟩
  rw [bsF_zero N D s0 (e + 1) k (by rw [h1]; exact h), h1]

set_option maxHeartbeats 2000000 in
set_option maxRecDepth 100000 in
theorem implBest_t (N D M : Nat) (w : World) (hg : goalB (N : Int) (D : Int) = true) (hM1 : 1 ≤ M) (hM2 : M ≤ 10000) :
    Calls Try.prog 8 #[.agg #[.int .i64 (N : Int), .int .i64 (D : Int)], .int .i64 (M : Int)] w fun e w' => e = .returned (.tuple #[.agg #[.int .i64 ((bsF N D (N / D, 1) M).1 : Int), .int .i64 ((bsF N D (N / D, 1) M).2 : Int)], .bool true]) ∧ Below w.heap.size w w' := by
  obtain ⟨-, g1, g2, -, g4, -⟩ := goalB_parts hg
  have HG := Lib.hid hg
  have hD0 : 0 < D := by omega
  have hN0 : N ≤ 1000 * D := by omega
  have hD1 : D ≤ 1000000 := by omega
  have hN1 : N ≤ 1000000000 := by omega
  have hDne : ((D : Int) == 0) = false := by simp; omega
  have hDn0 : ¬ (D : Int) = 0 := by omega
  have hDn1 : ¬ D = 0 := by omega
  have hone : bsF N D (0, 1) M = bsF N D (N / D, 1) M := by
    obtain ⟨m, rfl⟩ : ∃ m, M = m + 1 := ⟨M - 1, by omega⟩
    exact bsF_one N D hD0 m
  have HONE := Lib.hid hone
  have hI0 : (0, 1).1 ≤ 1001 * M ∧ 0 < (0, 1).2 ∧ (0, 1).2 ≤ M := ⟨by simp, by simp, by dsimp only; omega⟩
  have HI0 := Lib.hid hI0
  have hds : dsB N D 0 1 = N := by unfold dsB; simp
  have HDS := Lib.hid hds
  clear hg g1 g2 g4 hI0 hds hone
  go_enter Try.func8, Try.ntmps8
  go_wp2
  go_step3
  go_wp2_with fail
  refine (implGoal_c _ _ true _ HG.out).mono ?_; rintro e w1 ⟨rfl, hb1⟩
  have P0 := ((At2.new w (.int .i64 (N : Int)) (.int .i64 (D : Int)) 26).alloc (.cells #[.int .i64 0, .int .i64 0] 26)).below hb1 (by simp; omega)
  have P1 := (At2.new (w.alloc (.cells #[.int .i64 (N : Int), .int .i64 (D : Int)] 26)) (.int .i64 0) (.int .i64 0) 26).below hb1 (by simp)
  simp only [World.size_alloc] at P1
  have HB1 := Lib.hid ((((Below.refl w.heap.size w).alloc (Nat.le_refl _) _).alloc (by simp) _).trans (hb1.mono (by simp; omega)))
  have HP0 := Lib.hid P0
  have HP1 := Lib.hid P1
  have hlt0 := P0.lt
  have hlt1 := P1.lt
  obtain ⟨b0, b1, -, -⟩ := P0
  clear hb1 P1
  go_wp2_with fail
  refine (within_i64_t _ _ _ _ (by omega) (by omega)).mono ?_; rintro e w' ⟨rfl, rfl⟩
  go_wp2
  refine meet2 ?X (fun bb W => At2 W w.heap.size (.int .i64 (N : Int)) (.int .i64 (D : Int)) ∧ At2 W (w.heap.size + 1) (.int .i64 0) (.int .i64 0) ∧ At2 W bb (.int .i64 0) (.int .i64 1) ∧ w.heap.size + 1 < bb ∧ Below w.heap.size w W) ?h1 ?h2
  case h1 =>
    intro K1
    go_region
    all_goals
      refine gen_end _ (fun W => At2 W w.heap.size (.int .i64 (N : Int)) (.int .i64 (D : Int)) ∧ At2 W (w.heap.size + 1) (.int .i64 0) (.int .i64 0) ∧ At2 W w1.heap.size (.int .i64 0) (.int .i64 1) ∧ w.heap.size + 1 < w1.heap.size ∧ Below w.heap.size w W) ?_ ?_
      · refine ⟨?_, ?_, ?_, hlt1, ?_⟩
        · exact HP0.out.below' (N := w1.heap.size) (by first | exact (Below.refl _ _).alloc (Nat.le_refl _) _ | exact ((Below.refl w1.heap.size w1).drew).alloc (Nat.le_refl _) _) hlt0
        · exact HP1.out.below' (N := w1.heap.size) (by first | exact (Below.refl _ _).alloc (Nat.le_refl _) _ | exact ((Below.refl w1.heap.size w1).drew).alloc (Nat.le_refl _) _) hlt1
        · first | exact At2.new _ _ _ _ | exact At2.new w1.drew _ _ _
        · first | exact HB1.out.alloc HB1.out.size _ | exact HB1.out.drew.alloc HB1.out.size _
      · intro Wn hW
        generalize w1.heap.size = g at hW ⊢
        exact K1.out g Wn hW
  case h2 =>
    clear HP0 HP1 hlt0 hlt1 b0 b1 HB1
    intro bb W hW
    obtain ⟨P0, P1, PB, hlt1, hBW⟩ := hW
    have HP0 := Lib.hid P0
    have HP1 := Lib.hid P1
    have HPB := Lib.hid PB
    have HBW := Lib.hid hBW
    have hlt0 : w.heap.size < bb := by omega
    clear P0 P1 PB hBW
    go_wp2
    go_step3
    go_wp2
    go_loopw [7, 8] (fun fs dd wr => ∃ (e a b fr : Nat), dd = .int .i64 ((e + 1 : Nat) : Int) ∧ e ≤ M ∧ fs = .int .i64 (fr : Int) ∧ (a, b) = bsF N D (0, 1) e ∧ dsB N D a b = fr ∧ At2 wr bb (.int .i64 (a : Int)) (.int .i64 (b : Int)) ∧ Below bb W wr) (fun _ dd _ => M + 1 - (intOf dd).toNat)
    case atStart => exact ⟨0, 0, 1, N, rfl, Nat.zero_le _, rfl, rfl, HDS.out, HPB.out, Below.refl _ _⟩
    case round =>
      obtain ⟨e, a, b, fr0, rfl, he, rfl, hab, hfr, hat, hB⟩ := hrel
      have HAB := Lib.hid hab
      have HFR0 := Lib.hid hfr
      have HAT := Lib.hid hat
      have HB := Lib.hid hB
      obtain ⟨d0, d1, -, -⟩ := HP0.out.below' hB hlt0
      clear hab hfr hat hB
      obtain ⟨dn, hdn⟩ : ∃ dn, e + 1 = dn := ⟨_, rfl⟩
      have HDN := Lib.hid hdn
      rw [hdn]
      have hdn0 : 1 ≤ dn := by omega
      clear hdn
      by_cases hlt : dn ≤ M
      · have hm : N * dn ≤ 1000000000 * 10000 := Nat.mul_le_mul hN1 (by omega)
        have hc0 := cand_bnd N D dn M hD0 hN0 hlt
        obtain ⟨A, hA⟩ : ∃ A, N * dn / D = A := ⟨_, rfl⟩
        have wm : IntKind.i64.wrap ((N : Int) * (dn : Int)) = (N : Int) * (dn : Int) := by rw [show (N : Int) * (dn : Int) = ((N * dn : Nat) : Int) from by simp]; exact IntWalk.i64_in _ (by omega)
        have hAi : (N : Int) * (dn : Int) / (D : Int) = (A : Int) := by rw [← hA]; simp
        have hAt : IntKind.i64.wrap (((N : Int) * (dn : Int)).tdiv (D : Int)) = (A : Int) := by
          rw [show (N : Int) * (dn : Int) = ((N * dn : Nat) : Int) from by simp, Int.tdiv_eq_ediv_of_nonneg (by omega), show ((N * dn : Nat) : Int) / (D : Int) = ((N * dn / D : Nat) : Int) from by simp, hA]
          exact IntWalk.i64_in _ (by omega)
        have hAb : A ≤ 1000 * M := by rw [← hA]; exact hc0
        have HA := Lib.hid hA
        have hAw : IntKind.i64.wrap (A : Int) = (A : Int) := IntWalk.i64_in _ (by omega)
        clear hm hA hc0
        go_wp2
        go_loopw [7, 10] (fun fs xs wr => ∃ (i x a' b' fr : Nat), i ≤ 2 ∧ x = A + i ∧ xs = .int .i64 (x : Int) ∧ fs = .int .i64 (fr : Int) ∧ (a', b') = hsB N D (bsF N D (0, 1) e) dn i ∧ dsB N D a' b' = fr ∧ At2 wr bb (.int .i64 (a' : Int)) (.int .i64 (b' : Int)) ∧ Below bb W wr) (fun _ xs _ => A + 2 - (intOf xs).toNat)
        case atStart => exact ⟨0, A, a, b, fr0, by omega, rfl, rfl, rfl, HAB.out, HFR0.out, HAT.out, HB.out⟩
        case round =>
          obtain ⟨i, x, a', b', fr, hi, hx, rfl, rfl, hab', hfr', hat', hB'⟩ := hrel
          have HAB' := Lib.hid hab'
          have HB' := Lib.hid hB'
          have HAT' := Lib.hid hat'
          have HFR := Lib.hid hfr'
          obtain ⟨f0, f1, -, -⟩ := HP0.out.below' hB' hlt0
          have bd := hs_bnd N D (bsF N D (0, 1) e) dn i M hD0 hN0 (bs_bnd N D (0, 1) M hD0 hN0 HI0.out e (by omega)) (by omega) hlt
          rw [← hab'] at bd
          obtain ⟨bd1, bd2, bd3⟩ := bd
          dsimp only at bd1 bd2 bd3
          have hfb : fr ≤ 20010000000000 := by rw [← hfr']; exact ds_bnd N D a' b' M hD1 hN1 hM2 bd1 bd3
          clear hab' hB' hat' hfr' d0 d1
          by_cases hi2 : i < 2
          · have hxb : x ≤ 1001 * M := by omega
            have HS := Lib.hid (hsB_next N D (bsF N D (0, 1) e) dn i x hi2 (by rw [HA.out]; exact hx))
            have hxA : x ≤ A + 1 := by omega
            have HXX := Lib.hid hx
            clear hx
            have hpb := ds_bnd N D x dn M hD1 hN1 hM2 hxb hlt
            have mxD : x * D ≤ 10010000 * 1000000 := Nat.mul_le_mul (by omega) hD1
            have mNd : N * dn ≤ 1000000000 * 10000 := Nat.mul_le_mul hN1 (by omega)
            have wxD : IntKind.i64.wrap ((x : Int) * (D : Int)) = (x : Int) * (D : Int) := by rw [show (x : Int) * (D : Int) = ((x * D : Nat) : Int) from by simp]; exact IntWalk.i64_in _ (by omega)
            obtain ⟨X, hX⟩ : ∃ X, (x : Int) * (D : Int) - (N : Int) * (dn : Int) = X := ⟨_, rfl⟩
            have hXb : -20010000000000 ≤ X ∧ X ≤ 20010000000000 := by
              rw [← hX, show (x : Int) * (D : Int) = ((x * D : Nat) : Int) from by simp, show (N : Int) * (dn : Int) = ((N * dn : Nat) : Int) from by simp]; omega
            have hXa : X.natAbs = dsB N D x dn := by rw [← hX]; rfl
            have wX : IntKind.i64.wrap X = X := IntWalk.i64_in _ (by omega)
            obtain ⟨p, hp⟩ : ∃ p, dsB N D x dn = p := ⟨_, rfl⟩
            rw [hp] at hXa hpb
            have HPP := Lib.hid hp
            have HSZ := Lib.hid (fun w => sizeOf_any X w (by omega) (by omega))
            rw [hXa] at HSZ
            have m5 : p * b' ≤ 20010000000000 * 10000 := Nat.mul_le_mul hpb (by omega)
            have m6 : fr * dn ≤ 20010000000000 * 10000 := Nat.mul_le_mul hfb (by omega)
            have w5 : IntKind.i64.wrap ((p : Int) * (b' : Int)) = (p : Int) * (b' : Int) := by rw [show (p : Int) * (b' : Int) = ((p * b' : Nat) : Int) from by simp]; exact IntWalk.i64_in _ (by omega)
            have w6 : IntKind.i64.wrap ((fr : Int) * (dn : Int)) = (fr : Int) * (dn : Int) := by rw [show (fr : Int) * (dn : Int) = ((fr * dn : Nat) : Int) from by simp]; exact IntWalk.i64_in _ (by omega)
            clear hp hXa mxD mNd m5 m6 hXb
            cases hr : decide (p * b' < fr * dn) with
            | true =>
              have HST := Lib.hid (show stB2 N D (a', b') x dn = (x, dn) from by unfold stB2; rw [if_pos (by rw [HPP.out, HFR.out]; exact of_decide_eq_true hr)])
              have HNX := Lib.hid (show (x, dn) = hsB N D (bsF N D (0, 1) e) dn (i + 1) from by rw [HS.out, ← HAB'.out, HST.out])
              have hr2 : decide ((p : Int) * (b' : Int) < (fr : Int) * (dn : Int)) = true := by
                rw [← hr, decide_eq_decide, show (p : Int) * (b' : Int) = ((p * b' : Nat) : Int) from by simp, show (fr : Int) * (dn : Int) = ((fr * dn : Nat) : Int) from by simp, Int.ofNat_lt]
              have HAT2 := Lib.hid ((HAT'.out.set0 (.int .i64 (x : Int))).set1 (.int .i64 (dn : Int)))
              have HB2 := Lib.hid ((HB'.out.setCell (p := ⟨bb, 0, none⟩) (Nat.le_refl _) (.int .i64 (x : Int))).setCell (p := ⟨bb, 1, none⟩) (Nat.le_refl _) (.int .i64 (dn : Int)))
              obtain ⟨r0, r1, r2, r3⟩ := HAT'.out
              clear hr
              by_cases hz : p = 0
              · have hzz : ((p : Int) == 0) = true := by simp [hz]
                have HZ0 := Lib.hid hz
                clear hz
                go_wp2_with fail
                refine (HSZ.out _).mono ?_; rintro e2 w2 ⟨rfl, rfl⟩
                have P1 := (HP1.out.below' HB2.out hlt1)
                obtain ⟨p0, p1, p2, p3⟩ := P1
                have q0' := Lib.hid ((show At2 _ (w.heap.size + 1) _ _ from ⟨p0, p1, p2, p3⟩).set0 (.int .i64 (x : Int))).1
                have q1' := Lib.hid (((show At2 _ (w.heap.size + 1) _ _ from ⟨p0, p1, p2, p3⟩).set0 (.int .i64 (x : Int))).set1 (.int .i64 (dn : Int))).2.1
                obtain ⟨u0, u1, u2, u3⟩ := HAT2.out
                have HBL := Lib.hid HB2.out
                have hEQ := (show bsF N D (N / D, 1) M = (x, dn) from by rw [← HONE.out]; exact hs_end N D (0, 1) e (i + 1) M dn (x, dn) HDN.out.symm hlt (by omega) HNX.out (by have := HPP.out; rw [HZ0.out] at this; exact this))
                have HEQ := Lib.hid hEQ
                clear hEQ
                go_wp2
                try rw [Exit.noGoto_ret]
                refine bodyPost_ret (v := .tuple #[.agg #[.int .i64 (x : Int), .int .i64 (dn : Int)], .bool true]) (by simp [results, Try.results8, go_sem, q0'.out, q1'.out]) rfl ⟨?_, ?_⟩
                · rw [HEQ.out]
                · exact ((HBW.out.trans (HBL.out.mono (by omega))).setCell (by simp) _).setCell (by simp) _
              · have hzz : ((p : Int) == 0) = false := by simp [hz]
                have HZ0 := Lib.hid hz
                have hzn : ¬ (p : Int) = 0 := by omega
                clear hz
                go_wp2_with fail
                refine (HSZ.out _).mono ?_; rintro e2 w2 ⟨rfl, rfl⟩
                go_wp2
                go_roundw
                case rel => exact ⟨i + 1, x + 1, x, dn, p, by omega, by have := HXX.out; omega, by go_num, rfl, HNX.out, HPP.out, HAT2.out, HB2.out⟩
                case measure => simp [intOf]; omega
            | false =>
              have HST := Lib.hid (show stB2 N D (a', b') x dn = (a', b') from by unfold stB2; rw [if_neg (by rw [HPP.out, HFR.out]; exact of_decide_eq_false hr)])
              have HNX := Lib.hid (show (a', b') = hsB N D (bsF N D (0, 1) e) dn (i + 1) from by rw [HS.out, ← HAB'.out, HST.out])
              have hr2 : decide ((p : Int) * (b' : Int) < (fr : Int) * (dn : Int)) = false := by
                rw [← hr, decide_eq_decide, show (p : Int) * (b' : Int) = ((p * b' : Nat) : Int) from by simp, show (fr : Int) * (dn : Int) = ((fr * dn : Nat) : Int) from by simp, Int.ofNat_lt]
              have HAT2 := Lib.hid HAT'.out
              have HB2 := Lib.hid HB'.out
              obtain ⟨r0, r1, r2, r3⟩ := HAT'.out
              clear hr
              by_cases hz : fr = 0
              · have hzz : ((fr : Int) == 0) = true := by simp [hz]
                have HZ0 := Lib.hid hz
                clear hz
                go_wp2_with fail
                refine (HSZ.out _).mono ?_; rintro e2 w2 ⟨rfl, rfl⟩
                have P1 := (HP1.out.below' HB2.out hlt1)
                obtain ⟨p0, p1, p2, p3⟩ := P1
                have q0' := Lib.hid ((show At2 _ (w.heap.size + 1) _ _ from ⟨p0, p1, p2, p3⟩).set0 (.int .i64 (a' : Int))).1
                have q1' := Lib.hid (((show At2 _ (w.heap.size + 1) _ _ from ⟨p0, p1, p2, p3⟩).set0 (.int .i64 (a' : Int))).set1 (.int .i64 (b' : Int))).2.1
                obtain ⟨u0, u1, u2, u3⟩ := HAT2.out
                have HBL := Lib.hid HB2.out
                have hEQ := (show bsF N D (N / D, 1) M = (a', b') from by rw [← HONE.out]; exact hs_end N D (0, 1) e (i + 1) M dn (a', b') HDN.out.symm hlt (by omega) HNX.out (by have := HFR.out; rw [HZ0.out] at this; exact this))
                have HEQ := Lib.hid hEQ
                clear hEQ
                go_wp2
                try rw [Exit.noGoto_ret]
                refine bodyPost_ret (v := .tuple #[.agg #[.int .i64 (a' : Int), .int .i64 (b' : Int)], .bool true]) (by simp [results, Try.results8, go_sem, q0'.out, q1'.out]) rfl ⟨?_, ?_⟩
                · rw [HEQ.out]
                · exact ((HBW.out.trans (HBL.out.mono (by omega))).setCell (by simp) _).setCell (by simp) _
              · have hzz : ((fr : Int) == 0) = false := by simp [hz]
                have HZ0 := Lib.hid hz
                have hzn : ¬ (fr : Int) = 0 := by omega
                clear hz
                go_wp2_with fail
                refine (HSZ.out _).mono ?_; rintro e2 w2 ⟨rfl, rfl⟩
                go_wp2
                go_roundw
                case rel => exact ⟨i + 1, x + 1, a', b', fr, by omega, by have := HXX.out; omega, by go_num, rfl, HNX.out, HFR.out, HAT2.out, HB2.out⟩
                case measure => simp [intOf]; omega
          · have hxA : ¬ x ≤ A + 1 := by omega
            have hi3 : i = 2 := by omega
            have HI2 := Lib.hid hi3
            have HXX := Lib.hid hx
            clear hi3 hx
            go_wp2
            go_roundw
            case rel => exact ⟨e + 1, a', b', fr, by have := HDN.out; go_num, by have := HDN.out; omega, rfl, by rw [HAB'.out, HI2.out, ← HDN.out]; rfl, HFR.out, HAT'.out, HB'.out⟩
            case measure => have := HDN.out; simp [intOf]; omega
      · have heM : e = M := by have := HDN.out; omega
        have HEM := Lib.hid heM
        clear heM d0 d1
        have P1 := (HP1.out.below' HB.out hlt1)
        obtain ⟨p0, p1, p2, p3⟩ := P1
        have q0' := Lib.hid ((show At2 _ (w.heap.size + 1) _ _ from ⟨p0, p1, p2, p3⟩).set0 (.int .i64 (a : Int))).1
        have q1' := Lib.hid (((show At2 _ (w.heap.size + 1) _ _ from ⟨p0, p1, p2, p3⟩).set0 (.int .i64 (a : Int))).set1 (.int .i64 (b : Int))).2.1
        obtain ⟨u0, u1, u2, u3⟩ := HAT.out
        have HBL := Lib.hid HB.out
        have hEQ := (show bsF N D (N / D, 1) M = (a, b) from by rw [← HONE.out, ← HEM.out]; exact HAB.out.symm)
        have HEQ := Lib.hid hEQ
        clear hEQ
        go_wp2
        try rw [Exit.noGoto_ret]
        refine bodyPost_ret (v := .tuple #[.agg #[.int .i64 (a : Int), .int .i64 (b : Int)], .bool true]) (by simp [results, Try.results8, go_sem, q0'.out, q1'.out]) rfl ⟨?_, ?_⟩
        · rw [HEQ.out]
        · exact ((HBW.out.trans (HBL.out.mono (by omega))).setCell (by simp) _).setCell (by simp) _
end Go.Proofs.Ythkooboiacajeaa
