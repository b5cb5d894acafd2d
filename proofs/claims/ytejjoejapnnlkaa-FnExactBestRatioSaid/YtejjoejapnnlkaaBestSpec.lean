/- The nearest ratio, on the side of the model. -/
import Derived.Test.YtejjoejapnnlkaaBestNear
namespace Go.Proofs.Ytejjoejapnnlkaa
open Go.RowKit
set_option linter.unusedVariables false

theorem specGoal_c (n d : Int) (b : Bool) (w : World) (h : goalB n d = b) :
    Calls Try.prog 62 #[.agg #[.int .i64 n, .int .i64 d]] w fun e w' => e = .returned (.bool b) ∧ Below w.heap.size w w' := by
  rw [← h]; exact specGoal n d w
theorem implGoal_c (n d : Int) (b : Bool) (w : World) (h : goalB n d = b) :
    Calls Try.prog 63 #[.agg #[.int .i64 n, .int .i64 d]] w fun e w' => e = .returned (.bool b) ∧ Below w.heap.size w w' := by
  rw [← h]; exact implGoal n d w
theorem mk_low (a b : Nat) (hb : 0 < b) (hg : Nat.gcd a b = 1) : mkN (a : Int) (b : Int) = (a : Int) ∧ mkD (a : Int) (b : Int) = (b : Int) := by
  have e : Int.gcd (a : Int) (b : Int) = 1 := hg
  obtain ⟨m1, m2⟩ := mk_pos (a : Int) (b : Int) (by omega)
  rw [m1, m2, e]
  exact ⟨by simp, by simp⟩
/-- behind i of the two candidates -/
def hsB (N D : Nat) (s : Nat × Nat) (d : Nat) : Nat → Nat × Nat
  | 0 => s
  | 1 => stB2 N D s (N * d / D) d
  | _ => stB2 N D (stB2 N D s (N * d / D) d) (N * d / D + 1) d
theorem hsB_next (N D : Nat) (s : Nat × Nat) (d i x : Nat) (hi : i < 2) (hx : x = N * d / D + i) : hsB N D s d (i + 1) = stB2 N D (hsB N D s d i) x d := by
  have : i = 0 ∨ i = 1 := by omega
  rcases this with rfl | rfl
  · rw [hx]; rfl
  · rw [hx]; rfl
theorem hs_bnd (N D : Nat) (s : Nat × Nat) (d i M : Nat) (hD : 0 < D) (hN : N ≤ 1000 * D) (hs : s.1 ≤ 1001 * M ∧ 0 < s.2 ∧ s.2 ≤ M) (hd : 0 < d) (hd2 : d ≤ M) : (hsB N D s d i).1 ≤ 1001 * M ∧ 0 < (hsB N D s d i).2 ∧ (hsB N D s d i).2 ≤ M := by
  have hc := cand_bnd N D d M hD hN hd2
  have h1 := st_bnd N D s (N * d / D) d M hs (by omega) hd hd2
  match i with
  | 0 => exact hs
  | 1 => exact h1
  | i + 2 => exact st_bnd N D _ (N * d / D + 1) d M h1 (by omega) hd hd2

set_option maxHeartbeats 1000000 in
set_option maxRecDepth 100000 in
theorem specBest_t (N D M : Nat) (w : World) (hg : goalB (N : Int) (D : Int) = true) (hM1 : 1 ≤ M) (hM2 : M ≤ 10000) :
    Calls Try.prog 35 #[.agg #[.int .i64 (N : Int), .int .i64 (D : Int)], .int .i64 (M : Int)] w fun e w' => e = .returned (.tuple #[.agg #[.int .i64 ((bsF N D (N / D, 1) M).1 : Int), .int .i64 ((bsF N D (N / D, 1) M).2 : Int)], .bool true]) ∧ Below w.heap.size w w' := by
  obtain ⟨-, g1, g2, -, g4, -⟩ := goalB_parts hg
  have HG := Lib.hid hg
  have hD0 : 0 < D := by omega
  have hN0 : N ≤ 1000 * D := by omega
  have hD1 : D ≤ 1000000 := by omega
  have hN1 : N ≤ 1000000000 := by omega
  have hDne : ((D : Int) == 0) = false := by simp; omega
  have hDn0 : ¬ (D : Int) = 0 := by omega
  have hDn1 : ¬ D = 0 := by omega
  have hnd : N / D ≤ 1000 := Nat.div_le_of_le_mul (by omega)
  have hI0 : (N / D, 1).1 ≤ 1001 * M ∧ 0 < (N / D, 1).2 ∧ (N / D, 1).2 ≤ M := ⟨by dsimp only; omega, by simp, by dsimp only; omega⟩
  have HI0 := Lib.hid hI0
  obtain ⟨q0, hq0⟩ : ∃ q0, N / D = q0 := ⟨_, rfl⟩
  have hqi : (N : Int) / (D : Int) = (q0 : Int) := by rw [← hq0]; simp
  have hqt : IntKind.i64.wrap ((N : Int).tdiv (D : Int)) = (q0 : Int) := by rw [Int.tdiv_eq_ediv_of_nonneg (by omega), hqi]; exact IntWalk.i64_in _ (by omega)
  have HQ0 := Lib.hid hq0
  have hqw : IntKind.i64.wrap (q0 : Int) = (q0 : Int) := IntWalk.i64_in _ (by omega)
  clear hg g1 g2 g4 hI0 hq0 hnd
  go_enter Try.func35, Try.ntmps35
  go_wp2_with fail
  refine (specGoal_c _ _ true _ HG.out).mono ?_; rintro e w1 ⟨rfl, hb1⟩
  have P0 := ((At2.new w (.int .i64 (N : Int)) (.int .i64 (D : Int)) 35).alloc (.cells #[.int .i64 0, .int .i64 0] 35)).below hb1 (by simp; omega)
  have P1 := (At2.new (w.alloc (.cells #[.int .i64 (N : Int), .int .i64 (D : Int)] 35)) (.int .i64 0) (.int .i64 0) 35).below hb1 (by simp)
  simp only [World.size_alloc] at P1
  have HB1 := Lib.hid ((((Below.refl w.heap.size w).alloc (Nat.le_refl _) _).alloc (by simp) _).trans (hb1.mono (by simp; omega)))
  have HP0 := Lib.hid P0
  have HP1 := Lib.hid P1
  obtain ⟨b0, b1, -, -⟩ := P0
  clear hb1 P1
  go_wp2_with fail
  refine (l00In_t _ _ _ _ (by omega) (by omega)).mono ?_; rintro e w' ⟨rfl, rfl⟩
  go_wp2
  go_loopw [6, 7, 8] (fun ns ds dd wr => ∃ (e : Nat) (a b : Nat), dd = .int .i64 ((e + 1 : Nat) : Int) ∧ e ≤ M ∧ ns = .int .i64 (a : Int) ∧ ds = .int .i64 (b : Int) ∧ (a, b) = bsF N D (N / D, 1) e ∧ Below w1.heap.size w1 wr) (fun _ _ dd _ => M + 1 - (intOf dd).toNat)
  case atStart => exact ⟨0, q0, 1, rfl, Nat.zero_le _, rfl, rfl, by rw [bsF, HQ0.out], Below.refl _ _⟩
  case round =>
    obtain ⟨e, a, b, rfl, he, rfl, rfl, hab, hB⟩ := hrel
    have HAB := Lib.hid hab
    have HB := Lib.hid hB
    have d0 := (hB.cell (p := ⟨w.heap.size, 0, none⟩) HP0.out.lt).trans b0
    have d1 := (hB.cell (p := ⟨w.heap.size, 1, none⟩) HP0.out.lt).trans b1
    clear hab hB
    obtain ⟨dn, hdn⟩ : ∃ dn, e + 1 = dn := ⟨_, rfl⟩
    have HDN := Lib.hid hdn
    rw [hdn]
    have hdn0 : 1 ≤ dn := by omega
    clear hdn
    by_cases hlt : dn ≤ M
    · have hm : N * dn ≤ 1000000000 * 10000 := Nat.mul_le_mul hN1 (by omega)
      have hc0 := cand_bnd N D dn M hD0 hN0 hlt
      obtain ⟨A, hA⟩ : ∃ A, N * dn / D = A := ⟨_, rfl⟩
      have wm : IntKind.i64.wrap ((N : Int) * (dn : Int)) = (N : Int) * (dn : Int) := by rw [show (N : Int) * (dn : Int) = ((N * dn : Nat) : Int) from by simp]; exact IntWalk.i64_in _ (by omega)
      have hAi : (N : Int) * (dn : Int) / (D : Int) = (A : Int) := by rw [← hA]; simp
      have hAt : IntKind.i64.wrap (((N : Int) * (dn : Int)).tdiv (D : Int)) = (A : Int) := by
        rw [show (N : Int) * (dn : Int) = ((N * dn : Nat) : Int) from by simp, Int.tdiv_eq_ediv_of_nonneg (by omega), show ((N * dn : Nat) : Int) / (D : Int) = ((N * dn / D : Nat) : Int) from by simp, hA]
        exact IntWalk.i64_in _ (by omega)
      have hAb : A ≤ 1000 * M := by rw [← hA]; exact hc0
      have HA := Lib.hid hA
      have hAw : IntKind.i64.wrap (A : Int) = (A : Int) := IntWalk.i64_in _ (by omega)
      clear hm hA hc0
      go_wp2
      go_loopw [6, 7, 10] (fun ns ds xs wr => ∃ (i x a' b' : Nat), i ≤ 2 ∧ x = A + i ∧ xs = .int .i64 (x : Int) ∧ ns = .int .i64 (a' : Int) ∧ ds = .int .i64 (b' : Int) ∧ (a', b') = hsB N D (bsF N D (N / D, 1) e) dn i ∧ Below w1.heap.size w1 wr) (fun _ _ xs _ => A + 2 - (intOf xs).toNat)
      case atStart => exact ⟨0, A, a, b, by omega, rfl, rfl, rfl, rfl, HAB.out, HB.out⟩
      case round =>
        obtain ⟨i, x, a', b', hi, hx, rfl, rfl, rfl, hab', hB'⟩ := hrel
        have HAB' := Lib.hid hab'
        have HB' := Lib.hid hB'
        have f0 := (hB'.cell (p := ⟨w.heap.size, 0, none⟩) HP0.out.lt).trans b0
        have f1 := (hB'.cell (p := ⟨w.heap.size, 1, none⟩) HP0.out.lt).trans b1
        have hsz' := hB'.size
        have bd := hs_bnd N D (bsF N D (N / D, 1) e) dn i M hD0 hN0 (bs_bnd N D (N / D, 1) M hD0 hN0 HI0.out e (by omega)) (by omega) hlt
        rw [← hab'] at bd
        obtain ⟨bd1, bd2, bd3⟩ := bd
        dsimp only at bd1 bd2 bd3
        clear hab' hB'
        by_cases hi2 : i < 2
        · have hxb : x ≤ 1001 * M := by omega
          have HS := Lib.hid (hsB_next N D (bsF N D (N / D, 1) e) dn i x hi2 (by rw [HA.out]; exact hx))
          have hxA : x ≤ A + 1 := by omega
          have HXX := Lib.hid hx
          clear hx d0 d1
          cases hr : decide (dsB N D x dn * b' < dsB N D a' b' * dn) with
          | true =>
            have HST := Lib.hid (show stB2 N D (a', b') x dn = (x, dn) from by unfold stB2; rw [if_pos (of_decide_eq_true hr)])
            have HN := Lib.hid (fun w => nearer_b N D x dn a' b' true w hD1 hN1 (by omega) (by omega) (by omega) (by omega) hr)
            clear hr
            go_wp2_with fail
            refine (HN.out _).mono ?_; rintro e2 w2 ⟨rfl, hb2⟩
            have HB2 := Lib.hid (HB'.out.trans (hb2.mono hsz'))
            clear hb2
            go_wp2
            go_roundw

            case rel => exact ⟨i + 1, x + 1, x, dn, by omega, by have := HXX.out; omega, by go_num, rfl, rfl, by rw [HS.out, ← HAB'.out, HST.out], HB2.out⟩
            case measure => simp [intOf]; omega
          | false =>
            have HST := Lib.hid (show stB2 N D (a', b') x dn = (a', b') from by unfold stB2; rw [if_neg (of_decide_eq_false hr)])
            have HN := Lib.hid (fun w => nearer_b N D x dn a' b' false w hD1 hN1 (by omega) (by omega) (by omega) (by omega) hr)
            clear hr
            go_wp2_with fail
            refine (HN.out _).mono ?_; rintro e2 w2 ⟨rfl, hb2⟩
            have HB2 := Lib.hid (HB'.out.trans (hb2.mono hsz'))
            clear hb2
            go_wp2
            go_roundw
            case rel => exact ⟨i + 1, x + 1, a', b', by omega, by have := HXX.out; omega, by go_num, rfl, rfl, by rw [HS.out, ← HAB'.out, HST.out], HB2.out⟩
            case measure => simp [intOf]; omega
        · have hxA : ¬ x ≤ A + 1 := by omega
          have hi3 : i = 2 := by omega
          have HI2 := Lib.hid hi3
          clear hi3
          go_wp2
          go_roundw
          case rel => exact ⟨e + 1, a', b', by have := HDN.out; go_num, by have := HDN.out; omega, rfl, rfl, by rw [HAB'.out, HI2.out, ← HDN.out]; rfl, HB'.out⟩
          case measure => have := HDN.out; simp [intOf]; omega
    · have heM : e = M := by have := HDN.out; omega
      obtain ⟨n1, n2, -⟩ := near_all N D hD0 e
      have bd := bs_bnd N D (N / D, 1) M hD0 hN0 HI0.out e he
      rw [← HAB.out] at n1 n2 bd
      dsimp only at n1 n2 bd
      obtain ⟨bd1, bd2, bd3⟩ := bd
      obtain ⟨k1, k2⟩ := mk_low a b n1 n2
      have HM := Lib.hid (fun w => l01FMake_any (a : Int) (b : Int) w (by omega) (by omega) (by omega) (by omega) (by omega))
      rw [k1, k2] at HM
      have HE := Lib.hid heM
      have P1 := HP1.out.below (Below.mono HB.out (Nat.le_refl _)) HP1.out.lt
      have hsz := HB.out.size
      clear heM n2 k1 k2 d0 d1
      go_wp2_with fail
      refine (HM.out _).mono ?_; rintro e2 w2 ⟨rfl, hb2⟩
      have hq := P1.below hb2 P1.lt
      have q0' := Lib.hid (hq.set0 (.int .i64 (a : Int))).1
      have q1' := Lib.hid ((hq.set0 (.int .i64 (a : Int))).set1 (.int .i64 (b : Int))).2.1
      have HB2 := Lib.hid (HB1.out.trans ((HB.out.trans (hb2.mono hsz)).mono HB1.out.size))
      obtain ⟨p0, p1, p2, p3⟩ := hq
      clear hb2 P1
      go_wp2
      refine bodyPost_ret (v := .tuple #[.agg #[.int .i64 (a : Int), .int .i64 (b : Int)], .bool true]) (by simp [results, Try.results35, go_sem, q0'.out, q1'.out]) rfl ⟨?_, ?_⟩
      · rw [← HE.out, ← HAB.out]
      · exact ((HB2.out).setCell (by simp) _).setCell (by simp) _
end Go.Proofs.Ytejjoejapnnlkaa
