/- The walk of a law: no fraction tried is nearer than the best ratio, and the numbers of the continued fraction make the goal again. -/
import Derived.Test.YthkooboiacajeaaBestImpl
import Derived.Test.YthkooboiacajeaaRatio
import Derived.Test.YthkooboiacajeaaMake
import Derived.Test.YthkooboiacajeaaByteB
namespace Go.Proofs.Ythkooboiacajeaa
open Go.RowKit
set_option linter.unusedVariables false

/-- the pairs of the divisions, one after another -/
def eu (N D : Nat) : Nat → Nat × Nat
  | 0 => (N, D)
  | k + 1 => ((eu N D k).2, (eu N D k).1 % (eu N D k).2)
theorem eu_drop (N D k : Nat) (hk : k ≤ (ratN N D).length) : (ratN N D).drop k = ratN (eu N D k).1 (eu N D k).2 := by
  induction k with
  | zero => rfl
  | succ k ih =>
    have h := ih (by omega)
    have hlt : k < (ratN N D).length := by omega
    rw [List.drop_eq_getElem_cons hlt] at h
    by_cases hy : (eu N D k).2 = 0
    · rw [hy, ratN_zero] at h; cases h
    · rw [ratN_step _ _ _ _ hy rfl rfl] at h
      exact (List.cons.inj h).2
theorem eu_at (N D k : Nat) (hk : k < (ratN N D).length) : (eu N D k).2 ≠ 0 ∧ (ratN N D)[k] = (((eu N D k).1 / (eu N D k).2 : Nat) : Int) := by
  have h := eu_drop N D k (by omega)
  rw [List.drop_eq_getElem_cons hk] at h
  by_cases hy : (eu N D k).2 = 0
  · rw [hy, ratN_zero] at h; cases h
  · rw [ratN_step _ _ _ _ hy rfl rfl] at h
    exact ⟨hy, (List.cons.inj h).1⟩
theorem eu_gcd (N D k : Nat) : Nat.gcd (eu N D k).1 (eu N D k).2 = Nat.gcd N D := by
  induction k with
  | zero => rfl
  | succ k ih =>
    rw [← ih]
    show Nat.gcd (eu N D k).2 ((eu N D k).1 % (eu N D k).2) = _
    rw [Nat.gcd_comm, ← Nat.gcd_rec, Nat.gcd_comm]
theorem eu_end (N D : Nat) (h : Nat.gcd N D = 1) : eu N D (ratN N D).length = (1, 0) := by
  have h1 := eu_drop N D _ (Nat.le_refl _)
  rw [List.drop_length] at h1
  have h2 : (eu N D (ratN N D).length).2 = 0 := by
    by_cases hy : (eu N D (ratN N D).length).2 = 0
    · exact hy
    · rw [ratN_step _ _ _ _ hy rfl rfl] at h1; cases h1
  have h3 := eu_gcd N D (ratN N D).length
  rw [h2, Nat.gcd_zero_right, h] at h3
  exact Prod.ext h3 h2
theorem eu_bnd (N D B k : Nat) (h1 : N ≤ B) (h2 : D ≤ B) : (eu N D k).1 ≤ B ∧ (eu N D k).2 ≤ B := by
  induction k with
  | zero => exact ⟨h1, h2⟩
  | succ k ih => exact ⟨ih.2, Nat.le_trans (Nat.mod_le _ _) ih.1⟩
theorem eu_pos (N D k : Nat) (hy : (eu N D k).2 ≠ 0) (h : (eu N D (k + 1)).2 ≠ 0) : 1 ≤ (eu N D (k + 1)).1 / (eu N D (k + 1)).2 := by
  have hlt : (eu N D (k + 1)).2 < (eu N D (k + 1)).1 := by
    show (eu N D k).1 % (eu N D k).2 < (eu N D k).2
    exact Nat.mod_lt _ (by omega)
  exact Nat.div_pos (by omega) (by omega)
theorem eu_back (x y : Nat) : x / y * y + x % y = x := Nat.div_add_mod' x y

theorem make_nat (n d : Nat) (hd : 0 < d) : Nat.gcd (n / Nat.gcd n d) (d / Nat.gcd n d) = 1 ∧ 0 < d / Nat.gcd n d := by
  have hg : 0 < Nat.gcd n d := Nat.gcd_pos_of_pos_right _ hd
  refine ⟨?_, Nat.div_pos (Nat.gcd_le_right _ hd) hg⟩
  have h := Nat.gcd_div (Nat.gcd_dvd_left n d) (Nat.gcd_dvd_right n d)
  rw [h, Nat.div_self hg]

theorem implValid_r (n d : Int) (b : Bool) (w : World) (h : fracB n d = b) :
    Calls Try.prog 10 #[.agg #[.int .i64 n, .int .i64 d]] w fun e w' => e = .returned (.bool b) ∧ Below w.heap.size w w' := by
  rw [← h]; exact implValid n d w
theorem frac_of (n d : Nat) (h0 : 0 < d) (h1 : d ≤ 1000000000000000000) (h2 : n ≤ 1000000000000000000) (hg : Nat.gcd n d = 1) : fracB (n : Int) (d : Int) = true := by
  unfold fracB; rw [decide_eq_true_eq]; exact ⟨by omega, by omega, by omega, by omega, hg⟩
theorem mk_nat (n d : Nat) (hd : 0 < d) : mkN (n : Int) (d : Int) = ((n / Nat.gcd n d : Nat) : Int) ∧ mkD (n : Int) (d : Int) = ((d / Nat.gcd n d : Nat) : Int) := by
  obtain ⟨m1, m2⟩ := mk_pos (n : Int) (d : Int) (by omega)
  have e : ((Int.gcd (n : Int) (d : Int) : Nat) : Int) = ((Nat.gcd n d : Nat) : Int) := rfl
  rw [m1, m2, e]
  exact ⟨by rw [Int.tdiv_eq_ediv_of_nonneg (by omega)]; simp, by simp⟩

set_option maxHeartbeats 4000000 in
set_option maxRecDepth 100000 in
theorem walk_FnRatios (a : Option Addr) (n cap : Nat) (l : List Int) (a2 : Option Addr) (n2 cap2 : Nat) (l2 : List Int) (w : World) (hn : n = l.length) (hr : ByteRow w a l) (hm : n ≤ maxLen) (hn2 : n2 = l2.length) (hr2 : ByteRow w a2 l2) (hm2 : n2 ≤ maxLen) :
    Calls Try.prog 3 #[.slice a n cap, .slice a2 n2 cap2] w fun e w' => e = .returned (.bool true) ∧ Below w.heap.size w w' := by
  by_cases hlong : n ≤ 1048576 ∧ n2 ≤ 1048576
  · obtain ⟨k1, k2⟩ := hlong
    have HLO := Lib.hid (fun w => b10Long_any a a2 n cap n2 cap2 w)
    rw [decide_eq_false (show ¬ 1048576 < n by omega), decide_eq_false (show ¬ 1048576 < n2 by omega)] at HLO
    have hv0 := b10V_bd l 0 256 (by omega)
    have hv1 := b10V_bd l 1 40 (by omega)
    have hv2 := b10V_bd l 2 256 (by omega)
    have hv3 := b10V_bd l2 0 40 (by omega)
    have HV0 := Lib.hid (b10At_any a n cap l 0 256 w hn hr (by omega) (by omega) (by omega))
    have HV1 := Lib.hid (b10At_any a n cap l 1 40 w hn hr (by omega) (by omega) (by omega))
    have HV2 := Lib.hid (b10At_any a n cap l 2 256 w hn hr (by omega) (by omega) (by omega))
    have HV3 := Lib.hid (fun w' (hr : ByteRow w' a2 l2) => b10At_any a2 n2 cap2 l2 0 40 w' hn2 hr (by omega) (by omega) (by omega))
    obtain ⟨V0, e0⟩ := Int.eq_ofNat_of_zero_le hv0.1
    obtain ⟨V1, e1⟩ := Int.eq_ofNat_of_zero_le hv1.1
    obtain ⟨V2, e2⟩ := Int.eq_ofNat_of_zero_le hv2.1
    obtain ⟨V3, e3⟩ := Int.eq_ofNat_of_zero_le hv3.1
    rw [e0] at HV0 hv0
    rw [e1] at HV1 hv1
    rw [e2] at HV2 hv2
    rw [e3] at HV3 hv3
    obtain ⟨d0, hd0⟩ : ∃ d0, 1 + 3 * V0 = d0 := ⟨_, rfl⟩
    obtain ⟨n0, hn0⟩ : ∃ n0, 256 * V1 + V2 = n0 := ⟨_, rfl⟩
    obtain ⟨m0, hm0⟩ : ∃ m0, 1 + V3 = m0 := ⟨_, rfl⟩
    have d0i : (1 : Int) + 3 * (V0 : Int) = (d0 : Int) := by omega
    have n0i : 256 * (V1 : Int) + (V2 : Int) = (n0 : Int) := by omega
    have m0i : (1 : Int) + (V3 : Int) = (m0 : Int) := by omega
    have d0b : 1 ≤ d0 ∧ d0 ≤ 766 := by omega
    have n0b : n0 ≤ 10239 := by omega
    have m0b : 1 ≤ m0 ∧ m0 ≤ 40 := by omega
    have hmk := mk_nat n0 d0 (by omega)
    have HM := Lib.hid (fun w => implMake_t (n0 : Int) (d0 : Int) w (by omega) (by omega) (by omega) (by omega) (by omega))
    rw [hmk.1, hmk.2] at HM
    obtain ⟨hgc, hDp⟩ := make_nat n0 d0 (by omega)
    have hNb : n0 / Nat.gcd n0 d0 ≤ 10239 := Nat.le_trans (Nat.div_le_self _ _) n0b
    have hDb : d0 / Nat.gcd n0 d0 ≤ 766 := Nat.le_trans (Nat.div_le_self _ _) d0b.2
    generalize n0 / Nat.gcd n0 d0 = N at *
    generalize d0 / Nat.gcd n0 d0 = D at *
    have hv4 := b10V_bd l2 1 (m0 : Int) (by omega)
    have HV4 := Lib.hid (fun w' (hr : ByteRow w' a2 l2) => b10At_any a2 n2 cap2 l2 1 (m0 : Int) w' hn2 hr (by omega) (by omega) (by omega))
    obtain ⟨V4, e4⟩ := Int.eq_ofNat_of_zero_le hv4.1
    rw [e4] at HV4 hv4
    obtain ⟨dd, hdd⟩ : ∃ dd, 1 + V4 = dd := ⟨_, rfl⟩
    have ddi : (1 : Int) + (V4 : Int) = (dd : Int) := by omega
    have ddb : 1 ≤ dd ∧ dd ≤ m0 := by omega
    have HR2 := Lib.hid hr2
    clear e0 e1 e2 e3 e4 hv0 hv1 hv2 hv3 hv4 hd0 hn0 hm0 hdd hmk hn hr hn2 hr2
    by_cases hbig : 1000 * D < N
    · have hbi : 1000 * (D : Int) < (N : Int) := by omega
      go_enter Try.func3, Try.ntmps3
      go_wp2_with fail
      refine (HLO.out _).mono ?_; rintro e w' ⟨rfl, rfl⟩
      go_wp2_with fail
      refine HV0.out.mono ?_; rintro e w' ⟨rfl, rfl⟩
      go_wp2_with fail
      refine HV1.out.mono ?_; rintro e w' ⟨rfl, rfl⟩
      go_wp2_with fail
      refine HV2.out.mono ?_; rintro e w' ⟨rfl, rfl⟩
      go_wp2_with fail
      refine (HM.out _).mono ?_; rintro e w1 ⟨rfl, b1⟩
      go_wp2
      go_ret
      exact ⟨rfl, b1.alloc b1.size _⟩
    · have hND : N ≤ 1000 * D := by omega
      have hbi : ¬ 1000 * (D : Int) < (N : Int) := by omega
      have hgB : goalB (N : Int) (D : Int) = true := goalB_t (frac_of N D hDp (by omega) (by omega) hgc) ⟨by omega, by omega, by omega⟩
      have HB := Lib.hid (fun w => implBest_t N D m0 w hgB (by omega) (by omega))
      have HQ := Lib.hid (fun w => implRatio_t N D w hgB)
      have hnear := near_all N D hDp m0
      have hbb := bs_bnd N D (N / D, 1) m0 hDp hND ⟨by have : N / D ≤ 1000 := Nat.div_le_of_le_mul (by omega); dsimp only; omega, by simp, by dsimp only; omega⟩ m0 (Nat.le_refl _)
      obtain ⟨p, hp⟩ : ∃ p, (bsF N D (N / D, 1) m0).1 = p := ⟨_, rfl⟩
      obtain ⟨q, hq⟩ : ∃ q, (bsF N D (N / D, 1) m0).2 = q := ⟨_, rfl⟩
      unfold Near at hnear
      rw [hp, hq] at HB hnear hbb
      obtain ⟨hq0, hpq, hne⟩ := hnear
      obtain ⟨hpb, -, hqb⟩ := hbb
      have HVF := Lib.hid (fun w => implValid_r (p : Int) (q : Int) true w (frac_of p q hq0 (by omega) (by omega) hpq))
      have HNE := Lib.hid (hne dd (by omega) (by omega))
      -- the candidates
      obtain ⟨Ac, hAc⟩ : ∃ Ac, N * dd / D = Ac := ⟨_, rfl⟩
      have hcb := cand_bnd N D dd m0 hDp hND (by omega)
      rw [hAc] at hcb
      have hmul : N * dd ≤ 10239 * 40 := Nat.mul_le_mul hNb (by omega)
      have wm : IntKind.i64.wrap ((N : Int) * (dd : Int)) = (N : Int) * (dd : Int) := by rw [show (N : Int) * (dd : Int) = ((N * dd : Nat) : Int) from by simp]; exact IntWalk.i64_in _ (by omega)
      have hAi : (N : Int) * (dd : Int) / (D : Int) = (Ac : Int) := by rw [← hAc]; simp
      have hAt : IntKind.i64.wrap (((N : Int) * (dd : Int)).tdiv (D : Int)) = (Ac : Int) := by
        rw [show (N : Int) * (dd : Int) = ((N * dd : Nat) : Int) from by simp, Int.tdiv_eq_ediv_of_nonneg (by omega), show ((N * dd : Nat) : Int) / (D : Int) = ((N * dd / D : Nat) : Int) from by simp, hAc]
        exact IntWalk.i64_in _ (by omega)
      have hAw : IntKind.i64.wrap (Ac : Int) = (Ac : Int) := IntWalk.i64_in _ (by omega)
      have hDne : ((D : Int) == 0) = false := by simp; omega
      have hDn0 : ¬ (D : Int) = 0 := by omega
      have HAC := Lib.hid hAc
      have hlenb := ratN_len D N
      have hpos : 0 < (ratN N D).length := by
        rw [ratN_step N D _ _ (by omega) rfl rfl]; simp
      obtain ⟨LN, hLN⟩ : ∃ LN, (ratN N D).length = LN + 1 := ⟨(ratN N D).length - 1, by omega⟩
      have HLN := Lib.hid hLN
      have hLz : (((LN : Int) + 1) == 0) = false := by simp; omega
      have hLz2 : ¬ (LN : Int) + 1 = 0 := by omega
      have hLw : IntKind.i64.wrap (LN : Int) = (LN : Int) := IntWalk.i64_in _ (by omega)
      have hLb : LN ≤ 766 := by omega
      have hmkl := mk_low N D hDp hgc
      have HM2 := Lib.hid (fun w => implMake_t (N : Int) (D : Int) w (by omega) (by omega) (by omega) (by omega) (by omega))
      rw [hmkl.1, hmkl.2] at HM2
      have HEND := Lib.hid (eu_end N D hgc)
      have hqm : ¬ (m0 : Int) < (q : Int) := by omega
      have hGC := Lib.hid hgc
      clear hgB hp hq hpq hne hAc hmul hgc hmkl hpos hLN
      go_enter Try.func3, Try.ntmps3
      go_wp2_with fail
      refine (HLO.out _).mono ?_; rintro e w' ⟨rfl, rfl⟩
      go_wp2_with fail
      refine HV0.out.mono ?_; rintro e w' ⟨rfl, rfl⟩
      go_wp2_with fail
      refine HV1.out.mono ?_; rintro e w' ⟨rfl, rfl⟩
      go_wp2_with fail
      refine HV2.out.mono ?_; rintro e w' ⟨rfl, rfl⟩
      go_wp2_with fail
      refine (HM.out _).mono ?_; rintro e w1 ⟨rfl, b1⟩
      have B1 := Lib.hid (b1.alloc b1.size (.cells #[.int .i64 (N : Int), .int .i64 (D : Int)] 26))
      clear b1
      go_wp2_with fail
      refine (HV3.out _ (HR2.out.keep B1.out (Nat.le_refl _))).mono ?_; rintro e w' ⟨rfl, rfl⟩
      go_wp2_with fail
      refine (HB.out _).mono ?_; rintro e w2 ⟨rfl, b2⟩
      have g0 := cell_alloc_kept (o := .cells #[.int .i64 (p : Int), .int .i64 (q : Int)] 26) (cell_kept b2 (a := ⟨w1.heap.size, 0, none⟩) (v := .int .i64 (N : Int)) (by simp [go_sem]))
      have g1 := cell_alloc_kept (o := .cells #[.int .i64 (p : Int), .int .i64 (q : Int)] 26) (cell_kept b2 (a := ⟨w1.heap.size, 1, none⟩) (v := .int .i64 (D : Int)) (by simp [go_sem]))
      have B2 := Lib.hid ((B1.out.trans (b2.mono B1.out.size)).alloc (Nat.le_trans B1.out.size b2.size) (.cells #[.int .i64 (p : Int), .int .i64 (q : Int)] 26))
      clear b2
      go_wp2_with fail
      refine (HQ.out _).mono ?_; rintro e w3 ⟨v3, rfl, i3, b3⟩
      obtain ⟨av, cv, rfl, hLm, hcells⟩ := i3.form
      have HI3 := Lib.hid i3
      have f0 := cell_kept b3 g0
      have f1 := cell_kept b3 g1
      have k0 := cell_kept b3 (a := ⟨w2.heap.size, 0, none⟩) (v := .int .i64 (p : Int)) (by simp [go_sem])
      have k1' := cell_kept b3 (a := ⟨w2.heap.size, 1, none⟩) (v := .int .i64 (q : Int)) (by simp [go_sem])
      have B3 := Lib.hid (B2.out.trans (b3.mono B2.out.size))
      rw [HLN.out]
      clear i3 b3 hcells g0 g1
      go_wp2_with fail
      refine (HVF.out _).mono ?_; rintro e w4 ⟨rfl, b4⟩
      have g0 := cell_kept b4 f0
      have g1 := cell_kept b4 f1
      have h0 := cell_kept b4 k0
      have h1 := cell_kept b4 k1'
      have B4 := Lib.hid (B3.out.trans (b4.mono B3.out.size))
      have HI4 := Lib.hid (HI3.out.keep b4 (Nat.le_refl _))
      clear b4 f0 f1 k0 k1'
      go_wp2_with fail
      refine (HV4.out _ (HR2.out.keep B4.out (Nat.le_refl _))).mono ?_; rintro e w' ⟨rfl, rfl⟩
      go_wp2
      go_loopw [15] (fun ks wr => ∃ (k : Nat), ks = .int .i64 (k : Int) ∧ k ≤ 2 ∧ wr = w4) (fun ks _ => 2 - (intOf ks).toNat)
      case atStart => exact ⟨0, rfl, by omega, rfl⟩
      case round =>
        obtain ⟨k, rfl, hk, rfl⟩ := hrel
        by_cases hlt : k < 2
        · have hnr := HNE.out (Ac + k) (by rw [HAC.out]; omega)
          have hxb := ds_bnd N D (Ac + k) dd 10000 (by omega) (by omega) (by omega) (by omega) (by omega)
          have hyb := ds_bnd N D p q 10000 (by omega) (by omega) (by omega) (by omega) (by omega)
          have y1 := near_abs N D (Ac + k) dd
          have y2 := near_abs N D p q
          obtain ⟨xk, hxk⟩ : ∃ xk, Ac + k = xk := ⟨_, rfl⟩
          have hxki : (Ac : Int) + (k : Int) = (xk : Int) := by omega
          rw [hxk] at hnr hxb y1
          have hxkb : xk ≤ 1000 * 40 + 1 := by omega
          have m1 : xk * D ≤ 40001 * 766 := Nat.mul_le_mul hxkb hDb
          have m2 : N * q ≤ 10239 * 40 := Nat.mul_le_mul hNb (by omega)
          have m3 : p * D ≤ 40040 * 766 := Nat.mul_le_mul (by omega) hDb
          have wk : IntKind.i64.wrap (xk : Int) = (xk : Int) := IntWalk.i64_in _ (by omega)
          have n1 : N * dd ≤ 10239 * 40 := Nat.mul_le_mul hNb (by omega)
          have c1 : (N : Int) * (dd : Int) = ((N * dd : Nat) : Int) := by simp
          have c2 : (xk : Int) * (D : Int) = ((xk * D : Nat) : Int) := by simp
          have c3 : (N : Int) * (q : Int) = ((N * q : Nat) : Int) := by simp
          have c4 : (p : Int) * (D : Int) = ((p * D : Nat) : Int) := by simp
          have w2' : IntKind.i64.wrap ((xk : Int) * (D : Int)) = (xk : Int) * (D : Int) := by rw [c2]; exact IntWalk.i64_in _ (by omega)
          have w3' : IntKind.i64.wrap ((N : Int) * (q : Int)) = (N : Int) * (q : Int) := by rw [c3]; exact IntWalk.i64_in _ (by omega)
          have w4' : IntKind.i64.wrap ((p : Int) * (D : Int)) = (p : Int) * (D : Int) := by rw [c4]; exact IntWalk.i64_in _ (by omega)
          obtain ⟨X, hX⟩ : ∃ X, (N : Int) * (dd : Int) - (xk : Int) * (D : Int) = X := ⟨_, rfl⟩
          obtain ⟨Y, hY⟩ : ∃ Y, (N : Int) * (q : Int) - (p : Int) * (D : Int) = Y := ⟨_, rfl⟩
          have hXb : -100000000 ≤ X ∧ X ≤ 100000000 := by rw [← hX, c1, c2]; omega
          have hYb : -100000000 ≤ Y ∧ Y ≤ 100000000 := by rw [← hY, c3, c4]; omega
          rw [hX] at y1
          rw [hY] at y2
          generalize dsB N D xk dd = P1 at *
          generalize dsB N D p q = P2 at *
          have mx1 : (if X < -X then -X else X) = (P1 : Int) := by split <;> omega
          have mx2 : (if Y < -Y then -Y else Y) = (P2 : Int) := by split <;> omega
          have wX : IntKind.i64.wrap X = X := IntWalk.i64_in _ (by omega)
          have wY : IntKind.i64.wrap Y = Y := IntWalk.i64_in _ (by omega)
          have wXn : IntKind.i64.wrap (-X) = -X := IntWalk.i64_in _ (by omega)
          have wYn : IntKind.i64.wrap (-Y) = -Y := IntWalk.i64_in _ (by omega)
          have m5 : P1 * q ≤ 20010000000000 * 10000 := Nat.mul_le_mul hxb (by omega)
          have m6 : P2 * dd ≤ 20010000000000 * 10000 := Nat.mul_le_mul hyb (by omega)
          have w5 : IntKind.i64.wrap ((P1 : Int) * (q : Int)) = (P1 : Int) * (q : Int) := by rw [show (P1 : Int) * (q : Int) = ((P1 * q : Nat) : Int) from by simp]; exact IntWalk.i64_in _ (by omega)
          have w6 : IntKind.i64.wrap ((P2 : Int) * (dd : Int)) = (P2 : Int) * (dd : Int) := by rw [show (P2 : Int) * (dd : Int) = ((P2 * dd : Nat) : Int) from by simp]; exact IntWalk.i64_in _ (by omega)
          have hcmp : ¬ (P1 : Int) * (q : Int) < (P2 : Int) * (dd : Int) := by
            rw [show (P1 : Int) * (q : Int) = ((P1 * q : Nat) : Int) from by simp, show (P2 : Int) * (dd : Int) = ((P2 * dd : Nat) : Int) from by simp]; omega
          have hcmp2 : decide ((P1 : Int) * (q : Int) < (P2 : Int) * (dd : Int)) = false := decide_eq_false hcmp
          clear hnr y1 y2 m1 m2 m3 n1 c1 c2 c3 c4 m5 m6 hxk hcmp
          go_wp2
          go_roundw
          case rel => exact ⟨k + 1, by go_num, by omega, by first | rfl | trivial⟩
          case measure => simp [intOf]; omega
        · have HLEN := Lib.hid hlenb
          clear hlenb hAi hAt hAw wm h0 h1 hcb
          go_wp2
          go_loopw [18, 19, 20] (fun xs ys is wv => ∃ (j : Nat) (z : Int), is = .int .i64 z ∧ z = (j : Int) - 1 ∧ j ≤ LN + 1 ∧ xs = .int .i64 ((eu N D j).1 : Int) ∧ ys = .int .i64 ((eu N D j).2 : Int) ∧ wv = wr) (fun _ _ is _ => (intOf is + 1).toNat)
          case atStart =>
            have he := HEND.out
            rw [HLN.out] at he
            exact ⟨LN + 1, (LN : Int), by first | rfl | go_num, by omega, Nat.le_refl _, by rw [he]; rfl, by rw [he]; rfl, by first | rfl | trivial⟩
          case round =>
            obtain ⟨j, z, rfl, hz, hj, rfl, rfl, rfl⟩ := hrel
            by_cases hj0 : j = 0
            · subst hj0
              obtain rfl : z = -1 := by omega
              clear hz
              rw [show eu N D 0 = (N, D) from rfl]
              dsimp only
              go_wp2_with fail
              refine (HM2.out _).mono ?_; rintro e w5 ⟨rfl, b5⟩
              have q0 := cell_alloc_kept (o := .cells #[.int .i64 (N : Int), .int .i64 (D : Int)] 26) (cell_kept b5 g0)
              have q1 := cell_alloc_kept (o := .cells #[.int .i64 (N : Int), .int .i64 (D : Int)] 26) (cell_kept b5 g1)
              have B5 := Lib.hid ((B4.out.trans (b5.mono B4.out.size)).alloc (Nat.le_trans B4.out.size b5.size) (.cells #[.int .i64 (N : Int), .int .i64 (D : Int)] 26))
              clear b5
              go_wp2
              go_ret
              exact ⟨rfl, B5.out⟩
            · obtain ⟨i, hi⟩ : ∃ i, j = i + 1 := ⟨j - 1, by omega⟩
              subst hi
              obtain rfl : z = (i : Int) := by omega
              clear hz
              have hiL : i < (ratN N D).length := by have := HLN.out; omega
              obtain ⟨hy0, hat⟩ := eu_at N D i hiL
              obtain ⟨hxb, hyb⟩ := eu_bnd N D 10239 i hNb (by omega)
              have hpos : 0 < i → 1 ≤ (eu N D i).1 / (eu N D i).2 := by
                intro h0
                obtain ⟨i', rfl⟩ : ∃ i', i = i' + 1 := ⟨i - 1, by omega⟩
                exact eu_pos N D i' (eu_at N D i' (by omega)).1 hy0
              have hback := eu_back (eu N D i).1 (eu N D i).2
              have hqx : (eu N D i).1 / (eu N D i).2 ≤ (eu N D i).1 := Nat.div_le_self _ _
              have hnx : eu N D (i + 1) = ((eu N D i).2, (eu N D i).1 % (eu N D i).2) := rfl
              obtain ⟨a', cap', hv, -, hce⟩ := HI4.out.form
              simp only [Value.slice.injEq] at hv
              obtain ⟨rfl, -, rfl⟩ := hv
              obtain ⟨gg, rfl, -, -, hc, -⟩ := hce i hiL
              rw [hat] at hc
              rw [hnx]
              dsimp only
              obtain ⟨x, hX⟩ : ∃ x, (eu N D i).1 = x := ⟨_, rfl⟩
              obtain ⟨y, hY⟩ : ∃ y, (eu N D i).2 = y := ⟨_, rfl⟩
              have HX := Lib.hid hX
              have HY := Lib.hid hY
              rw [hX, hY] at hpos hback hc
              rw [hX, hY] at hqx
              rw [hX] at hxb
              rw [hY] at hyb hy0
              rw [hX, hY]
              obtain ⟨qq, hqq⟩ : ∃ qq, x / y = qq := ⟨_, rfl⟩
              obtain ⟨rr, hrr⟩ : ∃ rr, x % y = rr := ⟨_, rfl⟩
              rw [hqq] at hpos hback hc hqx
              rw [hrr] at hback ⊢
              have hmb : qq * y ≤ x := by omega
              have hqy : (qq : Int) * (y : Int) + (rr : Int) = (x : Int) := by rw [← hback]; simp
              have wqy : IntKind.i64.wrap ((qq : Int) * (y : Int)) = (qq : Int) * (y : Int) := by rw [show (qq : Int) * (y : Int) = ((qq * y : Nat) : Int) from by simp]; exact IntWalk.i64_in _ (by omega)
              have wx : IntKind.i64.wrap (x : Int) = (x : Int) := IntWalk.i64_in _ (by omega)
              clear hX hY hat hce hback hnx hqq hrr hmb hy0
              by_cases hi0 : i = 0
              · have hi1 : ¬ (0 : Int) < (i : Int) := by omega
                have hi2 : ¬ 0 < i := by omega
                clear hpos hi0
                go_wp2
                go_roundw
                case rel => exact ⟨i, (i : Int) - 1, by go_num, rfl, by omega, by rw [HX.out], by rw [HY.out], by first | rfl | trivial⟩
                case measure => simp [intOf]
              · have hi1 : 0 < i := by omega
                have hq1 := hpos hi1
                clear hpos
                go_wp2
                go_roundw
                case rel => exact ⟨i, (i : Int) - 1, by go_num, rfl, by omega, by rw [HX.out], by rw [HY.out], by first | rfl | trivial⟩
                case measure => simp [intOf]
  · have HLO := Lib.hid (fun w => b10Long_any a a2 n cap n2 cap2 w)
    have hb : (decide (1048576 < n) || decide (1048576 < n2)) = true := by simp; omega
    rw [hb] at HLO
    clear hr hr2 hn hn2 hb hlong
    go_enter Try.func3, Try.ntmps3
    go_wp2_with fail
    refine (HLO.out _).mono ?_; rintro e w' ⟨rfl, rfl⟩
    go_wp2
    go_ret
    exact ⟨rfl, Below.refl _ _⟩
end Go.Proofs.Ythkooboiacajeaa
