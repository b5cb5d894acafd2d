/- The walks of laws: the least gap and the longest wait of two clocks. -/
import Derived.Test.YtafecdmcbpnniaaCkLaw
import Derived.Test.YtafecdmcbpnniaaGcd
namespace Go.Proofs.Ytafecdmcbpnniaa
open Go.RowKit
set_option linter.unusedVariables false
theorem tmod_two (n b : Int) (hb : 0 < b) : (n.tmod b < 0 ∧ n.tmod b + b = n % b) ∨ (0 ≤ n.tmod b ∧ n.tmod b = n % b) := by
  have h := Int.tmod_eq_emod (a := n) (b := b)
  have h0 := Int.emod_nonneg n (show b ≠ 0 by omega)
  have h1 := Int.emod_lt_of_pos n hb
  by_cases hz : 0 ≤ n ∨ b ∣ n
  · rw [if_pos hz] at h; right; omega
  · rw [if_neg hz] at h
    have : n % b ≠ 0 := fun e => hz (.inr (Int.dvd_of_emod_eq_zero e))
    left; omega
theorem tmod_bd (n b : Int) (hb : 0 < b) : -b ≤ n.tmod b ∧ n.tmod b < b ∧ (n.tmod b + b).tmod b = n % b := by
  have h0 := Int.emod_nonneg n (show b ≠ 0 by omega)
  have h1 := Int.emod_lt_of_pos n hb
  rcases tmod_two n b hb with ⟨h2, h3⟩ | ⟨h2, h3⟩
  · refine ⟨by omega, by omega, ?_⟩
    rw [h3, Int.tmod_eq_emod_of_nonneg h0, Int.emod_emod]
  · refine ⟨by omega, by omega, ?_⟩
    rw [h3, Int.tmod_eq_emod_of_nonneg (by omega), Int.add_emod_right, Int.emod_emod]
theorem gcdZ_bd (p q : Int) (hp : 1 ≤ p) (hq : 1 ≤ q) : (1 : Int) ≤ Int.gcd p q ∧ (Int.gcd p q : Int) ≤ p ∧ (Int.gcd p q : Int) ≤ q := by
  have h1 : Int.gcd p q ∣ p.natAbs := Nat.gcd_dvd_left _ _
  have h2 : Int.gcd p q ∣ q.natAbs := Nat.gcd_dvd_right _ _
  have h3 := Nat.le_of_dvd (by omega) h1
  have h4 := Nat.le_of_dvd (by omega) h2
  have h5 : Int.gcd p q ≠ 0 := by
    intro h; rw [h] at h1; have := Nat.eq_zero_of_zero_dvd h1; omega
  omega
/-- the remainder of the difference of both offsets -/
def shR (p o q u : Int) : Int := (u - o) % (Int.gcd p q : Int)
theorem l00Min_any (a b : Int) (w : World) :
    Calls Try.prog 55 #[.int .i64 a, .int .i64 b] w fun e w' => e = .returned (.int .i64 (min a b)) ∧ w = w' := by
  by_cases h : a < b
  · rw [show min a b = a by omega]
    go_enter Try.func55, Try.ntmps55
    go_wp2
    go_ret
    exact ⟨rfl, rfl⟩
  · rw [show min a b = b by omega]
    go_enter Try.func55, Try.ntmps55
    go_wp2
    go_ret
    exact ⟨rfl, rfl⟩
theorem remainderOf_any (n b : Int) (w : World) (hb : 1 ≤ b) (hb2 : b ≤ 1000000000000000000) (hn : -1000000000000000000 ≤ n) (hn2 : n ≤ 1000000000000000000) :
    Calls Try.prog 67 #[.int .i64 n, .int .i64 b] w fun e w' => e = .returned (.int .i64 (n % b)) ∧ w = w' := by
  obtain ⟨t0, t1, t2⟩ := tmod_bd n b (by omega)
  have h0 := Int.emod_nonneg n (show b ≠ 0 by omega)
  have h1 := Int.emod_lt_of_pos n (show 0 < b by omega)
  obtain ⟨R, hR⟩ : ∃ R, n % b = R := ⟨_, rfl⟩
  rw [hR] at h0 h1 t2 ⊢
  have hne : (b == 0) = false := by simp; omega
  have hn0 : ¬ b = 0 := by omega
  have w3 : IntKind.i64.wrap (n.tmod b + b) = n.tmod b + b := IntWalk.i64_in _ (by omega)
  have HR := Lib.hid hR
  clear hR
  go_enter Try.func67, Try.ntmps67
  go_wp2
  go_ret
  exact ⟨by first | rfl | rw [t2], rfl⟩
set_option maxHeartbeats 1000000 in
theorem specShift (p o q u : Int) (w : World) (hv : clkB p o = true) (hv2 : clkB q u = true) :
    Calls Try.prog 54 #[.agg #[.int .i64 p, .int .i64 o], .agg #[.int .i64 q, .int .i64 u]] w fun e w' => e = .returned (.tuple #[.int .i64 (Int.gcd p q : Int), .int .i64 (shR p o q u)]) ∧ Below w.heap.size w w' := by
  obtain ⟨⟨a1, a2⟩, a3, a4⟩ := clkB_iff.1 hv
  obtain ⟨⟨b1, b2⟩, b3, b4⟩ := clkB_iff.1 hv2
  obtain ⟨g1, g2, g3⟩ := gcdZ_bd p q a1 b1
  have HG := Lib.hid (fun w => specGcd p q w (by omega) (by omega) (by omega) (by omega))
  have hsh : shR p o q u = (u - o) % (Int.gcd p q : Int) := rfl
  obtain ⟨g, hg⟩ : ∃ g : Int, (Int.gcd p q : Int) = g := ⟨_, rfl⟩
  rw [hg] at HG g1 g2 g3 hsh ⊢
  have hne : (g == 0) = false := by simp; omega
  have hn0 : ¬ g = 0 := by omega
  have w1 : IntKind.i64.wrap (u - o) = u - o := IntWalk.i64_in _ (by omega)
  obtain ⟨R, hR⟩ : ∃ R, shR p o q u = R := ⟨_, rfl⟩
  have htw := tmod_two (u - o) g (by omega)
  have tb := tmod_bd (u - o) g (by omega)
  rw [← hsh, hR] at htw
  rw [hR]
  have w4 : IntKind.i64.wrap ((u - o).tmod g + g) = (u - o).tmod g + g := IntWalk.i64_in _ (by omega)
  clear hsh hR hg hv hv2
  have HT := Lib.hid htw
  clear htw tb
  rcases HT.out with ⟨c1, c2⟩ | ⟨c1, c2⟩
  · have HC := Lib.hid c2
    clear c2
    go_enter Try.func54, Try.ntmps54
    go_wp2_with fail
    refine (HG.out _).mono ?_; rintro e w' ⟨rfl, rfl⟩
    go_wp2
    refine bodyPost_ret (v := .tuple #[.int .i64 g, .int .i64 ((u - o).tmod g + g)]) (by simp [results, Try.results54, go_sem]) rfl ⟨by rw [HC.out], ?_⟩
    exact (bel_alloc w _).alloc (by simp) _
  · have HC := Lib.hid c2
    have c3 : ¬ (u - o).tmod g < 0 := by omega
    clear c2
    go_enter Try.func54, Try.ntmps54
    go_wp2_with fail
    refine (HG.out _).mono ?_; rintro e w' ⟨rfl, rfl⟩
    go_wp2
    refine bodyPost_ret (v := .tuple #[.int .i64 g, .int .i64 ((u - o).tmod g)]) (by simp [results, Try.results54, go_sem]) rfl ⟨by rw [HC.out], ?_⟩
    exact (bel_alloc w _).alloc (by simp) _
set_option maxHeartbeats 1000000 in
theorem implShift (p o q u : Int) (w : World) (hv : clkB p o = true) (hv2 : clkB q u = true) :
    Calls Try.prog 56 #[.agg #[.int .i64 p, .int .i64 o], .agg #[.int .i64 q, .int .i64 u]] w fun e w' => e = .returned (.tuple #[.int .i64 (Int.gcd p q : Int), .int .i64 (shR p o q u)]) ∧ Below w.heap.size w w' := by
  obtain ⟨⟨a1, a2⟩, a3, a4⟩ := clkB_iff.1 hv
  obtain ⟨⟨b1, b2⟩, b3, b4⟩ := clkB_iff.1 hv2
  obtain ⟨g1, g2, g3⟩ := gcdZ_bd p q a1 b1
  have HG := Lib.hid (fun w => implGcd p q w (by omega) (by omega) (by omega) (by omega))
  have HR := Lib.hid (fun w => remainderOf_any (u - o) (Int.gcd p q : Int) w g1 (by omega) (by omega) (by omega))
  have hsh : shR p o q u = (u - o) % (Int.gcd p q : Int) := rfl
  rw [← hsh] at HR
  obtain ⟨g, hg⟩ : ∃ g : Int, (Int.gcd p q : Int) = g := ⟨_, rfl⟩
  rw [hg] at HG HR ⊢
  obtain ⟨R, hR⟩ : ∃ R, shR p o q u = R := ⟨_, rfl⟩
  rw [hR] at HR ⊢
  have w1 : IntKind.i64.wrap (u - o) = u - o := IntWalk.i64_in _ (by omega)
  clear hsh hR hg hv hv2 g1 g2 g3
  go_enter Try.func56, Try.ntmps56
  go_wp2_with fail
  refine (HG.out _).mono ?_; rintro e w' ⟨rfl, n, rfl⟩
  have A1 := ((CkAt.new w p o 25).alloc (.cells #[.int .i64 q, .int .i64 u] 25)).drewN n
  have Q1 := (CkAt.new (w.alloc (.cells #[.int .i64 p, .int .i64 o] 25)) q u 25).drewN n
  simp only [World.size_alloc] at Q1
  obtain ⟨-, c10, c11⟩ := A1
  obtain ⟨-, d10, d11⟩ := Q1
  go_wp2_with fail
  refine (HR.out _).mono ?_; rintro e w' ⟨rfl, rfl⟩
  go_wp2
  refine bodyPost_ret (v := .tuple #[.int .i64 g, .int .i64 R]) (by simp [results, Try.results56, go_sem]) rfl ⟨rfl, ?_⟩
  exact below_drk ((bel_alloc w _).alloc (by simp) _) _
theorem specLeastGap_v (p o q u : Int) (w : World) (hv : clkB p o = false) :
    Calls Try.prog 24 #[.agg #[.int .i64 p, .int .i64 o], .agg #[.int .i64 q, .int .i64 u]] w fun e w' => e = .returned (.tuple #[.int .i64 0, .bool false]) ∧ Below w.heap.size w w' := by
  have HV := Lib.hid hv
  clear hv
  go_enter Try.func24, Try.ntmps24
  go_wp2_with fail
  refine (l10Is_any p o _).mono ?_; rw [HV.out]; rintro e w1 ⟨rfl, hb1⟩
  have HB1 := Lib.hid (((bel_alloc w _).alloc (by simp) _).trans (hb1.mono (by simp; omega)))
  have A1 := Lib.hid (((CkAt.new w p o _).alloc _).call hb1)
  have Q1 := Lib.hid ((CkAt.new _ q u _).call hb1)
  simp only [World.size_alloc] at Q1
  obtain ⟨-, c10, c11⟩ := A1.out
  obtain ⟨-, d10, d11⟩ := Q1.out
  clear hb1
  go_wp2
  go_ret2
  exact ⟨rfl, HB1.out⟩
theorem specLeastGap_w (p o q u : Int) (w : World) (hv : clkB p o = true) (hv2 : clkB q u = false) :
    Calls Try.prog 24 #[.agg #[.int .i64 p, .int .i64 o], .agg #[.int .i64 q, .int .i64 u]] w fun e w' => e = .returned (.tuple #[.int .i64 0, .bool false]) ∧ Below w.heap.size w w' := by
  have HV := Lib.hid hv
  have HV2 := Lib.hid hv2
  clear hv hv2
  go_enter Try.func24, Try.ntmps24
  go_wp2_with fail
  refine (l10Is_any p o _).mono ?_; rw [HV.out]; rintro e w1 ⟨rfl, hb1⟩
  have HB1 := Lib.hid (((bel_alloc w _).alloc (by simp) _).trans (hb1.mono (by simp; omega)))
  have A1 := Lib.hid (((CkAt.new w p o _).alloc _).call hb1)
  have Q1 := Lib.hid ((CkAt.new _ q u _).call hb1)
  simp only [World.size_alloc] at Q1
  obtain ⟨-, c10, c11⟩ := A1.out
  obtain ⟨-, d10, d11⟩ := Q1.out
  clear hb1
  go_wp2_with fail
  refine (l10Is_any q u _).mono ?_; rw [HV2.out]; rintro e w2 ⟨rfl, hb2⟩
  have HB2 := Lib.hid (bel_call HB1.out hb2)
  have A2 := Lib.hid (A1.out.call hb2)
  have Q2 := Lib.hid (Q1.out.call hb2)
  obtain ⟨-, c20, c21⟩ := A2.out
  obtain ⟨-, d20, d21⟩ := Q2.out
  clear hb2 c10 c11 d10 d11
  go_wp2
  go_ret2
  exact ⟨rfl, HB2.out⟩
set_option maxHeartbeats 1000000 in
theorem specLeastGap_t (p o q u : Int) (w : World) (hv : clkB p o = true) (hv2 : clkB q u = true) :
    Calls Try.prog 24 #[.agg #[.int .i64 p, .int .i64 o], .agg #[.int .i64 q, .int .i64 u]] w fun e w' => e = .returned (.tuple #[.int .i64 (min (shR p o q u) ((Int.gcd p q : Int) - shR p o q u)), .bool true]) ∧ Below w.heap.size w w' := by
  have HV := Lib.hid hv
  have HV2 := Lib.hid hv2
  have HS := Lib.hid (fun w => specShift p o q u w hv hv2)
  obtain ⟨⟨a1, a2⟩, a3, a4⟩ := clkB_iff.1 hv
  obtain ⟨⟨b1, b2⟩, b3, b4⟩ := clkB_iff.1 hv2
  obtain ⟨g1, g2, g3⟩ := gcdZ_bd p q a1 b1
  have r0 : 0 ≤ shR p o q u := Int.emod_nonneg _ (by omega)
  have r1 : shR p o q u < (Int.gcd p q : Int) := Int.emod_lt_of_pos _ (by omega)
  obtain ⟨g, hg⟩ : ∃ g : Int, (Int.gcd p q : Int) = g := ⟨_, rfl⟩
  obtain ⟨R, hR⟩ : ∃ R, shR p o q u = R := ⟨_, rfl⟩
  rw [hg, hR] at HS r1 ⊢
  rw [hg] at g1 g2 g3
  rw [hR] at r0
  clear hg hR hv hv2
  have w1 : IntKind.i64.wrap (g - R) = g - R := IntWalk.i64_in _ (by omega)
  go_enter Try.func24, Try.ntmps24
  go_wp2_with fail
  refine (l10Is_any p o _).mono ?_; rw [HV.out]; rintro e w1 ⟨rfl, hb1⟩
  have HB1 := Lib.hid (((bel_alloc w _).alloc (by simp) _).trans (hb1.mono (by simp; omega)))
  have A1 := Lib.hid (((CkAt.new w p o _).alloc _).call hb1)
  have Q1 := Lib.hid ((CkAt.new _ q u _).call hb1)
  simp only [World.size_alloc] at Q1
  obtain ⟨-, c10, c11⟩ := A1.out
  obtain ⟨-, d10, d11⟩ := Q1.out
  clear hb1
  go_wp2_with fail
  refine (l10Is_any q u _).mono ?_; rw [HV2.out]; rintro e w2 ⟨rfl, hb2⟩
  have HB2 := Lib.hid (bel_call HB1.out hb2)
  have A2 := Lib.hid (A1.out.call hb2)
  have Q2 := Lib.hid (Q1.out.call hb2)
  obtain ⟨-, c20, c21⟩ := A2.out
  obtain ⟨-, d20, d21⟩ := Q2.out
  clear hb2 c10 c11 d10 d11
  go_wp2_with fail
  refine (HS.out _).mono ?_; rintro e w3 ⟨rfl, hb3⟩
  have HB3 := Lib.hid (bel_call HB2.out hb3)
  have Q3 := Lib.hid (Q2.out.call hb3)
  obtain ⟨-, d30, d31⟩ := Q3.out
  clear hb3
  go_wp2_with fail
  refine (l00Min_any _ _ _).mono ?_; rintro e w' ⟨rfl, rfl⟩
  go_wp2
  go_ret2
  exact ⟨rfl, HB3.out⟩
theorem implLeastGap_v (p o q u : Int) (w : World) (hv : clkB p o = false) :
    Calls Try.prog 25 #[.agg #[.int .i64 p, .int .i64 o], .agg #[.int .i64 q, .int .i64 u]] w fun e w' => e = .returned (.tuple #[.int .i64 0, .bool false]) ∧ Below w.heap.size w w' := by
  have HV := Lib.hid hv
  clear hv
  go_enter Try.func25, Try.ntmps25
  go_wp2_with fail
  refine (implVC_any p o _).mono ?_; rw [HV.out]; rintro e w1 ⟨rfl, hb1⟩
  have HB1 := Lib.hid (((bel_alloc w _).alloc (by simp) _).trans (hb1.mono (by simp; omega)))
  have A1 := Lib.hid (((CkAt.new w p o _).alloc _).call hb1)
  have Q1 := Lib.hid ((CkAt.new _ q u _).call hb1)
  simp only [World.size_alloc] at Q1
  obtain ⟨-, c10, c11⟩ := A1.out
  obtain ⟨-, d10, d11⟩ := Q1.out
  clear hb1
  go_wp2
  go_ret2
  exact ⟨rfl, HB1.out⟩
theorem implLeastGap_w (p o q u : Int) (w : World) (hv : clkB p o = true) (hv2 : clkB q u = false) :
    Calls Try.prog 25 #[.agg #[.int .i64 p, .int .i64 o], .agg #[.int .i64 q, .int .i64 u]] w fun e w' => e = .returned (.tuple #[.int .i64 0, .bool false]) ∧ Below w.heap.size w w' := by
  have HV := Lib.hid hv
  have HV2 := Lib.hid hv2
  clear hv hv2
  go_enter Try.func25, Try.ntmps25
  go_wp2_with fail
  refine (implVC_any p o _).mono ?_; rw [HV.out]; rintro e w1 ⟨rfl, hb1⟩
  have HB1 := Lib.hid (((bel_alloc w _).alloc (by simp) _).trans (hb1.mono (by simp; omega)))
  have A1 := Lib.hid (((CkAt.new w p o _).alloc _).call hb1)
  have Q1 := Lib.hid ((CkAt.new _ q u _).call hb1)
  simp only [World.size_alloc] at Q1
  obtain ⟨-, c10, c11⟩ := A1.out
  obtain ⟨-, d10, d11⟩ := Q1.out
  clear hb1
  go_wp2_with fail
  refine (implVC_any q u _).mono ?_; rw [HV2.out]; rintro e w2 ⟨rfl, hb2⟩
  have HB2 := Lib.hid (bel_call HB1.out hb2)
  have A2 := Lib.hid (A1.out.call hb2)
  have Q2 := Lib.hid (Q1.out.call hb2)
  obtain ⟨-, c20, c21⟩ := A2.out
  obtain ⟨-, d20, d21⟩ := Q2.out
  clear hb2 c10 c11 d10 d11
  go_wp2
  go_ret2
  exact ⟨rfl, HB2.out⟩
set_option maxHeartbeats 1000000 in
theorem implLeastGap_t (p o q u : Int) (w : World) (hv : clkB p o = true) (hv2 : clkB q u = true) :
    Calls Try.prog 25 #[.agg #[.int .i64 p, .int .i64 o], .agg #[.int .i64 q, .int .i64 u]] w fun e w' => e = .returned (.tuple #[.int .i64 (min (shR p o q u) ((Int.gcd p q : Int) - shR p o q u)), .bool true]) ∧ Below w.heap.size w w' := by
  have HV := Lib.hid hv
  have HV2 := Lib.hid hv2
  have HS := Lib.hid (fun w => implShift p o q u w hv hv2)
  obtain ⟨⟨a1, a2⟩, a3, a4⟩ := clkB_iff.1 hv
  obtain ⟨⟨b1, b2⟩, b3, b4⟩ := clkB_iff.1 hv2
  obtain ⟨g1, g2, g3⟩ := gcdZ_bd p q a1 b1
  have r0 : 0 ≤ shR p o q u := Int.emod_nonneg _ (by omega)
  have r1 : shR p o q u < (Int.gcd p q : Int) := Int.emod_lt_of_pos _ (by omega)
  obtain ⟨g, hg⟩ : ∃ g : Int, (Int.gcd p q : Int) = g := ⟨_, rfl⟩
  obtain ⟨R, hR⟩ : ∃ R, shR p o q u = R := ⟨_, rfl⟩
  rw [hg, hR] at HS r1 ⊢
  rw [hg] at g1 g2 g3
  rw [hR] at r0
  clear hg hR hv hv2
  have w1 : IntKind.i64.wrap (g - R) = g - R := IntWalk.i64_in _ (by omega)
  rcases (show (R ≤ g - R ∧ min R (g - R) = R) ∨ (¬ R ≤ g - R ∧ min R (g - R) = g - R) by omega) with ⟨hx, hm⟩ | ⟨hx, hm⟩
  all_goals rw [hm]
  all_goals clear hm
  all_goals first | (have hx2 : ¬ g - R < R := by omega) | (have hx2 : g - R < R := by omega)
  all_goals
    go_enter Try.func25, Try.ntmps25
    go_wp2_with fail
    refine (implVC_any p o _).mono ?_; rw [HV.out]; rintro e w1 ⟨rfl, hb1⟩
    have HB1 := Lib.hid (((bel_alloc w _).alloc (by simp) _).trans (hb1.mono (by simp; omega)))
    have A1 := Lib.hid (((CkAt.new w p o _).alloc _).call hb1)
    have Q1 := Lib.hid ((CkAt.new _ q u _).call hb1)
    simp only [World.size_alloc] at Q1
    obtain ⟨-, c10, c11⟩ := A1.out
    obtain ⟨-, d10, d11⟩ := Q1.out
    clear hb1
    go_wp2_with fail
    refine (implVC_any q u _).mono ?_; rw [HV2.out]; rintro e w2 ⟨rfl, hb2⟩
    have HB2 := Lib.hid (bel_call HB1.out hb2)
    have A2 := Lib.hid (A1.out.call hb2)
    have Q2 := Lib.hid (Q1.out.call hb2)
    obtain ⟨-, c20, c21⟩ := A2.out
    obtain ⟨-, d20, d21⟩ := Q2.out
    clear hb2 c10 c11 d10 d11
    go_wp2_with fail
    refine (HS.out _).mono ?_; rintro e w3 ⟨rfl, hb3⟩
    have HB3 := Lib.hid (bel_call HB2.out hb3)
    have Q3 := Lib.hid (Q2.out.call hb3)
    obtain ⟨-, d30, d31⟩ := Q3.out
    clear hb3
    go_wp2
    go_ret2
    exact ⟨rfl, HB3.out⟩
theorem specLongestWait_v (p o q u : Int) (w : World) (hv : clkB p o = false) :
    Calls Try.prog 26 #[.agg #[.int .i64 p, .int .i64 o], .agg #[.int .i64 q, .int .i64 u]] w fun e w' => e = .returned (.tuple #[.int .i64 0, .bool false]) ∧ Below w.heap.size w w' := by
  have HV := Lib.hid hv
  clear hv
  go_enter Try.func26, Try.ntmps26
  go_wp2_with fail
  refine (l10Is_any p o _).mono ?_; rw [HV.out]; rintro e w1 ⟨rfl, hb1⟩
  have HB1 := Lib.hid (((bel_alloc w _).alloc (by simp) _).trans (hb1.mono (by simp; omega)))
  have A1 := Lib.hid (((CkAt.new w p o _).alloc _).call hb1)
  have Q1 := Lib.hid ((CkAt.new _ q u _).call hb1)
  simp only [World.size_alloc] at Q1
  obtain ⟨-, c10, c11⟩ := A1.out
  obtain ⟨-, d10, d11⟩ := Q1.out
  clear hb1
  go_wp2
  go_ret2
  exact ⟨rfl, HB1.out⟩
theorem specLongestWait_w (p o q u : Int) (w : World) (hv : clkB p o = true) (hv2 : clkB q u = false) :
    Calls Try.prog 26 #[.agg #[.int .i64 p, .int .i64 o], .agg #[.int .i64 q, .int .i64 u]] w fun e w' => e = .returned (.tuple #[.int .i64 0, .bool false]) ∧ Below w.heap.size w w' := by
  have HV := Lib.hid hv
  have HV2 := Lib.hid hv2
  clear hv hv2
  go_enter Try.func26, Try.ntmps26
  go_wp2_with fail
  refine (l10Is_any p o _).mono ?_; rw [HV.out]; rintro e w1 ⟨rfl, hb1⟩
  have HB1 := Lib.hid (((bel_alloc w _).alloc (by simp) _).trans (hb1.mono (by simp; omega)))
  have A1 := Lib.hid (((CkAt.new w p o _).alloc _).call hb1)
  have Q1 := Lib.hid ((CkAt.new _ q u _).call hb1)
  simp only [World.size_alloc] at Q1
  obtain ⟨-, c10, c11⟩ := A1.out
  obtain ⟨-, d10, d11⟩ := Q1.out
  clear hb1
  go_wp2_with fail
  refine (l10Is_any q u _).mono ?_; rw [HV2.out]; rintro e w2 ⟨rfl, hb2⟩
  have HB2 := Lib.hid (bel_call HB1.out hb2)
  have A2 := Lib.hid (A1.out.call hb2)
  have Q2 := Lib.hid (Q1.out.call hb2)
  obtain ⟨-, c20, c21⟩ := A2.out
  obtain ⟨-, d20, d21⟩ := Q2.out
  clear hb2 c10 c11 d10 d11
  go_wp2
  go_ret2
  exact ⟨rfl, HB2.out⟩
set_option maxHeartbeats 1000000 in
theorem specLongestWait_t (p o q u : Int) (w : World) (hv : clkB p o = true) (hv2 : clkB q u = true) :
    Calls Try.prog 26 #[.agg #[.int .i64 p, .int .i64 o], .agg #[.int .i64 q, .int .i64 u]] w fun e w' => e = .returned (.tuple #[.int .i64 (q - (Int.gcd p q : Int) + shR p o q u), .bool true]) ∧ Below w.heap.size w w' := by
  have HV := Lib.hid hv
  have HV2 := Lib.hid hv2
  have HS := Lib.hid (fun w => specShift p o q u w hv hv2)
  obtain ⟨⟨a1, a2⟩, a3, a4⟩ := clkB_iff.1 hv
  obtain ⟨⟨b1, b2⟩, b3, b4⟩ := clkB_iff.1 hv2
  obtain ⟨g1, g2, g3⟩ := gcdZ_bd p q a1 b1
  have r0 : 0 ≤ shR p o q u := Int.emod_nonneg _ (by omega)
  have r1 : shR p o q u < (Int.gcd p q : Int) := Int.emod_lt_of_pos _ (by omega)
  obtain ⟨g, hg⟩ : ∃ g : Int, (Int.gcd p q : Int) = g := ⟨_, rfl⟩
  obtain ⟨R, hR⟩ : ∃ R, shR p o q u = R := ⟨_, rfl⟩
  rw [hg, hR] at HS r1 ⊢
  rw [hg] at g1 g2 g3
  rw [hR] at r0
  clear hg hR hv hv2
  have w1 : IntKind.i64.wrap (q - g) = q - g := IntWalk.i64_in _ (by omega)
  have w2 : IntKind.i64.wrap (q - g + R) = q - g + R := IntWalk.i64_in _ (by omega)
  go_enter Try.func26, Try.ntmps26
  go_wp2_with fail
  refine (l10Is_any p o _).mono ?_; rw [HV.out]; rintro e w1 ⟨rfl, hb1⟩
  have HB1 := Lib.hid (((bel_alloc w _).alloc (by simp) _).trans (hb1.mono (by simp; omega)))
  have A1 := Lib.hid (((CkAt.new w p o _).alloc _).call hb1)
  have Q1 := Lib.hid ((CkAt.new _ q u _).call hb1)
  simp only [World.size_alloc] at Q1
  obtain ⟨-, c10, c11⟩ := A1.out
  obtain ⟨-, d10, d11⟩ := Q1.out
  clear hb1
  go_wp2_with fail
  refine (l10Is_any q u _).mono ?_; rw [HV2.out]; rintro e w2 ⟨rfl, hb2⟩
  have HB2 := Lib.hid (bel_call HB1.out hb2)
  have A2 := Lib.hid (A1.out.call hb2)
  have Q2 := Lib.hid (Q1.out.call hb2)
  obtain ⟨-, c20, c21⟩ := A2.out
  obtain ⟨-, d20, d21⟩ := Q2.out
  clear hb2 c10 c11 d10 d11
  go_wp2_with fail
  refine (HS.out _).mono ?_; rintro e w3 ⟨rfl, hb3⟩
  have HB3 := Lib.hid (bel_call HB2.out hb3)
  have Q3 := Lib.hid (Q2.out.call hb3)
  obtain ⟨-, d30, d31⟩ := Q3.out
  clear hb3
  go_wp2
  go_ret2
  exact ⟨rfl, HB3.out⟩
theorem implLongestWait_v (p o q u : Int) (w : World) (hv : clkB p o = false) :
    Calls Try.prog 27 #[.agg #[.int .i64 p, .int .i64 o], .agg #[.int .i64 q, .int .i64 u]] w fun e w' => e = .returned (.tuple #[.int .i64 0, .bool false]) ∧ Below w.heap.size w w' := by
  have HV := Lib.hid hv
  clear hv
  go_enter Try.func27, Try.ntmps27
  go_wp2_with fail
  refine (implVC_any p o _).mono ?_; rw [HV.out]; rintro e w1 ⟨rfl, hb1⟩
  have HB1 := Lib.hid (((bel_alloc w _).alloc (by simp) _).trans (hb1.mono (by simp; omega)))
  have A1 := Lib.hid (((CkAt.new w p o _).alloc _).call hb1)
  have Q1 := Lib.hid ((CkAt.new _ q u _).call hb1)
  simp only [World.size_alloc] at Q1
  obtain ⟨-, c10, c11⟩ := A1.out
  obtain ⟨-, d10, d11⟩ := Q1.out
  clear hb1
  go_wp2
  go_ret2
  exact ⟨rfl, HB1.out⟩
theorem implLongestWait_w (p o q u : Int) (w : World) (hv : clkB p o = true) (hv2 : clkB q u = false) :
    Calls Try.prog 27 #[.agg #[.int .i64 p, .int .i64 o], .agg #[.int .i64 q, .int .i64 u]] w fun e w' => e = .returned (.tuple #[.int .i64 0, .bool false]) ∧ Below w.heap.size w w' := by
  have HV := Lib.hid hv
  have HV2 := Lib.hid hv2
  clear hv hv2
  go_enter Try.func27, Try.ntmps27
  go_wp2_with fail
  refine (implVC_any p o _).mono ?_; rw [HV.out]; rintro e w1 ⟨rfl, hb1⟩
  have HB1 := Lib.hid (((bel_alloc w _).alloc (by simp) _).trans (hb1.mono (by simp; omega)))
  have A1 := Lib.hid (((CkAt.new w p o _).alloc _).call hb1)
  have Q1 := Lib.hid ((CkAt.new _ q u _).call hb1)
  simp only [World.size_alloc] at Q1
  obtain ⟨-, c10, c11⟩ := A1.out
  obtain ⟨-, d10, d11⟩ := Q1.out
  clear hb1
  go_wp2_with fail
  refine (implVC_any q u _).mono ?_; rw [HV2.out]; rintro e w2 ⟨rfl, hb2⟩
  have HB2 := Lib.hid (bel_call HB1.out hb2)
  have A2 := Lib.hid (A1.out.call hb2)
  have Q2 := Lib.hid (Q1.out.call hb2)
  obtain ⟨-, c20, c21⟩ := A2.out
  obtain ⟨-, d20, d21⟩ := Q2.out
  clear hb2 c10 c11 d10 d11
  go_wp2
  go_ret2
  exact ⟨rfl, HB2.out⟩
set_option maxHeartbeats 1000000 in
theorem implLongestWait_t (p o q u : Int) (w : World) (hv : clkB p o = true) (hv2 : clkB q u = true) :
    Calls Try.prog 27 #[.agg #[.int .i64 p, .int .i64 o], .agg #[.int .i64 q, .int .i64 u]] w fun e w' => e = .returned (.tuple #[.int .i64 (q - (Int.gcd p q : Int) + shR p o q u), .bool true]) ∧ Below w.heap.size w w' := by
  have HV := Lib.hid hv
  have HV2 := Lib.hid hv2
  have HS := Lib.hid (fun w => implShift p o q u w hv hv2)
  obtain ⟨⟨a1, a2⟩, a3, a4⟩ := clkB_iff.1 hv
  obtain ⟨⟨b1, b2⟩, b3, b4⟩ := clkB_iff.1 hv2
  obtain ⟨g1, g2, g3⟩ := gcdZ_bd p q a1 b1
  have r0 : 0 ≤ shR p o q u := Int.emod_nonneg _ (by omega)
  have r1 : shR p o q u < (Int.gcd p q : Int) := Int.emod_lt_of_pos _ (by omega)
  obtain ⟨g, hg⟩ : ∃ g : Int, (Int.gcd p q : Int) = g := ⟨_, rfl⟩
  obtain ⟨R, hR⟩ : ∃ R, shR p o q u = R := ⟨_, rfl⟩
  rw [hg, hR] at HS r1 ⊢
  rw [hg] at g1 g2 g3
  rw [hR] at r0
  clear hg hR hv hv2
  have w1 : IntKind.i64.wrap (q - g) = q - g := IntWalk.i64_in _ (by omega)
  have w2 : IntKind.i64.wrap (q - g + R) = q - g + R := IntWalk.i64_in _ (by omega)
  go_enter Try.func27, Try.ntmps27
  go_wp2_with fail
  refine (implVC_any p o _).mono ?_; rw [HV.out]; rintro e w1 ⟨rfl, hb1⟩
  have HB1 := Lib.hid (((bel_alloc w _).alloc (by simp) _).trans (hb1.mono (by simp; omega)))
  have A1 := Lib.hid (((CkAt.new w p o _).alloc _).call hb1)
  have Q1 := Lib.hid ((CkAt.new _ q u _).call hb1)
  simp only [World.size_alloc] at Q1
  obtain ⟨-, c10, c11⟩ := A1.out
  obtain ⟨-, d10, d11⟩ := Q1.out
  clear hb1
  go_wp2_with fail
  refine (implVC_any q u _).mono ?_; rw [HV2.out]; rintro e w2 ⟨rfl, hb2⟩
  have HB2 := Lib.hid (bel_call HB1.out hb2)
  have A2 := Lib.hid (A1.out.call hb2)
  have Q2 := Lib.hid (Q1.out.call hb2)
  obtain ⟨-, c20, c21⟩ := A2.out
  obtain ⟨-, d20, d21⟩ := Q2.out
  clear hb2 c10 c11 d10 d11
  go_wp2_with fail
  refine (HS.out _).mono ?_; rintro e w3 ⟨rfl, hb3⟩
  have HB3 := Lib.hid (bel_call HB2.out hb3)
  have Q3 := Lib.hid (Q2.out.call hb3)
  obtain ⟨-, d30, d31⟩ := Q3.out
  clear hb3
  go_wp2
  go_ret2
  exact ⟨rfl, HB3.out⟩
set_option maxHeartbeats 1000000 in
theorem walk_FnExactLeastGap (p o q u : Int) (w : World) (_wp : (Lit.int .i64 p).wf = true) (_wo : (Lit.int .i64 o).wf = true) (_wq : (Lit.int .i64 q).wf = true) (_wu : (Lit.int .i64 u).wf = true) :
    Calls Try.prog 7 #[.agg #[.int .i64 p, .int .i64 o], .agg #[.int .i64 q, .int .i64 u]] w fun e w' => e = .returned (.bool true) ∧ Below w.heap.size w w' := by
  obtain ⟨r, c, hS, hI⟩ : ∃ (r : Int) (c : Bool), (∀ w, Calls Try.prog 24 #[.agg #[.int .i64 p, .int .i64 o], .agg #[.int .i64 q, .int .i64 u]] w fun e w' => e = .returned (.tuple #[.int .i64 r, .bool c]) ∧ Below w.heap.size w w') ∧ (∀ w, Calls Try.prog 25 #[.agg #[.int .i64 p, .int .i64 o], .agg #[.int .i64 q, .int .i64 u]] w fun e w' => e = .returned (.tuple #[.int .i64 r, .bool c]) ∧ Below w.heap.size w w') := by
    cases hv : clkB p o with
    | false => exact ⟨_, _, fun w => specLeastGap_v p o q u w hv, fun w => implLeastGap_v p o q u w hv⟩
    | true =>
      cases hv2 : clkB q u with
      | false => exact ⟨_, _, fun w => specLeastGap_w p o q u w hv hv2, fun w => implLeastGap_w p o q u w hv hv2⟩
      | true => exact ⟨_, _, fun w => specLeastGap_t p o q u w hv hv2, fun w => implLeastGap_t p o q u w hv hv2⟩
  have HS := Lib.hid hS
  have HI := Lib.hid hI
  clear hS hI
  go_enter Try.func7, Try.ntmps7
  have A0 := (CkAt.new w p o 23).alloc (.cells #[.int .i64 q, .int .i64 u] 23)
  have Q0 := CkAt.new (w.alloc (.cells #[.int .i64 p, .int .i64 o] 23)) q u 23
  simp only [World.size_alloc] at Q0
  obtain ⟨-, c00, c01⟩ := A0
  obtain ⟨-, d00, d01⟩ := Q0
  have hD0 : CkDn w ((w.alloc (.cells #[.int .i64 p, .int .i64 o] 23)).alloc (.cells #[.int .i64 q, .int .i64 u] 23)) := (bel_alloc w _).alloc (by simp) _
  go_wp2
  go_region_held3 (fun W => W.cell? ⟨w.heap.size, 0, none⟩ = some (.int .i64 p) ∧ W.cell? ⟨w.heap.size, 1, none⟩ = some (.int .i64 o) ∧ W.cell? ⟨w.heap.size + 1, 0, none⟩ = some (.int .i64 q) ∧ W.cell? ⟨w.heap.size + 1, 1, none⟩ = some (.int .i64 u) ∧ CkDn w W) (first | (go_split_ands; (refine ⟨?_, ?_, ?_, ?_, ?_⟩ <;> (first | (with_reducible assumption) | ((with_reducible apply cell_keptK) <;> (with_reducible assumption)) | ((with_reducible refine cell_drK ?_); (with_reducible assumption)) | ((with_reducible refine CkDn.dr ?_); (with_reducible assumption)) | ((with_reducible apply CkDn.call) <;> (with_reducible assumption)))))) (first | (go_at_call 16; first | ((with_reducible refine (toCk_any p o _).mono ?_); rintro e wa ⟨rfl, hba⟩) | ((with_reducible refine (toCk_any q u _).mono ?_); rintro e wb ⟨rfl, hbb⟩)) | (go_at_call 24; (with_reducible refine (HS.out _).mono ?_); rintro e wc ⟨rfl, hbc⟩))
  all_goals
    rename_i hHeld
    obtain ⟨e0, e1, e2, e3, hD1⟩ := hHeld
    go_wp2
    go_region_held3 (fun W => W.cell? ⟨w.heap.size, 0, none⟩ = some (.int .i64 p) ∧ W.cell? ⟨w.heap.size, 1, none⟩ = some (.int .i64 o) ∧ W.cell? ⟨w.heap.size + 1, 0, none⟩ = some (.int .i64 q) ∧ W.cell? ⟨w.heap.size + 1, 1, none⟩ = some (.int .i64 u) ∧ CkDn w W) (first | (go_split_ands; (refine ⟨?_, ?_, ?_, ?_, ?_⟩ <;> (first | (with_reducible assumption) | ((with_reducible apply cell_keptK) <;> (with_reducible assumption)) | ((with_reducible refine cell_drK ?_); (with_reducible assumption)) | ((with_reducible refine CkDn.dr ?_); (with_reducible assumption)) | ((with_reducible apply CkDn.call) <;> (with_reducible assumption)))))) (first | (go_at_call 16; first | ((with_reducible refine (toCk_any p o _).mono ?_); rintro e wa ⟨rfl, hba⟩) | ((with_reducible refine (toCk_any q u _).mono ?_); rintro e wb ⟨rfl, hbb⟩)) | (go_at_call 25; (with_reducible refine (HI.out _).mono ?_); rintro e wc ⟨rfl, hbc⟩))
    all_goals
      rename_i hHeld2
      have HD2 := Lib.hid hHeld2.2.2.2.2
      clear hHeld2
      go_wp2
      go_ret
      exact ⟨rfl, HD2.out⟩
set_option maxHeartbeats 1000000 in
theorem walk_FnExactLongestWait (p o q u : Int) (w : World) (_wp : (Lit.int .i64 p).wf = true) (_wo : (Lit.int .i64 o).wf = true) (_wq : (Lit.int .i64 q).wf = true) (_wu : (Lit.int .i64 u).wf = true) :
    Calls Try.prog 8 #[.agg #[.int .i64 p, .int .i64 o], .agg #[.int .i64 q, .int .i64 u]] w fun e w' => e = .returned (.bool true) ∧ Below w.heap.size w w' := by
  obtain ⟨r, c, hS, hI⟩ : ∃ (r : Int) (c : Bool), (∀ w, Calls Try.prog 26 #[.agg #[.int .i64 p, .int .i64 o], .agg #[.int .i64 q, .int .i64 u]] w fun e w' => e = .returned (.tuple #[.int .i64 r, .bool c]) ∧ Below w.heap.size w w') ∧ (∀ w, Calls Try.prog 27 #[.agg #[.int .i64 p, .int .i64 o], .agg #[.int .i64 q, .int .i64 u]] w fun e w' => e = .returned (.tuple #[.int .i64 r, .bool c]) ∧ Below w.heap.size w w') := by
    cases hv : clkB p o with
    | false => exact ⟨_, _, fun w => specLongestWait_v p o q u w hv, fun w => implLongestWait_v p o q u w hv⟩
    | true =>
      cases hv2 : clkB q u with
      | false => exact ⟨_, _, fun w => specLongestWait_w p o q u w hv hv2, fun w => implLongestWait_w p o q u w hv hv2⟩
      | true => exact ⟨_, _, fun w => specLongestWait_t p o q u w hv hv2, fun w => implLongestWait_t p o q u w hv hv2⟩
  have HS := Lib.hid hS
  have HI := Lib.hid hI
  clear hS hI
  go_enter Try.func8, Try.ntmps8
  have A0 := (CkAt.new w p o 23).alloc (.cells #[.int .i64 q, .int .i64 u] 23)
  have Q0 := CkAt.new (w.alloc (.cells #[.int .i64 p, .int .i64 o] 23)) q u 23
  simp only [World.size_alloc] at Q0
  obtain ⟨-, c00, c01⟩ := A0
  obtain ⟨-, d00, d01⟩ := Q0
  have hD0 : CkDn w ((w.alloc (.cells #[.int .i64 p, .int .i64 o] 23)).alloc (.cells #[.int .i64 q, .int .i64 u] 23)) := (bel_alloc w _).alloc (by simp) _
  go_wp2
  go_region_held3 (fun W => W.cell? ⟨w.heap.size, 0, none⟩ = some (.int .i64 p) ∧ W.cell? ⟨w.heap.size, 1, none⟩ = some (.int .i64 o) ∧ W.cell? ⟨w.heap.size + 1, 0, none⟩ = some (.int .i64 q) ∧ W.cell? ⟨w.heap.size + 1, 1, none⟩ = some (.int .i64 u) ∧ CkDn w W) (first | (go_split_ands; (refine ⟨?_, ?_, ?_, ?_, ?_⟩ <;> (first | (with_reducible assumption) | ((with_reducible apply cell_keptK) <;> (with_reducible assumption)) | ((with_reducible refine cell_drK ?_); (with_reducible assumption)) | ((with_reducible refine CkDn.dr ?_); (with_reducible assumption)) | ((with_reducible apply CkDn.call) <;> (with_reducible assumption)))))) (first | (go_at_call 16; first | ((with_reducible refine (toCk_any p o _).mono ?_); rintro e wa ⟨rfl, hba⟩) | ((with_reducible refine (toCk_any q u _).mono ?_); rintro e wb ⟨rfl, hbb⟩)) | (go_at_call 26; (with_reducible refine (HS.out _).mono ?_); rintro e wc ⟨rfl, hbc⟩))
  all_goals
    rename_i hHeld
    obtain ⟨e0, e1, e2, e3, hD1⟩ := hHeld
    go_wp2
    go_region_held3 (fun W => W.cell? ⟨w.heap.size, 0, none⟩ = some (.int .i64 p) ∧ W.cell? ⟨w.heap.size, 1, none⟩ = some (.int .i64 o) ∧ W.cell? ⟨w.heap.size + 1, 0, none⟩ = some (.int .i64 q) ∧ W.cell? ⟨w.heap.size + 1, 1, none⟩ = some (.int .i64 u) ∧ CkDn w W) (first | (go_split_ands; (refine ⟨?_, ?_, ?_, ?_, ?_⟩ <;> (first | (with_reducible assumption) | ((with_reducible apply cell_keptK) <;> (with_reducible assumption)) | ((with_reducible refine cell_drK ?_); (with_reducible assumption)) | ((with_reducible refine CkDn.dr ?_); (with_reducible assumption)) | ((with_reducible apply CkDn.call) <;> (with_reducible assumption)))))) (first | (go_at_call 16; first | ((with_reducible refine (toCk_any p o _).mono ?_); rintro e wa ⟨rfl, hba⟩) | ((with_reducible refine (toCk_any q u _).mono ?_); rintro e wb ⟨rfl, hbb⟩)) | (go_at_call 27; (with_reducible refine (HI.out _).mono ?_); rintro e wc ⟨rfl, hbc⟩))
    all_goals
      rename_i hHeld2
      have HD2 := Lib.hid hHeld2.2.2.2.2
      clear hHeld2
      go_wp2
      go_ret
      exact ⟨rfl, HD2.out⟩
end Go.Proofs.Ytafecdmcbpnniaa
