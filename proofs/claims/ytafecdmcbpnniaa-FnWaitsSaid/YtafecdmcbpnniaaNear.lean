/- The walk of a law: how many edges of a clock are near. -/
import Derived.Test.YtafecdmcbpnniaaGap2
import Derived.Test.YtafecdmcbpnniaaNearM
import Derived.BigQuiet
import Derived.Deep.QuietTactic
namespace Go.Proofs.Ytafecdmcbpnniaa
open Go.RowKit
set_option linter.unusedVariables false
theorem quiet_eqg {P : Program} {f : FuncId} {args : Array Value} {w : World} {n : Nat} {v : Value}
    (h : Calls P f args (w.drewN n) fun e w' => e = .returned v ∧ w.drewN n = w') : Calls P f args (w.drewN n) fun e w'' => e = .returned v ∧ ∃ m, w'' = w.drewN m :=
  h.mono fun _ _ ⟨he, hm⟩ => ⟨he, n, hm.symm⟩
/-- how many edges are near -/
def nearK (p o q u bf bh : Int) (k : Nat) : Nat := cntN (fun k => nearC p bf bh (lateZ p (u - o) q k)) k
def nearN (p q : Int) : Int := p / (Int.gcd p q : Int)
theorem near_eq (p o q u bf bh : Int) (hp : 1 ≤ p) (hq : 1 ≤ q) (h0 : 0 ≤ bf) (h1 : 0 ≤ bh) :
    ((nearK p o q u bf bh (nearN p q).toNat : Nat) : Int) = befZ (Int.gcd p q : Int) (shR p o q u) (min (bf + 1) p) + max (nearN p q - befZ (Int.gcd p q : Int) (shR p o q u) (max (p - bh) bf + 1)) 0 := by
  obtain ⟨P, rfl⟩ := Int.eq_ofNat_of_zero_le (show 0 ≤ p by omega)
  obtain ⟨Q, rfl⟩ := Int.eq_ofNat_of_zero_le (show 0 ≤ q by omega)
  have hg : 0 < Nat.gcd P Q := Nat.gcd_pos_of_pos_left _ (by omega)
  have e1 : Nat.gcd P Q * (P / Nat.gcd P Q) = P := Nat.mul_div_cancel' (Nat.gcd_dvd_left _ _)
  have e2 : Nat.gcd P Q * (Q / Nat.gcd P Q) = Q := Nat.mul_div_cancel' (Nat.gcd_dvd_right _ _)
  have hN : 0 < P / Nat.gcd P Q := Nat.div_pos (Nat.le_of_dvd (by omega) (Nat.gcd_dvd_left _ _)) hg
  have hc : Nat.gcd (Q / Nat.gcd P Q) (P / Nat.gcd P Q) = 1 := by rw [Nat.gcd_comm]; exact Nat.coprime_div_gcd_div_gcd hg
  have h := near_main (Nat.gcd P Q) (P / Nat.gcd P Q) (Q / Nat.gcd P Q) (u - o) bf bh hg hN hc h0 h1
  rw [e1, e2] at h
  have e3 : nearN (P : Int) (Q : Int) = ((P / Nat.gcd P Q : Nat) : Int) := by unfold nearN; rfl
  rw [e3, Int.toNat_natCast]
  exact h
theorem near_zero (p o q u bf bh : Int) : nearK p o q u bf bh 0 = 0 := rfl
theorem near_yes {p o q u bf bh : Int} {k : Nat} (h : nearC p bf bh (lateZ p (u - o) q k) = true) : nearK p o q u bf bh (k + 1) = nearK p o q u bf bh k + 1 := by
  unfold nearK; rw [cntN_succ, h]; rfl
theorem near_no {p o q u bf bh : Int} {k : Nat} (h : nearC p bf bh (lateZ p (u - o) q k) = false) : nearK p o q u bf bh (k + 1) = nearK p o q u bf bh k := by
  unfold nearK; rw [cntN_succ, h]; rfl
theorem near_le (p o q u bf bh : Int) (k : Nat) : nearK p o q u bf bh k ≤ k := cntN_le _ k
theorem nearN_bd (p q : Int) (hp : 1 ≤ p) (hq : 1 ≤ q) : 0 ≤ nearN p q ∧ nearN p q ≤ p := by
  obtain ⟨g1, g2, g3⟩ := gcdZ_bd p q hp hq
  exact ⟨Int.ediv_nonneg (by omega) (by omega), Int.ediv_le_self _ (by omega)⟩
theorem specNear_v (p o q u bf bh : Int) (w : World) (hv : clkB p o = false) :
    Calls Try.prog 33 #[.agg #[.int .i64 p, .int .i64 o], .agg #[.int .i64 q, .int .i64 u], .int .i64 bf, .int .i64 bh] w fun e w' => e = .returned (.tuple #[.int .i64 0, .int .i64 0, .bool false]) ∧ Below w.heap.size w w' := by
  have HV := Lib.hid hv
  clear hv
  go_enter Try.func33, Try.ntmps33
  go_wp2_with fail
  refine (l10Is_any p o _).mono ?_; rw [HV.out]; rintro e w1 ⟨rfl, hb1⟩
  have HB1 := Lib.hid (((bel_alloc w _).alloc (by simp) _).trans (hb1.mono (by simp; omega)))
  have A1 := Lib.hid (((CkAt.new w p o _).alloc _).call hb1)
  have Q1 := Lib.hid ((CkAt.new _ q u _).call hb1)
  simp only [World.size_alloc] at Q1
  obtain ⟨-, c10, c11⟩ := A1.out
  obtain ⟨-, d10, d11⟩ := Q1.out
  clear hb1
  go_wp2
  go_ret3
  exact ⟨rfl, HB1.out⟩
theorem specNear_w (p o q u bf bh : Int) (w : World) (hv : clkB p o = true) (hv2 : clkB q u = false) :
    Calls Try.prog 33 #[.agg #[.int .i64 p, .int .i64 o], .agg #[.int .i64 q, .int .i64 u], .int .i64 bf, .int .i64 bh] w fun e w' => e = .returned (.tuple #[.int .i64 0, .int .i64 0, .bool false]) ∧ Below w.heap.size w w' := by
  have HV := Lib.hid hv
  have HV2 := Lib.hid hv2
  clear hv2
  clear hv
  go_enter Try.func33, Try.ntmps33
  go_wp2_with fail
  refine (l10Is_any p o _).mono ?_; rw [HV.out]; rintro e w1 ⟨rfl, hb1⟩
  have HB1 := Lib.hid (((bel_alloc w _).alloc (by simp) _).trans (hb1.mono (by simp; omega)))
  have A1 := Lib.hid (((CkAt.new w p o _).alloc _).call hb1)
  have Q1 := Lib.hid ((CkAt.new _ q u _).call hb1)
  simp only [World.size_alloc] at Q1
  obtain ⟨-, c10, c11⟩ := A1.out
  obtain ⟨-, d10, d11⟩ := Q1.out
  clear hb1
  go_wp2_with fail
  refine (l10Is_any q u _).mono ?_; rw [HV2.out]; rintro e w2 ⟨rfl, hb2⟩
  have HB2 := Lib.hid (bel_call HB1.out hb2)
  have A2 := Lib.hid (A1.out.call hb2)
  have Q2 := Lib.hid (Q1.out.call hb2)
  obtain ⟨-, c20, c21⟩ := A2.out
  obtain ⟨-, d20, d21⟩ := Q2.out
  clear hb2 c10 c11 d10 d11
  go_wp2
  go_ret3
  exact ⟨rfl, HB2.out⟩
theorem specNear_x (p o q u bf bh : Int) (w : World) (hv : clkB p o = true) (hv2 : clkB q u = true) (hx : ¬ (0 ≤ bf ∧ bf ≤ 100000)) :
    Calls Try.prog 33 #[.agg #[.int .i64 p, .int .i64 o], .agg #[.int .i64 q, .int .i64 u], .int .i64 bf, .int .i64 bh] w fun e w' => e = .returned (.tuple #[.int .i64 0, .int .i64 0, .bool false]) ∧ Below w.heap.size w w' := by
  have HV := Lib.hid hv
  have HV2 := Lib.hid hv2
  clear hv2
  clear hv
  go_enter Try.func33, Try.ntmps33
  go_wp2_with fail
  refine (l10Is_any p o _).mono ?_; rw [HV.out]; rintro e w1 ⟨rfl, hb1⟩
  have HB1 := Lib.hid (((bel_alloc w _).alloc (by simp) _).trans (hb1.mono (by simp; omega)))
  have A1 := Lib.hid (((CkAt.new w p o _).alloc _).call hb1)
  have Q1 := Lib.hid ((CkAt.new _ q u _).call hb1)
  simp only [World.size_alloc] at Q1
  obtain ⟨-, c10, c11⟩ := A1.out
  obtain ⟨-, d10, d11⟩ := Q1.out
  clear hb1
  go_wp2_with fail
  refine (l10Is_any q u _).mono ?_; rw [HV2.out]; rintro e w2 ⟨rfl, hb2⟩
  have HB2 := Lib.hid (bel_call HB1.out hb2)
  have A2 := Lib.hid (A1.out.call hb2)
  have Q2 := Lib.hid (Q1.out.call hb2)
  obtain ⟨-, c20, c21⟩ := A2.out
  obtain ⟨-, d20, d21⟩ := Q2.out
  clear hb2 c10 c11 d10 d11
  go_wp2_with fail
  refine (l00In_f _ _ _ _ (by omega)).mono ?_; rintro e w' ⟨rfl, rfl⟩
  go_wp2
  go_ret3
  exact ⟨rfl, HB2.out⟩
theorem specNear_y (p o q u bf bh : Int) (w : World) (hv : clkB p o = true) (hv2 : clkB q u = true) (hx : 0 ≤ bf ∧ bf ≤ 100000) (hy : ¬ (0 ≤ bh ∧ bh ≤ 100000)) :
    Calls Try.prog 33 #[.agg #[.int .i64 p, .int .i64 o], .agg #[.int .i64 q, .int .i64 u], .int .i64 bf, .int .i64 bh] w fun e w' => e = .returned (.tuple #[.int .i64 0, .int .i64 0, .bool false]) ∧ Below w.heap.size w w' := by
  have HV := Lib.hid hv
  have HV2 := Lib.hid hv2
  clear hv2
  clear hv
  go_enter Try.func33, Try.ntmps33
  go_wp2_with fail
  refine (l10Is_any p o _).mono ?_; rw [HV.out]; rintro e w1 ⟨rfl, hb1⟩
  have HB1 := Lib.hid (((bel_alloc w _).alloc (by simp) _).trans (hb1.mono (by simp; omega)))
  have A1 := Lib.hid (((CkAt.new w p o _).alloc _).call hb1)
  have Q1 := Lib.hid ((CkAt.new _ q u _).call hb1)
  simp only [World.size_alloc] at Q1
  obtain ⟨-, c10, c11⟩ := A1.out
  obtain ⟨-, d10, d11⟩ := Q1.out
  clear hb1
  go_wp2_with fail
  refine (l10Is_any q u _).mono ?_; rw [HV2.out]; rintro e w2 ⟨rfl, hb2⟩
  have HB2 := Lib.hid (bel_call HB1.out hb2)
  have A2 := Lib.hid (A1.out.call hb2)
  have Q2 := Lib.hid (Q1.out.call hb2)
  obtain ⟨-, c20, c21⟩ := A2.out
  obtain ⟨-, d20, d21⟩ := Q2.out
  clear hb2 c10 c11 d10 d11
  go_wp2_with fail
  refine (l00In_t _ _ _ _ hx.1 hx.2).mono ?_; rintro e w' ⟨rfl, rfl⟩
  go_wp2_with fail
  refine (l00In_f _ _ _ _ (by omega)).mono ?_; rintro e w' ⟨rfl, rfl⟩
  go_wp2
  go_ret3
  exact ⟨rfl, HB2.out⟩
theorem implNear_v (p o q u bf bh : Int) (w : World) (hv : clkB p o = false) :
    Calls Try.prog 34 #[.agg #[.int .i64 p, .int .i64 o], .agg #[.int .i64 q, .int .i64 u], .int .i64 bf, .int .i64 bh] w fun e w' => e = .returned (.tuple #[.int .i64 0, .int .i64 0, .bool false]) ∧ Below w.heap.size w w' := by
  have HV := Lib.hid hv
  clear hv
  go_enter Try.func34, Try.ntmps34
  go_wp2_with fail
  refine (implVC_any p o _).mono ?_; rw [HV.out]; rintro e w1 ⟨rfl, hb1⟩
  have HB1 := Lib.hid (((bel_alloc w _).alloc (by simp) _).trans (hb1.mono (by simp; omega)))
  have A1 := Lib.hid (((CkAt.new w p o _).alloc _).call hb1)
  have Q1 := Lib.hid ((CkAt.new _ q u _).call hb1)
  simp only [World.size_alloc] at Q1
  obtain ⟨-, c10, c11⟩ := A1.out
  obtain ⟨-, d10, d11⟩ := Q1.out
  clear hb1
  go_wp2
  go_ret3
  exact ⟨rfl, HB1.out⟩
theorem implNear_w (p o q u bf bh : Int) (w : World) (hv : clkB p o = true) (hv2 : clkB q u = false) :
    Calls Try.prog 34 #[.agg #[.int .i64 p, .int .i64 o], .agg #[.int .i64 q, .int .i64 u], .int .i64 bf, .int .i64 bh] w fun e w' => e = .returned (.tuple #[.int .i64 0, .int .i64 0, .bool false]) ∧ Below w.heap.size w w' := by
  have HV := Lib.hid hv
  have HV2 := Lib.hid hv2
  clear hv2
  clear hv
  go_enter Try.func34, Try.ntmps34
  go_wp2_with fail
  refine (implVC_any p o _).mono ?_; rw [HV.out]; rintro e w1 ⟨rfl, hb1⟩
  have HB1 := Lib.hid (((bel_alloc w _).alloc (by simp) _).trans (hb1.mono (by simp; omega)))
  have A1 := Lib.hid (((CkAt.new w p o _).alloc _).call hb1)
  have Q1 := Lib.hid ((CkAt.new _ q u _).call hb1)
  simp only [World.size_alloc] at Q1
  obtain ⟨-, c10, c11⟩ := A1.out
  obtain ⟨-, d10, d11⟩ := Q1.out
  clear hb1
  go_wp2_with fail
  refine (implVC_any q u _).mono ?_; rw [HV2.out]; rintro e w2 ⟨rfl, hb2⟩
  have HB2 := Lib.hid (bel_call HB1.out hb2)
  have A2 := Lib.hid (A1.out.call hb2)
  have Q2 := Lib.hid (Q1.out.call hb2)
  obtain ⟨-, c20, c21⟩ := A2.out
  obtain ⟨-, d20, d21⟩ := Q2.out
  clear hb2 c10 c11 d10 d11
  go_wp2
  go_ret3
  exact ⟨rfl, HB2.out⟩
theorem implNear_x (p o q u bf bh : Int) (w : World) (hv : clkB p o = true) (hv2 : clkB q u = true) (hx : ¬ (0 ≤ bf ∧ bf ≤ 100000)) :
    Calls Try.prog 34 #[.agg #[.int .i64 p, .int .i64 o], .agg #[.int .i64 q, .int .i64 u], .int .i64 bf, .int .i64 bh] w fun e w' => e = .returned (.tuple #[.int .i64 0, .int .i64 0, .bool false]) ∧ Below w.heap.size w w' := by
  have HV := Lib.hid hv
  have HV2 := Lib.hid hv2
  clear hv2
  clear hv
  go_enter Try.func34, Try.ntmps34
  go_wp2_with fail
  refine (implVC_any p o _).mono ?_; rw [HV.out]; rintro e w1 ⟨rfl, hb1⟩
  have HB1 := Lib.hid (((bel_alloc w _).alloc (by simp) _).trans (hb1.mono (by simp; omega)))
  have A1 := Lib.hid (((CkAt.new w p o _).alloc _).call hb1)
  have Q1 := Lib.hid ((CkAt.new _ q u _).call hb1)
  simp only [World.size_alloc] at Q1
  obtain ⟨-, c10, c11⟩ := A1.out
  obtain ⟨-, d10, d11⟩ := Q1.out
  clear hb1
  go_wp2_with fail
  refine (implVC_any q u _).mono ?_; rw [HV2.out]; rintro e w2 ⟨rfl, hb2⟩
  have HB2 := Lib.hid (bel_call HB1.out hb2)
  have A2 := Lib.hid (A1.out.call hb2)
  have Q2 := Lib.hid (Q1.out.call hb2)
  obtain ⟨-, c20, c21⟩ := A2.out
  obtain ⟨-, d20, d21⟩ := Q2.out
  clear hb2 c10 c11 d10 d11
  go_wp2_with fail
  refine (within_i64_f _ _ _ _ (by omega)).mono ?_; rintro e w' ⟨rfl, rfl⟩
  go_wp2
  go_ret3
  exact ⟨rfl, HB2.out⟩
theorem implNear_y (p o q u bf bh : Int) (w : World) (hv : clkB p o = true) (hv2 : clkB q u = true) (hx : 0 ≤ bf ∧ bf ≤ 100000) (hy : ¬ (0 ≤ bh ∧ bh ≤ 100000)) :
    Calls Try.prog 34 #[.agg #[.int .i64 p, .int .i64 o], .agg #[.int .i64 q, .int .i64 u], .int .i64 bf, .int .i64 bh] w fun e w' => e = .returned (.tuple #[.int .i64 0, .int .i64 0, .bool false]) ∧ Below w.heap.size w w' := by
  have HV := Lib.hid hv
  have HV2 := Lib.hid hv2
  clear hv2
  clear hv
  go_enter Try.func34, Try.ntmps34
  go_wp2_with fail
  refine (implVC_any p o _).mono ?_; rw [HV.out]; rintro e w1 ⟨rfl, hb1⟩
  have HB1 := Lib.hid (((bel_alloc w _).alloc (by simp) _).trans (hb1.mono (by simp; omega)))
  have A1 := Lib.hid (((CkAt.new w p o _).alloc _).call hb1)
  have Q1 := Lib.hid ((CkAt.new _ q u _).call hb1)
  simp only [World.size_alloc] at Q1
  obtain ⟨-, c10, c11⟩ := A1.out
  obtain ⟨-, d10, d11⟩ := Q1.out
  clear hb1
  go_wp2_with fail
  refine (implVC_any q u _).mono ?_; rw [HV2.out]; rintro e w2 ⟨rfl, hb2⟩
  have HB2 := Lib.hid (bel_call HB1.out hb2)
  have A2 := Lib.hid (A1.out.call hb2)
  have Q2 := Lib.hid (Q1.out.call hb2)
  obtain ⟨-, c20, c21⟩ := A2.out
  obtain ⟨-, d20, d21⟩ := Q2.out
  clear hb2 c10 c11 d10 d11
  go_wp2_with fail
  refine (within_i64_t _ _ _ _ hx.1 hx.2).mono ?_; rintro e w' ⟨rfl, rfl⟩
  go_wp2_with fail
  refine (within_i64_f _ _ _ _ (by omega)).mono ?_; rintro e w' ⟨rfl, rfl⟩
  go_wp2
  go_ret3
  exact ⟨rfl, HB2.out⟩
set_option maxHeartbeats 4000000 in
set_option maxRecDepth 100000 in
theorem specNear_t (p o q u bf bh : Int) (w : World) (hv : clkB p o = true) (hv2 : clkB q u = true) (hx : 0 ≤ bf ∧ bf ≤ 100000) (hy : 0 ≤ bh ∧ bh ≤ 100000) :
    Calls Try.prog 33 #[.agg #[.int .i64 p, .int .i64 o], .agg #[.int .i64 q, .int .i64 u], .int .i64 bf, .int .i64 bh] w fun e w' => e = .returned (.tuple #[.int .i64 ((nearK p o q u bf bh (nearN p q).toNat : Nat) : Int), .int .i64 (nearN p q), .bool true]) ∧ Below w.heap.size w w' := by
  have HV := Lib.hid hv
  have HV2 := Lib.hid hv2
  obtain ⟨⟨a1, a2⟩, a3, a4⟩ := clkB_iff.1 hv
  obtain ⟨⟨b1, b2⟩, b3, b4⟩ := clkB_iff.1 hv2
  obtain ⟨g1, g2, g3⟩ := gcdZ_bd p q a1 b1
  have HG := Lib.hid (fun w => specGcd p q w (by omega) (by omega) (by omega) (by omega))
  have hne0 : p.tdiv (Int.gcd p q : Int) = nearN p q := by unfold nearN; exact Int.tdiv_eq_ediv_of_nonneg (by omega)
  obtain ⟨n0, n1⟩ := nearN_bd p q a1 b1
  obtain ⟨N, hN⟩ := Int.eq_ofNat_of_zero_le n0
  rw [hN] at hne0 n0 n1 ⊢
  rw [Int.toNat_natCast]
  obtain ⟨g, hg⟩ : ∃ g : Int, (Int.gcd p q : Int) = g := ⟨_, rfl⟩
  rw [hg] at HG g1 g2 g3 hne0
  have hne : (g == 0) = false := by simp; omega
  have hn0 : ¬ g = 0 := by omega
  have hed : p / g = (N : Int) := by rw [← hne0]; exact (Int.tdiv_eq_ediv_of_nonneg (by omega)).symm
  have v1 : IntKind.i64.wrap (p.tdiv g) = (N : Int) := by rw [hne0]; exact IntWalk.i64_in _ (by omega)
  have v2 : IntKind.i64.wrap (N : Int) = (N : Int) := IntWalk.i64_in _ (by omega)
  have hpe : (p == 0) = false := by simp; omega
  have hpn : ¬ p = 0 := by omega
  have HNN := Lib.hid hN
  clear hg hN hv hv2
  go_enter Try.func33, Try.ntmps33
  go_wp2_with fail
  refine (l10Is_any p o _).mono ?_; rw [HV.out]; rintro e w1 ⟨rfl, hb1⟩
  have HB1 := Lib.hid (((bel_alloc w _).alloc (by simp) _).trans (hb1.mono (by simp; omega)))
  have A1 := Lib.hid (((CkAt.new w p o _).alloc _).call hb1)
  have Q1 := Lib.hid ((CkAt.new _ q u _).call hb1)
  simp only [World.size_alloc] at Q1
  obtain ⟨-, c10, c11⟩ := A1.out
  obtain ⟨-, d10, d11⟩ := Q1.out
  clear hb1
  go_wp2_with fail
  refine (l10Is_any q u _).mono ?_; rw [HV2.out]; rintro e w2 ⟨rfl, hb2⟩
  have HB2 := Lib.hid (bel_call HB1.out hb2)
  have A2 := Lib.hid (A1.out.call hb2)
  have Q2 := Lib.hid (Q1.out.call hb2)
  obtain ⟨-, c20, c21⟩ := A2.out
  obtain ⟨-, d20, d21⟩ := Q2.out
  clear hb2 c10 c11 d10 d11
  go_wp2_with fail
  refine (l00In_t _ _ _ _ hx.1 hx.2).mono ?_; rintro e w' ⟨rfl, rfl⟩
  go_wp2_with fail
  refine (l00In_t _ _ _ _ hy.1 hy.2).mono ?_; rintro e w' ⟨rfl, rfl⟩
  go_wp2
  go_quiet ((go_at_call 58; exact quiet_eqg (HG.out _)))
  have A3 := Lib.hid (A2.out.drewN nq)
  have Q3 := Lib.hid (Q2.out.drewN nq)
  have HB3 := Lib.hid (below_drk HB2.out nq)
  obtain ⟨W, hW⟩ : ∃ W, w2.drewN nq = W := ⟨_, rfl⟩
  rw [hW] at A3 Q3 HB3 ⊢
  clear hW c20 c21 d20 d21
  obtain ⟨-, c30, c31⟩ := A3.out
  obtain ⟨-, d30, d31⟩ := Q3.out
  have HED := Lib.hid hed
  clear hed v1 hne0 hne hn0
  go_wp2
  go_loop [12, 13, 14] (fun nv kv _ => ∃ k : Nat, k ≤ N ∧ kv = .int .i64 (k : Int) ∧ nv = .int .i64 ((nearK p o q u bf bh k : Nat) : Int)) (fun _ kv _ => N - (intOf kv).toNat)
  case atStart => exact ⟨0, Nat.zero_le _, rfl, rfl⟩
  case round =>
    obtain ⟨k, hk, rfl, rfl⟩ := hrel
    by_cases hlt : k < N
    · have hltI : (k : Int) < (N : Int) := by omega
      have hnk := near_le p o q u bf bh k
      have HYES := Lib.hid (@near_yes p o q u bf bh k)
      have HNO := Lib.hid (@near_no p o q u bf bh k)
      obtain ⟨nk, hnk2⟩ : ∃ n, nearK p o q u bf bh k = n := ⟨_, rfl⟩
      rw [hnk2] at hnk HYES HNO ⊢
      have m0 : 0 ≤ (k : Int) * q := Int.mul_nonneg (by omega) (by omega)
      have m1 : (k : Int) * q ≤ 100000 * 100000 := Int.mul_le_mul (by omega) b2 (by omega) (by omega)
      have w3 : IntKind.i64.wrap ((k : Int) * q) = (k : Int) * q := IntWalk.i64_in _ (by omega)
      have w4 : IntKind.i64.wrap (u + (k : Int) * q) = u + (k : Int) * q := IntWalk.i64_in _ (by omega)
      have w5 : IntKind.i64.wrap (u + (k : Int) * q - o) = u + (k : Int) * q - o := IntWalk.i64_in _ (by omega)
      have w6 : IntKind.i64.wrap ((nk : Int) + 1) = (nk : Int) + 1 := IntWalk.i64_in _ (by omega)
      have w7 : IntKind.i64.wrap ((k : Int) + 1) = (k : Int) + 1 := IntWalk.i64_in _ (by omega)
      have hL : lateZ p (u - o) q k = (u + (k : Int) * q - o) % p := by unfold lateZ; rw [show u - o + (k : Int) * q = u + (k : Int) * q - o by omega]
      have htw := tmod_two (u + (k : Int) * q - o) p (by omega)
      have l0 := Int.emod_nonneg (u + (k : Int) * q - o) (show p ≠ 0 by omega)
      have l1 := Int.emod_lt_of_pos (u + (k : Int) * q - o) (show 0 < p by omega)
      rw [← hL] at htw l0 l1
      have HLL := Lib.hid hL
      clear hL m0 m1
      obtain ⟨L, hLe⟩ : ∃ L, lateZ p (u - o) q k = L := ⟨_, rfl⟩
      rw [hLe] at htw l0 l1 HYES HNO
      have HTW := Lib.hid htw
      have HK := Lib.hid hnk2
      have hyes : nearC p bf bh L = true → nearK p o q u bf bh (k + 1) = nk + 1 := HYES.out
      have hno : nearC p bf bh L = false → nearK p o q u bf bh (k + 1) = nk := HNO.out
      have HY := Lib.hid hyes
      have HNo := Lib.hid hno
      clear htw HYES HNO hLe hnk2 hyes hno
      have hcase : (L ≤ bf ∧ nearC p bf bh L = true) ∨ ((¬ L ≤ bf ∧ p - L < bh) ∧ nearC p bf bh L = true) ∨ ((¬ L ≤ bf ∧ ¬ p - L < bh ∧ ¬ L = 0) ∧ nearC p bf bh L = false) := by
        unfold nearC
        by_cases z1 : L ≤ bf
        · left; exact ⟨z1, by simp [z1]⟩
        · by_cases z2 : p - L < bh
          · right; left; exact ⟨⟨z1, z2⟩, by simp [z2]⟩
          · right; right
            have z3 : ¬ L = 0 := by omega
            exact ⟨⟨z1, z2, z3⟩, by simp [z1, z2, z3]⟩
      have HCS := Lib.hid hcase
      clear hcase
      rcases HTW.out with ⟨t1, t2⟩ | ⟨t1, t2⟩
      · have w8 : IntKind.i64.wrap ((u + (k : Int) * q - o).tmod p + p) = (u + (k : Int) * q - o).tmod p + p := IntWalk.i64_in _ (by omega)
        have w9 : IntKind.i64.wrap (p - ((u + (k : Int) * q - o).tmod p + p)) = p - ((u + (k : Int) * q - o).tmod p + p) := IntWalk.i64_in _ (by omega)
        subst t2
        obtain ⟨T, hT⟩ : ∃ T, (u + (k : Int) * q - o).tmod p = T := ⟨_, rfl⟩
        have HT := Lib.hid hT
        rcases HCS.out with ⟨z, y⟩ | ⟨⟨z, z2⟩, y⟩ | ⟨⟨z, z2, z3⟩, y⟩
        · have HYY := Lib.hid (HY.out y)
          clear y hT
          go_wp2
          go_round
          case rel => exact ⟨k + 1, by omega, by go_num, by rw [HYY.out]; go_num⟩
          case measure => simp [intOf]; omega
        · have HYY := Lib.hid (HY.out y)
          clear y hT
          go_wp2
          go_round
          case rel => exact ⟨k + 1, by omega, by go_num, by rw [HYY.out]; go_num⟩
          case measure => simp [intOf]; omega
        · have HYY := Lib.hid (HNo.out y)
          have z4 : (((u + (k : Int) * q - o).tmod p + p) == 0) = false := by simp; omega
          clear y hT
          go_wp2
          go_round
          case rel => exact ⟨k + 1, by omega, by go_num, by rw [HYY.out]⟩
          case measure => simp [intOf]; omega
      · have w9 : IntKind.i64.wrap (p - (u + (k : Int) * q - o).tmod p) = p - (u + (k : Int) * q - o).tmod p := IntWalk.i64_in _ (by omega)
        have t3 : ¬ (u + (k : Int) * q - o).tmod p < 0 := by omega
        subst t2
        rcases HCS.out with ⟨z, y⟩ | ⟨⟨z, z2⟩, y⟩ | ⟨⟨z, z2, z3⟩, y⟩
        · have HYY := Lib.hid (HY.out y)
          clear y
          go_wp2
          go_round
          case rel => exact ⟨k + 1, by omega, by go_num, by rw [HYY.out]; go_num⟩
          case measure => simp [intOf]; omega
        · have HYY := Lib.hid (HY.out y)
          clear y
          go_wp2
          go_round
          case rel => exact ⟨k + 1, by omega, by go_num, by rw [HYY.out]; go_num⟩
          case measure => simp [intOf]; omega
        · have HYY := Lib.hid (HNo.out y)
          have z4 : ((u + (k : Int) * q - o).tmod p == 0) = false := by simp; omega
          clear y
          go_wp2
          go_round
          case rel => exact ⟨k + 1, by omega, by go_num, by rw [HYY.out]⟩
          case measure => simp [intOf]; omega
    · obtain rfl : N = k := by omega
      go_wp2
      go_ret3
      exact ⟨rfl, HB3.out⟩
set_option maxHeartbeats 4000000 in
set_option maxRecDepth 100000 in
theorem implNear_core (p o q u bf bh g R N m1 m2 t1 t2 ea : Int) (w : World) (hv : clkB p o = true) (hv2 : clkB q u = true) (hx : 0 ≤ bf ∧ bf ≤ 100000) (hy : 0 ≤ bh ∧ bh ≤ 100000)
    (hS : ∀ w, Calls Try.prog 56 #[.agg #[.int .i64 p, .int .i64 o], .agg #[.int .i64 q, .int .i64 u]] w fun e w' => e = .returned (.tuple #[.int .i64 g, .int .i64 R]) ∧ Below w.heap.size w w')
    (h1 : ∀ w, Calls Try.prog 53 #[.agg #[.int .i64 g, .int .i64 R], .int .i64 m1] w fun e w' => e = .returned (.int .i64 t1) ∧ Below w.heap.size w w')
    (h2 : ∀ w, Calls Try.prog 53 #[.agg #[.int .i64 g, .int .i64 R], .int .i64 (m2 + 1)] w fun e w' => e = .returned (.int .i64 t2) ∧ Below w.heap.size w w')
    (g1 : 1 ≤ g) (g2 : g ≤ p) (hN : p / g = N) (hNb : 0 ≤ N ∧ N ≤ 100000) (ht1 : 0 ≤ t1 ∧ t1 ≤ 1000000) (ht2 : 0 ≤ t2 ∧ t2 ≤ 1000000)
    (hm1 : (bf + 1 ≤ p ∧ m1 = bf + 1) ∨ (¬ bf + 1 ≤ p ∧ m1 = p)) (hm2 : (¬ bf ≤ p - bh ∧ m2 = bf) ∨ (bf ≤ p - bh ∧ m2 = p - bh))
    (hea : (¬ N - t2 < 0 ∧ ea = N - t2) ∨ (N - t2 < 0 ∧ ea = 0)) :
    Calls Try.prog 34 #[.agg #[.int .i64 p, .int .i64 o], .agg #[.int .i64 q, .int .i64 u], .int .i64 bf, .int .i64 bh] w fun e w' => e = .returned (.tuple #[.int .i64 (t1 + ea), .int .i64 N, .bool true]) ∧ Below w.heap.size w w' := by
  have HV := Lib.hid hv
  have HV2 := Lib.hid hv2
  have HS := Lib.hid hS
  have C1 := Lib.hid h1
  have C2 := Lib.hid h2
  obtain ⟨⟨a1, a2⟩, a3, a4⟩ := clkB_iff.1 hv
  have hne : (g == 0) = false := by simp; omega
  have hn0 : ¬ g = 0 := by omega
  have htd : p.tdiv g = N := by rw [← hN]; exact Int.tdiv_eq_ediv_of_nonneg (by omega)
  have v1 : IntKind.i64.wrap (p.tdiv g) = N := by rw [htd]; exact IntWalk.i64_in _ (by omega)
  have v2 : IntKind.i64.wrap N = N := IntWalk.i64_in _ (by omega)
  have v3 : IntKind.i64.wrap (bf + 1) = bf + 1 := IntWalk.i64_in _ (by omega)
  have v4 : IntKind.i64.wrap (p - bh) = p - bh := IntWalk.i64_in _ (by omega)
  have v5 : IntKind.i64.wrap (N - t2) = N - t2 := IntWalk.i64_in _ (by omega)
  have v6 : IntKind.i64.wrap (p - bh + 1) = p - bh + 1 := IntWalk.i64_in _ (by omega)
  have v7 : IntKind.i64.wrap (t1 + (N - t2)) = t1 + (N - t2) := IntWalk.i64_in _ (by omega)
  have v8 : IntKind.i64.wrap (t1 + 0) = t1 + 0 := IntWalk.i64_in _ (by omega)
  clear hS h1 h2 hv hv2 htd
  rcases hm1 with ⟨x1, rfl⟩ | ⟨x1, rfl⟩
  · have x2 : ¬ p < bf + 1 := by omega
    rcases hm2 with ⟨y1, rfl⟩ | ⟨y1, rfl⟩
    · have y2 : p - bh < m2 := by omega
      rcases hea with ⟨z1, rfl⟩ | ⟨z1, rfl⟩
      · have z2 : 0 ≤ N - t2 := by omega
        go_enter Try.func34, Try.ntmps34
        go_wp2_with fail
        refine (implVC_any p o _).mono ?_; rw [HV.out]; rintro e w1 ⟨rfl, hb1⟩
        have HB1 := Lib.hid (((bel_alloc w _).alloc (by simp) _).trans (hb1.mono (by simp; omega)))
        have A1 := Lib.hid (((CkAt.new w p o _).alloc _).call hb1)
        have Q1 := Lib.hid ((CkAt.new _ q u _).call hb1)
        simp only [World.size_alloc] at Q1
        obtain ⟨-, c10, c11⟩ := A1.out
        obtain ⟨-, d10, d11⟩ := Q1.out
        clear hb1
        go_wp2_with fail
        refine (implVC_any q u _).mono ?_; rw [HV2.out]; rintro e w2 ⟨rfl, hb2⟩
        have HB2 := Lib.hid (bel_call HB1.out hb2)
        have A2 := Lib.hid (A1.out.call hb2)
        have Q2 := Lib.hid (Q1.out.call hb2)
        obtain ⟨-, c20, c21⟩ := A2.out
        obtain ⟨-, d20, d21⟩ := Q2.out
        clear hb2 c10 c11 d10 d11
        go_wp2_with fail
        refine (within_i64_t _ _ _ _ hx.1 hx.2).mono ?_; rintro e w' ⟨rfl, rfl⟩
        go_wp2_with fail
        refine (within_i64_t _ _ _ _ hy.1 hy.2).mono ?_; rintro e w' ⟨rfl, rfl⟩
        go_wp2_with fail
        refine (HS.out _).mono ?_; rintro e w3 ⟨rfl, hb3⟩
        have HB3 := Lib.hid (bel_alloc w3 (.cells #[.int .i64 g, .int .i64 R] 25))
        have HB4 := Lib.hid (bel_call (bel_call HB2.out hb3) HB3.out)
        have A4 := Lib.hid ((A2.out.call hb3).alloc (.cells #[.int .i64 g, .int .i64 R] 25))
        obtain ⟨-, c30, c31⟩ := A2.out.call hb3
        obtain ⟨-, c40, c41⟩ := A4.out
        have T4 := Lib.hid (CkAt.new w3 g R 25)
        clear hb3 c20 c21 d20 d21
        go_wp2_with fail
        refine (C1.out _).mono ?_; rintro e w5 ⟨rfl, hb5⟩
        obtain ⟨-, c50, c51⟩ := A4.out.call hb5
        obtain ⟨-, t50, t51⟩ := T4.out.call hb5
        have HB5 := Lib.hid (bel_call HB4.out hb5)
        clear hb5
        go_wp2_with fail
        refine (C2.out _).mono ?_; rintro e w6 ⟨rfl, hb6⟩
        have HB6 := Lib.hid (bel_call HB5.out hb6)
        clear hb6
        go_wp2
        go_ret3
        exact ⟨by first | rfl | (rw [Int.add_zero]; rfl), HB6.out⟩
      · have z2 : ¬ 0 ≤ N - t2 := by omega
        go_enter Try.func34, Try.ntmps34
        go_wp2_with fail
        refine (implVC_any p o _).mono ?_; rw [HV.out]; rintro e w1 ⟨rfl, hb1⟩
        have HB1 := Lib.hid (((bel_alloc w _).alloc (by simp) _).trans (hb1.mono (by simp; omega)))
        have A1 := Lib.hid (((CkAt.new w p o _).alloc _).call hb1)
        have Q1 := Lib.hid ((CkAt.new _ q u _).call hb1)
        simp only [World.size_alloc] at Q1
        obtain ⟨-, c10, c11⟩ := A1.out
        obtain ⟨-, d10, d11⟩ := Q1.out
        clear hb1
        go_wp2_with fail
        refine (implVC_any q u _).mono ?_; rw [HV2.out]; rintro e w2 ⟨rfl, hb2⟩
        have HB2 := Lib.hid (bel_call HB1.out hb2)
        have A2 := Lib.hid (A1.out.call hb2)
        have Q2 := Lib.hid (Q1.out.call hb2)
        obtain ⟨-, c20, c21⟩ := A2.out
        obtain ⟨-, d20, d21⟩ := Q2.out
        clear hb2 c10 c11 d10 d11
        go_wp2_with fail
        refine (within_i64_t _ _ _ _ hx.1 hx.2).mono ?_; rintro e w' ⟨rfl, rfl⟩
        go_wp2_with fail
        refine (within_i64_t _ _ _ _ hy.1 hy.2).mono ?_; rintro e w' ⟨rfl, rfl⟩
        go_wp2_with fail
        refine (HS.out _).mono ?_; rintro e w3 ⟨rfl, hb3⟩
        have HB3 := Lib.hid (bel_alloc w3 (.cells #[.int .i64 g, .int .i64 R] 25))
        have HB4 := Lib.hid (bel_call (bel_call HB2.out hb3) HB3.out)
        have A4 := Lib.hid ((A2.out.call hb3).alloc (.cells #[.int .i64 g, .int .i64 R] 25))
        obtain ⟨-, c30, c31⟩ := A2.out.call hb3
        obtain ⟨-, c40, c41⟩ := A4.out
        have T4 := Lib.hid (CkAt.new w3 g R 25)
        clear hb3 c20 c21 d20 d21
        go_wp2_with fail
        refine (C1.out _).mono ?_; rintro e w5 ⟨rfl, hb5⟩
        obtain ⟨-, c50, c51⟩ := A4.out.call hb5
        obtain ⟨-, t50, t51⟩ := T4.out.call hb5
        have HB5 := Lib.hid (bel_call HB4.out hb5)
        clear hb5
        go_wp2_with fail
        refine (C2.out _).mono ?_; rintro e w6 ⟨rfl, hb6⟩
        have HB6 := Lib.hid (bel_call HB5.out hb6)
        clear hb6
        go_wp2
        go_ret3
        exact ⟨by first | rfl | (rw [Int.add_zero]; rfl), HB6.out⟩
    · have y2 : ¬ p - bh < bf := by omega
      rcases hea with ⟨z1, rfl⟩ | ⟨z1, rfl⟩
      · have z2 : 0 ≤ N - t2 := by omega
        go_enter Try.func34, Try.ntmps34
        go_wp2_with fail
        refine (implVC_any p o _).mono ?_; rw [HV.out]; rintro e w1 ⟨rfl, hb1⟩
        have HB1 := Lib.hid (((bel_alloc w _).alloc (by simp) _).trans (hb1.mono (by simp; omega)))
        have A1 := Lib.hid (((CkAt.new w p o _).alloc _).call hb1)
        have Q1 := Lib.hid ((CkAt.new _ q u _).call hb1)
        simp only [World.size_alloc] at Q1
        obtain ⟨-, c10, c11⟩ := A1.out
        obtain ⟨-, d10, d11⟩ := Q1.out
        clear hb1
        go_wp2_with fail
        refine (implVC_any q u _).mono ?_; rw [HV2.out]; rintro e w2 ⟨rfl, hb2⟩
        have HB2 := Lib.hid (bel_call HB1.out hb2)
        have A2 := Lib.hid (A1.out.call hb2)
        have Q2 := Lib.hid (Q1.out.call hb2)
        obtain ⟨-, c20, c21⟩ := A2.out
        obtain ⟨-, d20, d21⟩ := Q2.out
        clear hb2 c10 c11 d10 d11
        go_wp2_with fail
        refine (within_i64_t _ _ _ _ hx.1 hx.2).mono ?_; rintro e w' ⟨rfl, rfl⟩
        go_wp2_with fail
        refine (within_i64_t _ _ _ _ hy.1 hy.2).mono ?_; rintro e w' ⟨rfl, rfl⟩
        go_wp2_with fail
        refine (HS.out _).mono ?_; rintro e w3 ⟨rfl, hb3⟩
        have HB3 := Lib.hid (bel_alloc w3 (.cells #[.int .i64 g, .int .i64 R] 25))
        have HB4 := Lib.hid (bel_call (bel_call HB2.out hb3) HB3.out)
        have A4 := Lib.hid ((A2.out.call hb3).alloc (.cells #[.int .i64 g, .int .i64 R] 25))
        obtain ⟨-, c30, c31⟩ := A2.out.call hb3
        obtain ⟨-, c40, c41⟩ := A4.out
        have T4 := Lib.hid (CkAt.new w3 g R 25)
        clear hb3 c20 c21 d20 d21
        go_wp2_with fail
        refine (C1.out _).mono ?_; rintro e w5 ⟨rfl, hb5⟩
        obtain ⟨-, c50, c51⟩ := A4.out.call hb5
        obtain ⟨-, t50, t51⟩ := T4.out.call hb5
        have HB5 := Lib.hid (bel_call HB4.out hb5)
        clear hb5
        go_wp2_with fail
        refine (C2.out _).mono ?_; rintro e w6 ⟨rfl, hb6⟩
        have HB6 := Lib.hid (bel_call HB5.out hb6)
        clear hb6
        go_wp2
        go_ret3
        exact ⟨by first | rfl | (rw [Int.add_zero]; rfl), HB6.out⟩
      · have z2 : ¬ 0 ≤ N - t2 := by omega
        go_enter Try.func34, Try.ntmps34
        go_wp2_with fail
        refine (implVC_any p o _).mono ?_; rw [HV.out]; rintro e w1 ⟨rfl, hb1⟩
        have HB1 := Lib.hid (((bel_alloc w _).alloc (by simp) _).trans (hb1.mono (by simp; omega)))
        have A1 := Lib.hid (((CkAt.new w p o _).alloc _).call hb1)
        have Q1 := Lib.hid ((CkAt.new _ q u _).call hb1)
        simp only [World.size_alloc] at Q1
        obtain ⟨-, c10, c11⟩ := A1.out
        obtain ⟨-, d10, d11⟩ := Q1.out
        clear hb1
        go_wp2_with fail
        refine (implVC_any q u _).mono ?_; rw [HV2.out]; rintro e w2 ⟨rfl, hb2⟩
        have HB2 := Lib.hid (bel_call HB1.out hb2)
        have A2 := Lib.hid (A1.out.call hb2)
        have Q2 := Lib.hid (Q1.out.call hb2)
        obtain ⟨-, c20, c21⟩ := A2.out
        obtain ⟨-, d20, d21⟩ := Q2.out
        clear hb2 c10 c11 d10 d11
        go_wp2_with fail
        refine (within_i64_t _ _ _ _ hx.1 hx.2).mono ?_; rintro e w' ⟨rfl, rfl⟩
        go_wp2_with fail
        refine (within_i64_t _ _ _ _ hy.1 hy.2).mono ?_; rintro e w' ⟨rfl, rfl⟩
        go_wp2_with fail
        refine (HS.out _).mono ?_; rintro e w3 ⟨rfl, hb3⟩
        have HB3 := Lib.hid (bel_alloc w3 (.cells #[.int .i64 g, .int .i64 R] 25))
        have HB4 := Lib.hid (bel_call (bel_call HB2.out hb3) HB3.out)
        have A4 := Lib.hid ((A2.out.call hb3).alloc (.cells #[.int .i64 g, .int .i64 R] 25))
        obtain ⟨-, c30, c31⟩ := A2.out.call hb3
        obtain ⟨-, c40, c41⟩ := A4.out
        have T4 := Lib.hid (CkAt.new w3 g R 25)
        clear hb3 c20 c21 d20 d21
        go_wp2_with fail
        refine (C1.out _).mono ?_; rintro e w5 ⟨rfl, hb5⟩
        obtain ⟨-, c50, c51⟩ := A4.out.call hb5
        obtain ⟨-, t50, t51⟩ := T4.out.call hb5
        have HB5 := Lib.hid (bel_call HB4.out hb5)
        clear hb5
        go_wp2_with fail
        refine (C2.out _).mono ?_; rintro e w6 ⟨rfl, hb6⟩
        have HB6 := Lib.hid (bel_call HB5.out hb6)
        clear hb6
        go_wp2
        go_ret3
        exact ⟨by first | rfl | (rw [Int.add_zero]; rfl), HB6.out⟩
  · have x2 : m1 < bf + 1 := by omega
    rcases hm2 with ⟨y1, rfl⟩ | ⟨y1, rfl⟩
    · have y2 : m1 - bh < m2 := by omega
      rcases hea with ⟨z1, rfl⟩ | ⟨z1, rfl⟩
      · have z2 : 0 ≤ N - t2 := by omega
        go_enter Try.func34, Try.ntmps34
        go_wp2_with fail
        refine (implVC_any m1 o _).mono ?_; rw [HV.out]; rintro e w1 ⟨rfl, hb1⟩
        have HB1 := Lib.hid (((bel_alloc w _).alloc (by simp) _).trans (hb1.mono (by simp; omega)))
        have A1 := Lib.hid (((CkAt.new w m1 o _).alloc _).call hb1)
        have Q1 := Lib.hid ((CkAt.new _ q u _).call hb1)
        simp only [World.size_alloc] at Q1
        obtain ⟨-, c10, c11⟩ := A1.out
        obtain ⟨-, d10, d11⟩ := Q1.out
        clear hb1
        go_wp2_with fail
        refine (implVC_any q u _).mono ?_; rw [HV2.out]; rintro e w2 ⟨rfl, hb2⟩
        have HB2 := Lib.hid (bel_call HB1.out hb2)
        have A2 := Lib.hid (A1.out.call hb2)
        have Q2 := Lib.hid (Q1.out.call hb2)
        obtain ⟨-, c20, c21⟩ := A2.out
        obtain ⟨-, d20, d21⟩ := Q2.out
        clear hb2 c10 c11 d10 d11
        go_wp2_with fail
        refine (within_i64_t _ _ _ _ hx.1 hx.2).mono ?_; rintro e w' ⟨rfl, rfl⟩
        go_wp2_with fail
        refine (within_i64_t _ _ _ _ hy.1 hy.2).mono ?_; rintro e w' ⟨rfl, rfl⟩
        go_wp2_with fail
        refine (HS.out _).mono ?_; rintro e w3 ⟨rfl, hb3⟩
        have HB3 := Lib.hid (bel_alloc w3 (.cells #[.int .i64 g, .int .i64 R] 25))
        have HB4 := Lib.hid (bel_call (bel_call HB2.out hb3) HB3.out)
        have A4 := Lib.hid ((A2.out.call hb3).alloc (.cells #[.int .i64 g, .int .i64 R] 25))
        obtain ⟨-, c30, c31⟩ := A2.out.call hb3
        obtain ⟨-, c40, c41⟩ := A4.out
        have T4 := Lib.hid (CkAt.new w3 g R 25)
        clear hb3 c20 c21 d20 d21
        go_wp2_with fail
        refine (C1.out _).mono ?_; rintro e w5 ⟨rfl, hb5⟩
        obtain ⟨-, c50, c51⟩ := A4.out.call hb5
        obtain ⟨-, t50, t51⟩ := T4.out.call hb5
        have HB5 := Lib.hid (bel_call HB4.out hb5)
        clear hb5
        go_wp2_with fail
        refine (C2.out _).mono ?_; rintro e w6 ⟨rfl, hb6⟩
        have HB6 := Lib.hid (bel_call HB5.out hb6)
        clear hb6
        go_wp2
        go_ret3
        exact ⟨by first | rfl | (rw [Int.add_zero]; rfl), HB6.out⟩
      · have z2 : ¬ 0 ≤ N - t2 := by omega
        go_enter Try.func34, Try.ntmps34
        go_wp2_with fail
        refine (implVC_any m1 o _).mono ?_; rw [HV.out]; rintro e w1 ⟨rfl, hb1⟩
        have HB1 := Lib.hid (((bel_alloc w _).alloc (by simp) _).trans (hb1.mono (by simp; omega)))
        have A1 := Lib.hid (((CkAt.new w m1 o _).alloc _).call hb1)
        have Q1 := Lib.hid ((CkAt.new _ q u _).call hb1)
        simp only [World.size_alloc] at Q1
        obtain ⟨-, c10, c11⟩ := A1.out
        obtain ⟨-, d10, d11⟩ := Q1.out
        clear hb1
        go_wp2_with fail
        refine (implVC_any q u _).mono ?_; rw [HV2.out]; rintro e w2 ⟨rfl, hb2⟩
        have HB2 := Lib.hid (bel_call HB1.out hb2)
        have A2 := Lib.hid (A1.out.call hb2)
        have Q2 := Lib.hid (Q1.out.call hb2)
        obtain ⟨-, c20, c21⟩ := A2.out
        obtain ⟨-, d20, d21⟩ := Q2.out
        clear hb2 c10 c11 d10 d11
        go_wp2_with fail
        refine (within_i64_t _ _ _ _ hx.1 hx.2).mono ?_; rintro e w' ⟨rfl, rfl⟩
        go_wp2_with fail
        refine (within_i64_t _ _ _ _ hy.1 hy.2).mono ?_; rintro e w' ⟨rfl, rfl⟩
        go_wp2_with fail
        refine (HS.out _).mono ?_; rintro e w3 ⟨rfl, hb3⟩
        have HB3 := Lib.hid (bel_alloc w3 (.cells #[.int .i64 g, .int .i64 R] 25))
        have HB4 := Lib.hid (bel_call (bel_call HB2.out hb3) HB3.out)
        have A4 := Lib.hid ((A2.out.call hb3).alloc (.cells #[.int .i64 g, .int .i64 R] 25))
        obtain ⟨-, c30, c31⟩ := A2.out.call hb3
        obtain ⟨-, c40, c41⟩ := A4.out
        have T4 := Lib.hid (CkAt.new w3 g R 25)
        clear hb3 c20 c21 d20 d21
        go_wp2_with fail
        refine (C1.out _).mono ?_; rintro e w5 ⟨rfl, hb5⟩
        obtain ⟨-, c50, c51⟩ := A4.out.call hb5
        obtain ⟨-, t50, t51⟩ := T4.out.call hb5
        have HB5 := Lib.hid (bel_call HB4.out hb5)
        clear hb5
        go_wp2_with fail
        refine (C2.out _).mono ?_; rintro e w6 ⟨rfl, hb6⟩
        have HB6 := Lib.hid (bel_call HB5.out hb6)
        clear hb6
        go_wp2
        go_ret3
        exact ⟨by first | rfl | (rw [Int.add_zero]; rfl), HB6.out⟩
    · have y2 : ¬ m1 - bh < bf := by omega
      rcases hea with ⟨z1, rfl⟩ | ⟨z1, rfl⟩
      · have z2 : 0 ≤ N - t2 := by omega
        go_enter Try.func34, Try.ntmps34
        go_wp2_with fail
        refine (implVC_any m1 o _).mono ?_; rw [HV.out]; rintro e w1 ⟨rfl, hb1⟩
        have HB1 := Lib.hid (((bel_alloc w _).alloc (by simp) _).trans (hb1.mono (by simp; omega)))
        have A1 := Lib.hid (((CkAt.new w m1 o _).alloc _).call hb1)
        have Q1 := Lib.hid ((CkAt.new _ q u _).call hb1)
        simp only [World.size_alloc] at Q1
        obtain ⟨-, c10, c11⟩ := A1.out
        obtain ⟨-, d10, d11⟩ := Q1.out
        clear hb1
        go_wp2_with fail
        refine (implVC_any q u _).mono ?_; rw [HV2.out]; rintro e w2 ⟨rfl, hb2⟩
        have HB2 := Lib.hid (bel_call HB1.out hb2)
        have A2 := Lib.hid (A1.out.call hb2)
        have Q2 := Lib.hid (Q1.out.call hb2)
        obtain ⟨-, c20, c21⟩ := A2.out
        obtain ⟨-, d20, d21⟩ := Q2.out
        clear hb2 c10 c11 d10 d11
        go_wp2_with fail
        refine (within_i64_t _ _ _ _ hx.1 hx.2).mono ?_; rintro e w' ⟨rfl, rfl⟩
        go_wp2_with fail
        refine (within_i64_t _ _ _ _ hy.1 hy.2).mono ?_; rintro e w' ⟨rfl, rfl⟩
        go_wp2_with fail
        refine (HS.out _).mono ?_; rintro e w3 ⟨rfl, hb3⟩
        have HB3 := Lib.hid (bel_alloc w3 (.cells #[.int .i64 g, .int .i64 R] 25))
        have HB4 := Lib.hid (bel_call (bel_call HB2.out hb3) HB3.out)
        have A4 := Lib.hid ((A2.out.call hb3).alloc (.cells #[.int .i64 g, .int .i64 R] 25))
        obtain ⟨-, c30, c31⟩ := A2.out.call hb3
        obtain ⟨-, c40, c41⟩ := A4.out
        have T4 := Lib.hid (CkAt.new w3 g R 25)
        clear hb3 c20 c21 d20 d21
        go_wp2_with fail
        refine (C1.out _).mono ?_; rintro e w5 ⟨rfl, hb5⟩
        obtain ⟨-, c50, c51⟩ := A4.out.call hb5
        obtain ⟨-, t50, t51⟩ := T4.out.call hb5
        have HB5 := Lib.hid (bel_call HB4.out hb5)
        clear hb5
        go_wp2_with fail
        refine (C2.out _).mono ?_; rintro e w6 ⟨rfl, hb6⟩
        have HB6 := Lib.hid (bel_call HB5.out hb6)
        clear hb6
        go_wp2
        go_ret3
        exact ⟨by first | rfl | (rw [Int.add_zero]; rfl), HB6.out⟩
      · have z2 : ¬ 0 ≤ N - t2 := by omega
        go_enter Try.func34, Try.ntmps34
        go_wp2_with fail
        refine (implVC_any m1 o _).mono ?_; rw [HV.out]; rintro e w1 ⟨rfl, hb1⟩
        have HB1 := Lib.hid (((bel_alloc w _).alloc (by simp) _).trans (hb1.mono (by simp; omega)))
        have A1 := Lib.hid (((CkAt.new w m1 o _).alloc _).call hb1)
        have Q1 := Lib.hid ((CkAt.new _ q u _).call hb1)
        simp only [World.size_alloc] at Q1
        obtain ⟨-, c10, c11⟩ := A1.out
        obtain ⟨-, d10, d11⟩ := Q1.out
        clear hb1
        go_wp2_with fail
        refine (implVC_any q u _).mono ?_; rw [HV2.out]; rintro e w2 ⟨rfl, hb2⟩
        have HB2 := Lib.hid (bel_call HB1.out hb2)
        have A2 := Lib.hid (A1.out.call hb2)
        have Q2 := Lib.hid (Q1.out.call hb2)
        obtain ⟨-, c20, c21⟩ := A2.out
        obtain ⟨-, d20, d21⟩ := Q2.out
        clear hb2 c10 c11 d10 d11
        go_wp2_with fail
        refine (within_i64_t _ _ _ _ hx.1 hx.2).mono ?_; rintro e w' ⟨rfl, rfl⟩
        go_wp2_with fail
        refine (within_i64_t _ _ _ _ hy.1 hy.2).mono ?_; rintro e w' ⟨rfl, rfl⟩
        go_wp2_with fail
        refine (HS.out _).mono ?_; rintro e w3 ⟨rfl, hb3⟩
        have HB3 := Lib.hid (bel_alloc w3 (.cells #[.int .i64 g, .int .i64 R] 25))
        have HB4 := Lib.hid (bel_call (bel_call HB2.out hb3) HB3.out)
        have A4 := Lib.hid ((A2.out.call hb3).alloc (.cells #[.int .i64 g, .int .i64 R] 25))
        obtain ⟨-, c30, c31⟩ := A2.out.call hb3
        obtain ⟨-, c40, c41⟩ := A4.out
        have T4 := Lib.hid (CkAt.new w3 g R 25)
        clear hb3 c20 c21 d20 d21
        go_wp2_with fail
        refine (C1.out _).mono ?_; rintro e w5 ⟨rfl, hb5⟩
        obtain ⟨-, c50, c51⟩ := A4.out.call hb5
        obtain ⟨-, t50, t51⟩ := T4.out.call hb5
        have HB5 := Lib.hid (bel_call HB4.out hb5)
        clear hb5
        go_wp2_with fail
        refine (C2.out _).mono ?_; rintro e w6 ⟨rfl, hb6⟩
        have HB6 := Lib.hid (bel_call HB5.out hb6)
        clear hb6
        go_wp2
        go_ret3
        exact ⟨by first | rfl | (rw [Int.add_zero]; rfl), HB6.out⟩
theorem implNear_t (p o q u bf bh : Int) (w : World) (hv : clkB p o = true) (hv2 : clkB q u = true) (hx : 0 ≤ bf ∧ bf ≤ 100000) (hy : 0 ≤ bh ∧ bh ≤ 100000) :
    Calls Try.prog 34 #[.agg #[.int .i64 p, .int .i64 o], .agg #[.int .i64 q, .int .i64 u], .int .i64 bf, .int .i64 bh] w fun e w' => e = .returned (.tuple #[.int .i64 ((nearK p o q u bf bh (nearN p q).toNat : Nat) : Int), .int .i64 (nearN p q), .bool true]) ∧ Below w.heap.size w w' := by
  obtain ⟨⟨a1, a2⟩, a3, a4⟩ := clkB_iff.1 hv
  obtain ⟨⟨b1, b2⟩, b3, b4⟩ := clkB_iff.1 hv2
  obtain ⟨g1, g2, g3⟩ := gcdZ_bd p q a1 b1
  obtain ⟨n0, n1⟩ := nearN_bd p q a1 b1
  have r0 : 0 ≤ shR p o q u := Int.emod_nonneg _ (by omega)
  have r1 : shR p o q u < (Int.gcd p q : Int) := Int.emod_lt_of_pos _ (by omega)
  obtain ⟨c0, c1, -, -⟩ := befZ_bd (Int.gcd p q : Int) (shR p o q u) (min (bf + 1) p) g1 (by omega) r0
  obtain ⟨d0, d1, -, -⟩ := befZ_bd (Int.gcd p q : Int) (shR p o q u) (max (p - bh) bf + 1) g1 (by omega) r0
  rw [near_eq p o q u bf bh a1 b1 hx.1 hy.1]
  refine implNear_core p o q u bf bh _ _ _ (min (bf + 1) p) (max (p - bh) bf) _ _ _ w hv hv2 hx hy (fun w => implShift p o q u w hv hv2)
    (fun w => before_any _ _ _ w g1 (by omega) r0 (by omega) (by omega) (by omega)) (fun w => before_any _ _ _ w g1 (by omega) r0 (by omega) (by omega) (by omega)) g1 g2 rfl ⟨n0, by omega⟩ ⟨c0, by omega⟩ ⟨d0, by omega⟩ (by omega) (by omega) (by omega)
set_option maxHeartbeats 2000000 in
theorem walk_FnExactNearEdges (p o q u bf bh : Int) (w : World) (_wp : (Lit.int .i64 p).wf = true) (_wo : (Lit.int .i64 o).wf = true) (_wq : (Lit.int .i64 q).wf = true) (_wu : (Lit.int .i64 u).wf = true) (_wbf : (Lit.int .i64 bf).wf = true) (_wbh : (Lit.int .i64 bh).wf = true) :
    Calls Try.prog 10 #[.agg #[.int .i64 p, .int .i64 o], .agg #[.int .i64 q, .int .i64 u], .int .i64 bf, .int .i64 bh] w fun e w' => e = .returned (.bool true) ∧ Below w.heap.size w w' := by
  obtain ⟨r, n, c, hS, hI⟩ : ∃ (r n : Int) (c : Bool), (∀ w, Calls Try.prog 33 #[.agg #[.int .i64 p, .int .i64 o], .agg #[.int .i64 q, .int .i64 u], .int .i64 bf, .int .i64 bh] w fun e w' => e = .returned (.tuple #[.int .i64 r, .int .i64 n, .bool c]) ∧ Below w.heap.size w w') ∧ (∀ w, Calls Try.prog 34 #[.agg #[.int .i64 p, .int .i64 o], .agg #[.int .i64 q, .int .i64 u], .int .i64 bf, .int .i64 bh] w fun e w' => e = .returned (.tuple #[.int .i64 r, .int .i64 n, .bool c]) ∧ Below w.heap.size w w') := by
    cases hv : clkB p o with
    | false => exact ⟨_, _, _, fun w => specNear_v p o q u bf bh w hv, fun w => implNear_v p o q u bf bh w hv⟩
    | true =>
      cases hv2 : clkB q u with
      | false => exact ⟨_, _, _, fun w => specNear_w p o q u bf bh w hv hv2, fun w => implNear_w p o q u bf bh w hv hv2⟩
      | true =>
        by_cases hx : 0 ≤ bf ∧ bf ≤ 100000
        · by_cases hy : 0 ≤ bh ∧ bh ≤ 100000
          · exact ⟨_, _, _, fun w => specNear_t p o q u bf bh w hv hv2 hx hy, fun w => implNear_t p o q u bf bh w hv hv2 hx hy⟩
          · exact ⟨_, _, _, fun w => specNear_y p o q u bf bh w hv hv2 hx hy, fun w => implNear_y p o q u bf bh w hv hv2 hx hy⟩
        · exact ⟨_, _, _, fun w => specNear_x p o q u bf bh w hv hv2 hx, fun w => implNear_x p o q u bf bh w hv hv2 hx⟩
  have HS := Lib.hid hS
  have HI := Lib.hid hI
  clear hS hI
  go_enter Try.func10, Try.ntmps10
  have A0 := (CkAt.new w p o 23).alloc (.cells #[.int .i64 q, .int .i64 u] 23)
  have Q0 := CkAt.new (w.alloc (.cells #[.int .i64 p, .int .i64 o] 23)) q u 23
  simp only [World.size_alloc] at Q0
  obtain ⟨-, c00, c01⟩ := A0
  obtain ⟨-, d00, d01⟩ := Q0
  have hD0 : CkDn w ((w.alloc (.cells #[.int .i64 p, .int .i64 o] 23)).alloc (.cells #[.int .i64 q, .int .i64 u] 23)) := (bel_alloc w _).alloc (by simp) _
  go_wp2
  go_region_held3 (fun W => W.cell? ⟨w.heap.size, 0, none⟩ = some (.int .i64 p) ∧ W.cell? ⟨w.heap.size, 1, none⟩ = some (.int .i64 o) ∧ W.cell? ⟨w.heap.size + 1, 0, none⟩ = some (.int .i64 q) ∧ W.cell? ⟨w.heap.size + 1, 1, none⟩ = some (.int .i64 u) ∧ CkDn w W) (first | (go_split_ands; (refine ⟨?_, ?_, ?_, ?_, ?_⟩ <;> (first | (with_reducible assumption) | ((with_reducible apply cell_keptK) <;> (with_reducible assumption)) | ((with_reducible refine cell_drK ?_); (with_reducible assumption)) | ((with_reducible refine CkDn.dr ?_); (with_reducible assumption)) | ((with_reducible apply CkDn.call) <;> (with_reducible assumption)))))) (first | (go_at_call 16; first | ((with_reducible refine (toCk_any p o _).mono ?_); rintro e wa ⟨rfl, hba⟩) | ((with_reducible refine (toCk_any q u _).mono ?_); rintro e wb ⟨rfl, hbb⟩)) | (go_at_call 33; (with_reducible refine (HS.out _).mono ?_); rintro e wc ⟨rfl, hbc⟩))
  all_goals
    rename_i hHeld
    obtain ⟨e0, e1, e2, e3, hD1⟩ := hHeld
    go_wp2
    go_region_held3 (fun W => W.cell? ⟨w.heap.size, 0, none⟩ = some (.int .i64 p) ∧ W.cell? ⟨w.heap.size, 1, none⟩ = some (.int .i64 o) ∧ W.cell? ⟨w.heap.size + 1, 0, none⟩ = some (.int .i64 q) ∧ W.cell? ⟨w.heap.size + 1, 1, none⟩ = some (.int .i64 u) ∧ CkDn w W) (first | (go_split_ands; (refine ⟨?_, ?_, ?_, ?_, ?_⟩ <;> (first | (with_reducible assumption) | ((with_reducible apply cell_keptK) <;> (with_reducible assumption)) | ((with_reducible refine cell_drK ?_); (with_reducible assumption)) | ((with_reducible refine CkDn.dr ?_); (with_reducible assumption)) | ((with_reducible apply CkDn.call) <;> (with_reducible assumption)))))) (first | (go_at_call 16; first | ((with_reducible refine (toCk_any p o _).mono ?_); rintro e wa ⟨rfl, hba⟩) | ((with_reducible refine (toCk_any q u _).mono ?_); rintro e wb ⟨rfl, hbb⟩)) | (go_at_call 34; (with_reducible refine (HI.out _).mono ?_); rintro e wc ⟨rfl, hbc⟩))
    all_goals
      rename_i hHeld2
      have HD2 := Lib.hid hHeld2.2.2.2.2
      clear hHeld2
      go_wp2
      go_ret
      exact ⟨rfl, HD2.out⟩
end Go.Proofs.Ytafecdmcbpnniaa
