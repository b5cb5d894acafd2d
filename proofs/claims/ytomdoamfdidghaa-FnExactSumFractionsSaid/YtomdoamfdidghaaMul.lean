/- The product of two fractions, on both sides. -/
import Derived.Test.YtomdoamfdidghaaOver
import Derived.Test.YtomdoamfdidghaaFrac
import Derived.Test.YtomdoamfdidghaaKept
import Derived.Test.YtomdoamfdidghaaPair
import Derived.Deep.RegionWith
import Derived.Deep.RegionHeld3
namespace Go.Proofs.Ytomdoamfdidghaa
open Go.RowKit

def ovB (A : Nat) : Bool := decide (A ≤ 1000000000000000000)
def ovI (s : Bool) (A : Nat) : Int := if A ≤ 1000000000000000000 then sgI s A else 0
theorem over_one (s : Bool) (A : Nat) (w : World) :
    Calls Try.prog 39 #[.agg #[.bool s, .int .u64 (hiW A), .int .u64 (loW A)], .int .i64 1] w fun e w' => e = .returned (.tuple #[.int .i64 (ovI s A), .bool (ovB A)]) ∧ Below w.heap.size w w' := by
  by_cases h : A ≤ 1000000000000000000
  · have := over_t s A 1 w (by omega) (by omega) (by rw [Nat.div_one]; exact h)
    rw [Nat.div_one] at this
    unfold ovI ovB
    rw [if_pos h, decide_eq_true h]
    exact this
  · have := over_f s A 1 w (by omega) (by omega) (by rw [Nat.div_one]; omega)
    unfold ovI ovB
    rw [if_neg h, decide_eq_false h]
    exact this
/-- have two numbers different signs -/
def sgB (a b : Int) : Bool := decide (a < 0) != decide (b < 0)
/-- the product of the sizes -/
def szN (a b : Int) : Nat := a.natAbs * b.natAbs
theorem product_s (a b : Int) (w : World) (a0 : -9223372036854775807 ≤ a) (a1 : a ≤ 9223372036854775807) (b0 : -9223372036854775807 ≤ b) (b1 : b ≤ 9223372036854775807) :
    Calls Try.prog 36 #[.int .i64 a, .int .i64 b] w fun e w' => e = .returned (.agg #[.bool (sgB a b), .int .u64 (hiW (szN a b)), .int .u64 (loW (szN a b))]) ∧ Below w.heap.size w w' := product_any a b w a0 a1 b0 b1
theorem small_any (A : Nat) (w : World) :
    Calls Try.prog 48 #[.agg #[.int .u64 (hiW A), .int .u64 (loW A)]] w fun e w' => e = .returned (.tuple #[.int .i64 (ovI false A), .bool (ovB A)]) ∧ Below w.heap.size w w' := by
  have hw := w_id A
  have hl := loW_lt A
  by_cases h : A ≤ 1000000000000000000
  · have e1 : ovI false A = (loW A : Int) := by
      have : loW A = A := by unfold loW; omega
      unfold ovI sgI; rw [if_pos h, this]; rfl
    have e2 : ovB A = true := decide_eq_true h
    have h0 : hiW A = 0 := by unfold hiW; omega
    have h1 : loW A ≤ 1000000000000000000 := by unfold loW; omega
    rw [e1, e2, h0]
    generalize loW A = x at *
    clear hw e1 e2 h0
    go_enter Try.func48, Try.ntmps48
    go_wp2
    go_ret2
    exact ⟨rfl, (Below.refl _ _).alloc (Nat.le_refl _) _⟩
  · have e1 : ovI false A = 0 := if_neg h
    have e2 : ovB A = false := decide_eq_false h
    rw [e1, e2]
    by_cases h0 : 0 < hiW A
    · have t1 : decide ((0 : Int) < (hiW A : Int)) = true := by simp; omega
      clear hw e1 e2
      generalize hiW A = y at *
      go_enter Try.func48, Try.ntmps48
      go_wp2
      go_ret2
      exact ⟨rfl, (Below.refl _ _).alloc (Nat.le_refl _) _⟩
    · have h1 : 1000000000000000000 < loW A := by omega
      have t1 : decide ((0 : Int) < (hiW A : Int)) = false := by simp; omega
      have t2 : decide ((1000000000000000000 : Int) < (loW A : Int)) = true := by simp; omega
      clear hw e1 e2
      generalize hiW A = y at *
      generalize loW A = x at *
      go_enter Try.func48, Try.ntmps48
      go_wp2
      go_ret2
      exact ⟨rfl, (Below.refl _ _).alloc (Nat.le_refl _) _⟩

/-- both parts of the product -/
def mA (n d p q : Int) : Nat := szN (mkN n q) (mkN p d)
def mM (n d p q : Int) : Nat := szN (mkD p d) (mkD n q)
def mS (n d p q : Int) : Bool := sgB (mkN n q) (mkN p d)
theorem mk_bd (n q : Int) (hq : 1 ≤ q) (hq2 : q ≤ 1000000000000000000) (hn1 : -1000000000000000000 ≤ n) (hn2 : n ≤ 1000000000000000000) :
    -1000000000000000000 ≤ mkN n q ∧ mkN n q ≤ 1000000000000000000 ∧ 0 ≤ mkD n q ∧ mkD n q ≤ 1000000000000000000 := by
  obtain ⟨e1, e2⟩ := mk_pos n q (by omega)
  have hp := gcd_pos n q (by omega)
  rw [e1, e2]
  generalize ((Int.gcd n q : Nat) : Int) = G at *
  refine ⟨?_, ?_, Int.ediv_nonneg (by omega) (by omega), Int.le_trans (Int.ediv_le_self _ (by omega)) hq2⟩
  · have h := Int.natAbs_tdiv n G
    have h2 : (n.tdiv G).natAbs ≤ n.natAbs := by rw [h]; exact Nat.div_le_self _ _
    omega
  · have h := Int.natAbs_tdiv n G
    have h2 : (n.tdiv G).natAbs ≤ n.natAbs := by rw [h]; exact Nat.div_le_self _ _
    omega

set_option maxHeartbeats 4000000 in
set_option maxRecDepth 100000 in
theorem implMul_t (n d p q : Int) (w : World) (hf : fracB n d = true) (hg : fracB p q = true) (hs : (ovB (mA n d p q) && ovB (mM n d p q)) = true) :
    Calls Try.prog 33 #[.agg #[.int .i64 n, .int .i64 d], .agg #[.int .i64 p, .int .i64 q]] w fun e w' => e = .returned (.tuple #[.agg #[.int .i64 (ovI (mS n d p q) (mA n d p q)), .int .i64 (ovI false (mM n d p q))], .bool true]) ∧ Below w.heap.size w w' := by
  have hf1 : 1 ≤ d ∧ d ≤ 1000000000000000000 ∧ -1000000000000000000 ≤ n ∧ n ≤ 1000000000000000000 := by
    simp [fracB] at hf; omega
  have hg1 : 1 ≤ q ∧ q ≤ 1000000000000000000 ∧ -1000000000000000000 ≤ p ∧ p ≤ 1000000000000000000 := by
    simp [fracB] at hg; omega
  have HF := Lib.hid hf
  have HG := Lib.hid hg
  obtain ⟨d0, d1, n0, n1⟩ := hf1
  obtain ⟨q0, q1, p0, p1⟩ := hg1
  have b1 := mk_bd n q q0 q1 n0 n1
  have b2 := mk_bd p d d0 d1 p0 p1
  obtain ⟨e1, e2⟩ := mk_pos n q (by omega)
  obtain ⟨e3, e4⟩ := mk_pos p d (by omega)
  have hp1 := gcd_pos n q (by omega)
  have hp2 := gcd_pos p d (by omega)
  obtain ⟨G, hG⟩ : ∃ G : Int, ((Int.gcd n q : Nat) : Int) = G := ⟨_, rfl⟩
  obtain ⟨K, hK⟩ : ∃ K : Int, ((Int.gcd p d : Nat) : Int) = K := ⟨_, rfl⟩
  have hgl : G ≤ q := by have := Nat.le_of_dvd (by omega) (Nat.gcd_dvd_right n.natAbs q.natAbs); rw [← hG]; unfold Int.gcd; omega
  have hkl : K ≤ d := by have := Nat.le_of_dvd (by omega) (Nat.gcd_dvd_right p.natAbs d.natAbs); rw [← hK]; unfold Int.gcd; omega
  rw [hG] at e1 e2 hp1
  rw [hK] at e3 e4 hp2
  have hA : mA n d p q = szN (n.tdiv G) (p.tdiv K) := by unfold mA; rw [e1, e3]
  have hM : mM n d p q = szN (d / K) (q / G) := by unfold mM; rw [e2, e4]
  have hS : mS n d p q = sgB (n.tdiv G) (p.tdiv K) := by unfold mS; rw [e1, e3]
  rw [e1, e2] at b1
  rw [e3, e4] at b2
  rw [hA, hM] at hs
  rw [hA, hM, hS]
  have w1' : IntKind.i64.wrap (n.tdiv G) = n.tdiv G := IntWalk.i64_in _ (by omega)
  have w2' : IntKind.i64.wrap (p.tdiv K) = p.tdiv K := IntWalk.i64_in _ (by omega)
  have w3' : IntKind.i64.wrap (d / K) = d / K := IntWalk.i64_in _ (by omega)
  have w4' : IntKind.i64.wrap (q / G) = q / G := IntWalk.i64_in _ (by omega)
  have w5' : IntKind.i64.wrap (d.tdiv K) = d / K := by rw [Int.tdiv_eq_ediv_of_nonneg (by omega)]; exact w3'
  have w6' : IntKind.i64.wrap (q.tdiv G) = q / G := by rw [Int.tdiv_eq_ediv_of_nonneg (by omega)]; exact w4'
  have gc1 : ∀ w, Calls Try.prog 35 #[.int .i64 (n.natAbs : Int), .int .i64 q] w fun e w' => e = .returned (.int .i64 G) ∧ ∃ q, w' = w.drewN q := fun w =>
    (implGcd (n.natAbs : Int) q w (by omega) (by omega) (by omega) (by omega)).mono fun e w' h => by rw [gcd_sz, hG] at h; exact h
  have gc2 : ∀ w, Calls Try.prog 35 #[.int .i64 (p.natAbs : Int), .int .i64 d] w fun e w' => e = .returned (.int .i64 K) ∧ ∃ q, w' = w.drewN q := fun w =>
    (implGcd (p.natAbs : Int) d w (by omega) (by omega) (by omega) (by omega)).mono fun e w' h => by rw [gcd_sz, hK] at h; exact h
  have GC1 := Lib.hid gc1
  have GC2 := Lib.hid gc2
  have z1 : (G == 0) = false := by simp; omega
  have z2 : (K == 0) = false := by simp; omega
  have sg0 : sgB (d / K) (q / G) = false := by
    have u1 : decide (d / K < 0) = false := by simp; omega
    have u2 : decide (q / G < 0) = false := by simp; omega
    unfold sgB; rw [u1, u2]; rfl
  have z3 : ¬ G = 0 := by omega
  have z4 : ¬ K = 0 := by omega
  simp only [Bool.and_eq_true] at hs
  obtain ⟨o1, o2⟩ := hs
  clear hf hg e1 e2 e3 e4 hG hK hA hM hS gc1 gc2 w3' w4'
  go_enter Try.func33, Try.ntmps33
  go_wp2_with fail
  refine (implValid n d _).mono ?_; rw [HF.out]; rintro e w1 ⟨rfl, hb1⟩
  have j0 := cell_kept hb1 (a := ⟨w.heap.size, 0, none⟩) (v := .int .i64 n) (by simp [go_sem])
  have j1 := cell_kept hb1 (a := ⟨w.heap.size, 1, none⟩) (v := .int .i64 d) (by simp [go_sem])
  have j2 := cell_kept hb1 (a := ⟨w.heap.size + 1, 0, none⟩) (v := .int .i64 p) (by simp [go_sem])
  have j3 := cell_kept hb1 (a := ⟨w.heap.size + 1, 1, none⟩) (v := .int .i64 q) (by simp [go_sem])
  have j4 := cell_kept hb1 (a := ⟨w.heap.size + 1 + 1, 0, none⟩) (v := .int .i64 0) (by simp [go_sem])
  have j5 := cell_kept hb1 (a := ⟨w.heap.size + 1 + 1, 1, none⟩) (v := .int .i64 0) (by simp [go_sem])
  have HB1 := Lib.hid hb1
  clear hb1
  go_wp2_with fail
  refine (implValid p q _).mono ?_; rw [HG.out]; rintro e w2 ⟨rfl, hb2⟩
  have k0 := cell_kept hb2 j0
  have k1 := cell_kept hb2 j1
  have k2 := cell_kept hb2 j2
  have k3 := cell_kept hb2 j3
  have k4 := cell_kept hb2 j4
  have k5 := cell_kept hb2 j5
  have HB2 := Lib.hid (HB1.out.trans (hb2.mono HB1.out.size))
  clear hb2 j0 j1 j2 j3 j4 j5
  go_wp2
  go_quiet (first | (go_at_call 50; exact quiet_eq (sizeOf_any _ _ (by omega) (by omega))) | (go_at_call 35; exact Calls.quiet_of (GC1.out _)))
  go_wp2
  generalize hw3 : w2.drewN nq = w3
  have k0 : w3.cell? ⟨w.heap.size, 0, none⟩ = some (.int .i64 n) := by rw [← hw3]; exact k0
  have k1 : w3.cell? ⟨w.heap.size, 1, none⟩ = some (.int .i64 d) := by rw [← hw3]; exact k1
  have k2 : w3.cell? ⟨w.heap.size + 1, 0, none⟩ = some (.int .i64 p) := by rw [← hw3]; exact k2
  have k3 : w3.cell? ⟨w.heap.size + 1, 1, none⟩ = some (.int .i64 q) := by rw [← hw3]; exact k3
  have k4 : w3.cell? ⟨w.heap.size + 1 + 1, 0, none⟩ = some (.int .i64 0) := by rw [← hw3]; exact k4
  have k5 : w3.cell? ⟨w.heap.size + 1 + 1, 1, none⟩ = some (.int .i64 0) := by rw [← hw3]; exact k5
  have hb3' := bdw HB2.out nq
  rw [hw3] at hb3'
  have HB3 := Lib.hid hb3'
  clear hb3'
  clear hw3
  go_quiet (first | (go_at_call 50; exact quiet_eq (sizeOf_any _ _ (by omega) (by omega))) | (go_at_call 35; exact Calls.quiet_of (GC2.out _)))
  go_wp2
  generalize hw4 : w3.drewN nq = w4
  have k0 : w4.cell? ⟨w.heap.size, 0, none⟩ = some (.int .i64 n) := by rw [← hw4]; exact k0
  have k1 : w4.cell? ⟨w.heap.size, 1, none⟩ = some (.int .i64 d) := by rw [← hw4]; exact k1
  have k2 : w4.cell? ⟨w.heap.size + 1, 0, none⟩ = some (.int .i64 p) := by rw [← hw4]; exact k2
  have k3 : w4.cell? ⟨w.heap.size + 1, 1, none⟩ = some (.int .i64 q) := by rw [← hw4]; exact k3
  have k4 : w4.cell? ⟨w.heap.size + 1 + 1, 0, none⟩ = some (.int .i64 0) := by rw [← hw4]; exact k4
  have k5 : w4.cell? ⟨w.heap.size + 1 + 1, 1, none⟩ = some (.int .i64 0) := by rw [← hw4]; exact k5
  have hb4' := bdw HB3.out nq
  rw [hw4] at hb4'
  have HB4 := Lib.hid hb4'
  clear hb4'
  clear hw4
  go_region_held3 (fun w' => w'.cell? ⟨w.heap.size, 0, none⟩ = some (.int .i64 n) ∧ w'.cell? ⟨w.heap.size, 1, none⟩ = some (.int .i64 d) ∧ w'.cell? ⟨w.heap.size + 1, 0, none⟩ = some (.int .i64 p) ∧ w'.cell? ⟨w.heap.size + 1, 1, none⟩ = some (.int .i64 q) ∧ w'.cell? ⟨w.heap.size + 1 + 1, 0, none⟩ = some (.int .i64 0) ∧ w'.cell? ⟨w.heap.size + 1 + 1, 1, none⟩ = some (.int .i64 0)) (first | (go_keep; done) | (go_split_ands; (refine ⟨?_, ?_, ?_, ?_, ?_, ?_⟩ <;> exact cell_kept (by assumption) (by assumption))) | ((try dsimp only); (repeat' apply And.intro) <;> (first | assumption | (go_keep; done) | (go_split_ands; exact cell_kept (by assumption) (by assumption))))) (first | (go_at_call 36; refine (product_s (n.tdiv G) (p.tdiv K) _ (by omega) (by omega) (by omega) (by omega)).mono ?_; rintro e wa ⟨rfl, hba⟩) | (go_at_call 39; refine (over_one _ _ _).mono ?_; rw [o1]; rintro e wb ⟨rfl, hbb⟩))
  have hb5 := HB4.out.drew
  have hb6 := hb5.trans (hba.mono hb5.size)
  have HB6 := Lib.hid (hb6.trans (hbb.mono hb6.size))
  clear hb5 hb6 hba hbb k0 k1 k2 k3 k4 k5
  go_wp2
  go_region_held3 (fun w' => w'.cell? ⟨w.heap.size, 0, none⟩ = some (.int .i64 n) ∧ w'.cell? ⟨w.heap.size, 1, none⟩ = some (.int .i64 d) ∧ w'.cell? ⟨w.heap.size + 1, 0, none⟩ = some (.int .i64 p) ∧ w'.cell? ⟨w.heap.size + 1, 1, none⟩ = some (.int .i64 q) ∧ w'.cell? ⟨w.heap.size + 1 + 1, 0, none⟩ = some (.int .i64 0) ∧ w'.cell? ⟨w.heap.size + 1 + 1, 1, none⟩ = some (.int .i64 0)) (first | (go_keep; done) | (go_split_ands; (refine ⟨?_, ?_, ?_, ?_, ?_, ?_⟩ <;> exact cell_kept (by assumption) (by assumption))) | ((try dsimp only); (repeat' apply And.intro) <;> (first | assumption | (go_keep; done) | (go_split_ands; exact cell_kept (by assumption) (by assumption))))) (first | (go_at_call 36; refine (product_s (d / K) (q / G) _ (by omega) (by omega) (by omega) (by omega)).mono ?_; rw [sg0]; rintro e wc ⟨rfl, hbc⟩) | (go_at_call 39; refine (over_one _ _ _).mono ?_; rw [o2]; rintro e wd ⟨rfl, hbd⟩))
  have hb4 := HB6.out.drew
  have hb5 := hb4.trans (hbc.mono hb4.size)
  have HB7 := Lib.hid (hb5.trans (hbd.mono hb5.size))
  clear hb4 hb5 hbc hbd
  have fz0 : wd.frozen? ⟨w.heap.size + 1 + 1, 0, none⟩ = false := (HB7.out.frozen (p := ⟨w.heap.size + 1 + 1, 0, none⟩) (by simp)).trans (by have h := (At2.new ((w.alloc (.cells #[.int .i64 n, .int .i64 d] 24)).alloc (.cells #[.int .i64 p, .int .i64 q] 24)) (.int .i64 0) (.int .i64 0) 24).2.2.1; simp only [World.size_alloc] at h; exact h)
  have fz1 : wd.frozen? ⟨w.heap.size + 1 + 1, 1, none⟩ = false := (HB7.out.frozen (p := ⟨w.heap.size + 1 + 1, 1, none⟩) (by simp)).trans (by have h := (At2.new ((w.alloc (.cells #[.int .i64 n, .int .i64 d] 24)).alloc (.cells #[.int .i64 p, .int .i64 q] 24)) (.int .i64 0) (.int .i64 0) 24).2.2.2; simp only [World.size_alloc] at h; exact h)
  go_wp2
  refine bodyPost_ret (v := .tuple #[.agg #[.int .i64 (ovI (sgB (n.tdiv G) (p.tdiv K)) (szN (n.tdiv G) (p.tdiv K))), .int .i64 (ovI false (szN (d / K) (q / G)))], .bool true]) (by simp [results, Try.results33, go_sem, *]) rfl ⟨rfl, ?_⟩
  exact (((((Below.refl w.heap.size w).alloc (Nat.le_refl _) _).alloc (by simp) _).alloc (by simp; omega) _).trans (HB7.out.mono (by simp; omega))).setCell (by simp; omega) _ |>.setCell (by simp; omega) _
set_option maxHeartbeats 4000000 in
set_option maxRecDepth 100000 in
theorem implMul_ff (n d p q : Int) (w : World) (hf : fracB n d = true) (hg : fracB p q = true) (hs1 : ovB (mA n d p q) = false) (hs2 : ovB (mM n d p q) = false) :
    Calls Try.prog 33 #[.agg #[.int .i64 n, .int .i64 d], .agg #[.int .i64 p, .int .i64 q]] w fun e w' => e = .returned (.tuple #[.agg #[.int .i64 0, .int .i64 0], .bool false]) ∧ Below w.heap.size w w' := by
  have hf1 : 1 ≤ d ∧ d ≤ 1000000000000000000 ∧ -1000000000000000000 ≤ n ∧ n ≤ 1000000000000000000 := by
    simp [fracB] at hf; omega
  have hg1 : 1 ≤ q ∧ q ≤ 1000000000000000000 ∧ -1000000000000000000 ≤ p ∧ p ≤ 1000000000000000000 := by
    simp [fracB] at hg; omega
  have HF := Lib.hid hf
  have HG := Lib.hid hg
  obtain ⟨d0, d1, n0, n1⟩ := hf1
  obtain ⟨q0, q1, p0, p1⟩ := hg1
  have b1 := mk_bd n q q0 q1 n0 n1
  have b2 := mk_bd p d d0 d1 p0 p1
  obtain ⟨e1, e2⟩ := mk_pos n q (by omega)
  obtain ⟨e3, e4⟩ := mk_pos p d (by omega)
  have hp1 := gcd_pos n q (by omega)
  have hp2 := gcd_pos p d (by omega)
  obtain ⟨G, hG⟩ : ∃ G : Int, ((Int.gcd n q : Nat) : Int) = G := ⟨_, rfl⟩
  obtain ⟨K, hK⟩ : ∃ K : Int, ((Int.gcd p d : Nat) : Int) = K := ⟨_, rfl⟩
  have hgl : G ≤ q := by have := Nat.le_of_dvd (by omega) (Nat.gcd_dvd_right n.natAbs q.natAbs); rw [← hG]; unfold Int.gcd; omega
  have hkl : K ≤ d := by have := Nat.le_of_dvd (by omega) (Nat.gcd_dvd_right p.natAbs d.natAbs); rw [← hK]; unfold Int.gcd; omega
  rw [hG] at e1 e2 hp1
  rw [hK] at e3 e4 hp2
  have hA : mA n d p q = szN (n.tdiv G) (p.tdiv K) := by unfold mA; rw [e1, e3]
  have hM : mM n d p q = szN (d / K) (q / G) := by unfold mM; rw [e2, e4]
  rw [e1, e2] at b1
  rw [e3, e4] at b2
  rw [hA] at hs1
  rw [hM] at hs2
  have w1' : IntKind.i64.wrap (n.tdiv G) = n.tdiv G := IntWalk.i64_in _ (by omega)
  have w2' : IntKind.i64.wrap (p.tdiv K) = p.tdiv K := IntWalk.i64_in _ (by omega)
  have w3' : IntKind.i64.wrap (d / K) = d / K := IntWalk.i64_in _ (by omega)
  have w4' : IntKind.i64.wrap (q / G) = q / G := IntWalk.i64_in _ (by omega)
  have w5' : IntKind.i64.wrap (d.tdiv K) = d / K := by rw [Int.tdiv_eq_ediv_of_nonneg (by omega)]; exact w3'
  have w6' : IntKind.i64.wrap (q.tdiv G) = q / G := by rw [Int.tdiv_eq_ediv_of_nonneg (by omega)]; exact w4'
  have gc1 : ∀ w, Calls Try.prog 35 #[.int .i64 (n.natAbs : Int), .int .i64 q] w fun e w' => e = .returned (.int .i64 G) ∧ ∃ q, w' = w.drewN q := fun w =>
    (implGcd (n.natAbs : Int) q w (by omega) (by omega) (by omega) (by omega)).mono fun e w' h => by rw [gcd_sz, hG] at h; exact h
  have gc2 : ∀ w, Calls Try.prog 35 #[.int .i64 (p.natAbs : Int), .int .i64 d] w fun e w' => e = .returned (.int .i64 K) ∧ ∃ q, w' = w.drewN q := fun w =>
    (implGcd (p.natAbs : Int) d w (by omega) (by omega) (by omega) (by omega)).mono fun e w' h => by rw [gcd_sz, hK] at h; exact h
  have GC1 := Lib.hid gc1
  have GC2 := Lib.hid gc2
  have z1 : (G == 0) = false := by simp; omega
  have z2 : (K == 0) = false := by simp; omega
  have sg0 : sgB (d / K) (q / G) = false := by
    have u1 : decide (d / K < 0) = false := by simp; omega
    have u2 : decide (q / G < 0) = false := by simp; omega
    unfold sgB; rw [u1, u2]; rfl
  have z3 : ¬ G = 0 := by omega
  have z4 : ¬ K = 0 := by omega
  have o1 := hs1
  have o2 := hs2
  clear hf hg e1 e2 e3 e4 hG hK hA hM gc1 gc2 w3' w4' hs1 hs2
  go_enter Try.func33, Try.ntmps33
  go_wp2_with fail
  refine (implValid n d _).mono ?_; rw [HF.out]; rintro e w1 ⟨rfl, hb1⟩
  have j0 := cell_kept hb1 (a := ⟨w.heap.size, 0, none⟩) (v := .int .i64 n) (by simp [go_sem])
  have j1 := cell_kept hb1 (a := ⟨w.heap.size, 1, none⟩) (v := .int .i64 d) (by simp [go_sem])
  have j2 := cell_kept hb1 (a := ⟨w.heap.size + 1, 0, none⟩) (v := .int .i64 p) (by simp [go_sem])
  have j3 := cell_kept hb1 (a := ⟨w.heap.size + 1, 1, none⟩) (v := .int .i64 q) (by simp [go_sem])
  have j4 := cell_kept hb1 (a := ⟨w.heap.size + 1 + 1, 0, none⟩) (v := .int .i64 0) (by simp [go_sem])
  have j5 := cell_kept hb1 (a := ⟨w.heap.size + 1 + 1, 1, none⟩) (v := .int .i64 0) (by simp [go_sem])
  have HB1 := Lib.hid hb1
  clear hb1
  go_wp2_with fail
  refine (implValid p q _).mono ?_; rw [HG.out]; rintro e w2 ⟨rfl, hb2⟩
  have k0 := cell_kept hb2 j0
  have k1 := cell_kept hb2 j1
  have k2 := cell_kept hb2 j2
  have k3 := cell_kept hb2 j3
  have k4 := cell_kept hb2 j4
  have k5 := cell_kept hb2 j5
  have HB2 := Lib.hid (HB1.out.trans (hb2.mono HB1.out.size))
  clear hb2 j0 j1 j2 j3 j4 j5
  go_wp2
  go_quiet (first | (go_at_call 50; exact quiet_eq (sizeOf_any _ _ (by omega) (by omega))) | (go_at_call 35; exact Calls.quiet_of (GC1.out _)))
  go_wp2
  generalize hw3 : w2.drewN nq = w3
  have k0 : w3.cell? ⟨w.heap.size, 0, none⟩ = some (.int .i64 n) := by rw [← hw3]; exact k0
  have k1 : w3.cell? ⟨w.heap.size, 1, none⟩ = some (.int .i64 d) := by rw [← hw3]; exact k1
  have k2 : w3.cell? ⟨w.heap.size + 1, 0, none⟩ = some (.int .i64 p) := by rw [← hw3]; exact k2
  have k3 : w3.cell? ⟨w.heap.size + 1, 1, none⟩ = some (.int .i64 q) := by rw [← hw3]; exact k3
  have k4 : w3.cell? ⟨w.heap.size + 1 + 1, 0, none⟩ = some (.int .i64 0) := by rw [← hw3]; exact k4
  have k5 : w3.cell? ⟨w.heap.size + 1 + 1, 1, none⟩ = some (.int .i64 0) := by rw [← hw3]; exact k5
  have hb3' := bdw HB2.out nq
  rw [hw3] at hb3'
  have HB3 := Lib.hid hb3'
  clear hb3'
  clear hw3
  go_quiet (first | (go_at_call 50; exact quiet_eq (sizeOf_any _ _ (by omega) (by omega))) | (go_at_call 35; exact Calls.quiet_of (GC2.out _)))
  go_wp2
  generalize hw4 : w3.drewN nq = w4
  have k0 : w4.cell? ⟨w.heap.size, 0, none⟩ = some (.int .i64 n) := by rw [← hw4]; exact k0
  have k1 : w4.cell? ⟨w.heap.size, 1, none⟩ = some (.int .i64 d) := by rw [← hw4]; exact k1
  have k2 : w4.cell? ⟨w.heap.size + 1, 0, none⟩ = some (.int .i64 p) := by rw [← hw4]; exact k2
  have k3 : w4.cell? ⟨w.heap.size + 1, 1, none⟩ = some (.int .i64 q) := by rw [← hw4]; exact k3
  have k4 : w4.cell? ⟨w.heap.size + 1 + 1, 0, none⟩ = some (.int .i64 0) := by rw [← hw4]; exact k4
  have k5 : w4.cell? ⟨w.heap.size + 1 + 1, 1, none⟩ = some (.int .i64 0) := by rw [← hw4]; exact k5
  have hb4' := bdw HB3.out nq
  rw [hw4] at hb4'
  have HB4 := Lib.hid hb4'
  clear hb4'
  clear hw4
  go_region_held3 (fun w' => w'.cell? ⟨w.heap.size, 0, none⟩ = some (.int .i64 n) ∧ w'.cell? ⟨w.heap.size, 1, none⟩ = some (.int .i64 d) ∧ w'.cell? ⟨w.heap.size + 1, 0, none⟩ = some (.int .i64 p) ∧ w'.cell? ⟨w.heap.size + 1, 1, none⟩ = some (.int .i64 q) ∧ w'.cell? ⟨w.heap.size + 1 + 1, 0, none⟩ = some (.int .i64 0) ∧ w'.cell? ⟨w.heap.size + 1 + 1, 1, none⟩ = some (.int .i64 0)) (first | (go_keep; done) | (go_split_ands; (refine ⟨?_, ?_, ?_, ?_, ?_, ?_⟩ <;> exact cell_kept (by assumption) (by assumption))) | ((try dsimp only); (repeat' apply And.intro) <;> (first | assumption | (go_keep; done) | (go_split_ands; exact cell_kept (by assumption) (by assumption))))) (first | (go_at_call 36; refine (product_s (n.tdiv G) (p.tdiv K) _ (by omega) (by omega) (by omega) (by omega)).mono ?_; rintro e wa ⟨rfl, hba⟩) | (go_at_call 39; refine (over_one _ _ _).mono ?_; rw [o1]; rintro e wb ⟨rfl, hbb⟩))
  have hb5 := HB4.out.drew
  have hb6 := hb5.trans (hba.mono hb5.size)
  have HB6 := Lib.hid (hb6.trans (hbb.mono hb6.size))
  clear hb5 hb6 hba hbb k0 k1 k2 k3 k4 k5
  go_wp2
  go_region_held3 (fun w' => w'.cell? ⟨w.heap.size, 0, none⟩ = some (.int .i64 n) ∧ w'.cell? ⟨w.heap.size, 1, none⟩ = some (.int .i64 d) ∧ w'.cell? ⟨w.heap.size + 1, 0, none⟩ = some (.int .i64 p) ∧ w'.cell? ⟨w.heap.size + 1, 1, none⟩ = some (.int .i64 q) ∧ w'.cell? ⟨w.heap.size + 1 + 1, 0, none⟩ = some (.int .i64 0) ∧ w'.cell? ⟨w.heap.size + 1 + 1, 1, none⟩ = some (.int .i64 0)) (first | (go_keep; done) | (go_split_ands; (refine ⟨?_, ?_, ?_, ?_, ?_, ?_⟩ <;> exact cell_kept (by assumption) (by assumption))) | ((try dsimp only); (repeat' apply And.intro) <;> (first | assumption | (go_keep; done) | (go_split_ands; exact cell_kept (by assumption) (by assumption))))) (first | (go_at_call 36; refine (product_s (d / K) (q / G) _ (by omega) (by omega) (by omega) (by omega)).mono ?_; rw [sg0]; rintro e wc ⟨rfl, hbc⟩) | (go_at_call 39; refine (over_one _ _ _).mono ?_; rw [o2]; rintro e wd ⟨rfl, hbd⟩))
  have hb4 := HB6.out.drew
  have hb5 := hb4.trans (hbc.mono hb4.size)
  have HB7 := Lib.hid (hb5.trans (hbd.mono hb5.size))
  clear hb4 hb5 hbc hbd
  have fz0 : wd.frozen? ⟨w.heap.size + 1 + 1, 0, none⟩ = false := (HB7.out.frozen (p := ⟨w.heap.size + 1 + 1, 0, none⟩) (by simp)).trans (by have h := (At2.new ((w.alloc (.cells #[.int .i64 n, .int .i64 d] 24)).alloc (.cells #[.int .i64 p, .int .i64 q] 24)) (.int .i64 0) (.int .i64 0) 24).2.2.1; simp only [World.size_alloc] at h; exact h)
  have fz1 : wd.frozen? ⟨w.heap.size + 1 + 1, 1, none⟩ = false := (HB7.out.frozen (p := ⟨w.heap.size + 1 + 1, 1, none⟩) (by simp)).trans (by have h := (At2.new ((w.alloc (.cells #[.int .i64 n, .int .i64 d] 24)).alloc (.cells #[.int .i64 p, .int .i64 q] 24)) (.int .i64 0) (.int .i64 0) 24).2.2.2; simp only [World.size_alloc] at h; exact h)
  go_wp2
  refine bodyPost_ret (v := .tuple #[.agg #[.int .i64 0, .int .i64 0], .bool false]) (by simp [results, Try.results33, go_sem, *]) rfl ⟨rfl, ?_⟩
  exact (((((Below.refl w.heap.size w).alloc (Nat.le_refl _) _).alloc (by simp) _).alloc (by simp; omega) _).trans (HB7.out.mono (by simp; omega))).setCell (by simp; omega) _ |>.setCell (by simp; omega) _
set_option maxHeartbeats 4000000 in
set_option maxRecDepth 100000 in
theorem implMul_ft (n d p q : Int) (w : World) (hf : fracB n d = true) (hg : fracB p q = true) (hs1 : ovB (mA n d p q) = false) (hs2 : ovB (mM n d p q) = true) :
    Calls Try.prog 33 #[.agg #[.int .i64 n, .int .i64 d], .agg #[.int .i64 p, .int .i64 q]] w fun e w' => e = .returned (.tuple #[.agg #[.int .i64 0, .int .i64 0], .bool false]) ∧ Below w.heap.size w w' := by
  have hf1 : 1 ≤ d ∧ d ≤ 1000000000000000000 ∧ -1000000000000000000 ≤ n ∧ n ≤ 1000000000000000000 := by
    simp [fracB] at hf; omega
  have hg1 : 1 ≤ q ∧ q ≤ 1000000000000000000 ∧ -1000000000000000000 ≤ p ∧ p ≤ 1000000000000000000 := by
    simp [fracB] at hg; omega
  have HF := Lib.hid hf
  have HG := Lib.hid hg
  obtain ⟨d0, d1, n0, n1⟩ := hf1
  obtain ⟨q0, q1, p0, p1⟩ := hg1
  have b1 := mk_bd n q q0 q1 n0 n1
  have b2 := mk_bd p d d0 d1 p0 p1
  obtain ⟨e1, e2⟩ := mk_pos n q (by omega)
  obtain ⟨e3, e4⟩ := mk_pos p d (by omega)
  have hp1 := gcd_pos n q (by omega)
  have hp2 := gcd_pos p d (by omega)
  obtain ⟨G, hG⟩ : ∃ G : Int, ((Int.gcd n q : Nat) : Int) = G := ⟨_, rfl⟩
  obtain ⟨K, hK⟩ : ∃ K : Int, ((Int.gcd p d : Nat) : Int) = K := ⟨_, rfl⟩
  have hgl : G ≤ q := by have := Nat.le_of_dvd (by omega) (Nat.gcd_dvd_right n.natAbs q.natAbs); rw [← hG]; unfold Int.gcd; omega
  have hkl : K ≤ d := by have := Nat.le_of_dvd (by omega) (Nat.gcd_dvd_right p.natAbs d.natAbs); rw [← hK]; unfold Int.gcd; omega
  rw [hG] at e1 e2 hp1
  rw [hK] at e3 e4 hp2
  have hA : mA n d p q = szN (n.tdiv G) (p.tdiv K) := by unfold mA; rw [e1, e3]
  have hM : mM n d p q = szN (d / K) (q / G) := by unfold mM; rw [e2, e4]
  rw [e1, e2] at b1
  rw [e3, e4] at b2
  rw [hA] at hs1
  rw [hM] at hs2
  have w1' : IntKind.i64.wrap (n.tdiv G) = n.tdiv G := IntWalk.i64_in _ (by omega)
  have w2' : IntKind.i64.wrap (p.tdiv K) = p.tdiv K := IntWalk.i64_in _ (by omega)
  have w3' : IntKind.i64.wrap (d / K) = d / K := IntWalk.i64_in _ (by omega)
  have w4' : IntKind.i64.wrap (q / G) = q / G := IntWalk.i64_in _ (by omega)
  have w5' : IntKind.i64.wrap (d.tdiv K) = d / K := by rw [Int.tdiv_eq_ediv_of_nonneg (by omega)]; exact w3'
  have w6' : IntKind.i64.wrap (q.tdiv G) = q / G := by rw [Int.tdiv_eq_ediv_of_nonneg (by omega)]; exact w4'
  have gc1 : ∀ w, Calls Try.prog 35 #[.int .i64 (n.natAbs : Int), .int .i64 q] w fun e w' => e = .returned (.int .i64 G) ∧ ∃ q, w' = w.drewN q := fun w =>
    (implGcd (n.natAbs : Int) q w (by omega) (by omega) (by omega) (by omega)).mono fun e w' h => by rw [gcd_sz, hG] at h; exact h
  have gc2 : ∀ w, Calls Try.prog 35 #[.int .i64 (p.natAbs : Int), .int .i64 d] w fun e w' => e = .returned (.int .i64 K) ∧ ∃ q, w' = w.drewN q := fun w =>
    (implGcd (p.natAbs : Int) d w (by omega) (by omega) (by omega) (by omega)).mono fun e w' h => by rw [gcd_sz, hK] at h; exact h
  have GC1 := Lib.hid gc1
  have GC2 := Lib.hid gc2
  have z1 : (G == 0) = false := by simp; omega
  have z2 : (K == 0) = false := by simp; omega
  have sg0 : sgB (d / K) (q / G) = false := by
    have u1 : decide (d / K < 0) = false := by simp; omega
    have u2 : decide (q / G < 0) = false := by simp; omega
    unfold sgB; rw [u1, u2]; rfl
  have z3 : ¬ G = 0 := by omega
  have z4 : ¬ K = 0 := by omega
  have o1 := hs1
  have o2 := hs2
  clear hf hg e1 e2 e3 e4 hG hK hA hM gc1 gc2 w3' w4' hs1 hs2
  go_enter Try.func33, Try.ntmps33
  go_wp2_with fail
  refine (implValid n d _).mono ?_; rw [HF.out]; rintro e w1 ⟨rfl, hb1⟩
  have j0 := cell_kept hb1 (a := ⟨w.heap.size, 0, none⟩) (v := .int .i64 n) (by simp [go_sem])
  have j1 := cell_kept hb1 (a := ⟨w.heap.size, 1, none⟩) (v := .int .i64 d) (by simp [go_sem])
  have j2 := cell_kept hb1 (a := ⟨w.heap.size + 1, 0, none⟩) (v := .int .i64 p) (by simp [go_sem])
  have j3 := cell_kept hb1 (a := ⟨w.heap.size + 1, 1, none⟩) (v := .int .i64 q) (by simp [go_sem])
  have j4 := cell_kept hb1 (a := ⟨w.heap.size + 1 + 1, 0, none⟩) (v := .int .i64 0) (by simp [go_sem])
  have j5 := cell_kept hb1 (a := ⟨w.heap.size + 1 + 1, 1, none⟩) (v := .int .i64 0) (by simp [go_sem])
  have HB1 := Lib.hid hb1
  clear hb1
  go_wp2_with fail
  refine (implValid p q _).mono ?_; rw [HG.out]; rintro e w2 ⟨rfl, hb2⟩
  have k0 := cell_kept hb2 j0
  have k1 := cell_kept hb2 j1
  have k2 := cell_kept hb2 j2
  have k3 := cell_kept hb2 j3
  have k4 := cell_kept hb2 j4
  have k5 := cell_kept hb2 j5
  have HB2 := Lib.hid (HB1.out.trans (hb2.mono HB1.out.size))
  clear hb2 j0 j1 j2 j3 j4 j5
  go_wp2
  go_quiet (first | (go_at_call 50; exact quiet_eq (sizeOf_any _ _ (by omega) (by omega))) | (go_at_call 35; exact Calls.quiet_of (GC1.out _)))
  go_wp2
  generalize hw3 : w2.drewN nq = w3
  have k0 : w3.cell? ⟨w.heap.size, 0, none⟩ = some (.int .i64 n) := by rw [← hw3]; exact k0
  have k1 : w3.cell? ⟨w.heap.size, 1, none⟩ = some (.int .i64 d) := by rw [← hw3]; exact k1
  have k2 : w3.cell? ⟨w.heap.size + 1, 0, none⟩ = some (.int .i64 p) := by rw [← hw3]; exact k2
  have k3 : w3.cell? ⟨w.heap.size + 1, 1, none⟩ = some (.int .i64 q) := by rw [← hw3]; exact k3
  have k4 : w3.cell? ⟨w.heap.size + 1 + 1, 0, none⟩ = some (.int .i64 0) := by rw [← hw3]; exact k4
  have k5 : w3.cell? ⟨w.heap.size + 1 + 1, 1, none⟩ = some (.int .i64 0) := by rw [← hw3]; exact k5
  have hb3' := bdw HB2.out nq
  rw [hw3] at hb3'
  have HB3 := Lib.hid hb3'
  clear hb3'
  clear hw3
  go_quiet (first | (go_at_call 50; exact quiet_eq (sizeOf_any _ _ (by omega) (by omega))) | (go_at_call 35; exact Calls.quiet_of (GC2.out _)))
  go_wp2
  generalize hw4 : w3.drewN nq = w4
  have k0 : w4.cell? ⟨w.heap.size, 0, none⟩ = some (.int .i64 n) := by rw [← hw4]; exact k0
  have k1 : w4.cell? ⟨w.heap.size, 1, none⟩ = some (.int .i64 d) := by rw [← hw4]; exact k1
  have k2 : w4.cell? ⟨w.heap.size + 1, 0, none⟩ = some (.int .i64 p) := by rw [← hw4]; exact k2
  have k3 : w4.cell? ⟨w.heap.size + 1, 1, none⟩ = some (.int .i64 q) := by rw [← hw4]; exact k3
  have k4 : w4.cell? ⟨w.heap.size + 1 + 1, 0, none⟩ = some (.int .i64 0) := by rw [← hw4]; exact k4
  have k5 : w4.cell? ⟨w.heap.size + 1 + 1, 1, none⟩ = some (.int .i64 0) := by rw [← hw4]; exact k5
  have hb4' := bdw HB3.out nq
  rw [hw4] at hb4'
  have HB4 := Lib.hid hb4'
  clear hb4'
  clear hw4
  go_region_held3 (fun w' => w'.cell? ⟨w.heap.size, 0, none⟩ = some (.int .i64 n) ∧ w'.cell? ⟨w.heap.size, 1, none⟩ = some (.int .i64 d) ∧ w'.cell? ⟨w.heap.size + 1, 0, none⟩ = some (.int .i64 p) ∧ w'.cell? ⟨w.heap.size + 1, 1, none⟩ = some (.int .i64 q) ∧ w'.cell? ⟨w.heap.size + 1 + 1, 0, none⟩ = some (.int .i64 0) ∧ w'.cell? ⟨w.heap.size + 1 + 1, 1, none⟩ = some (.int .i64 0)) (first | (go_keep; done) | (go_split_ands; (refine ⟨?_, ?_, ?_, ?_, ?_, ?_⟩ <;> exact cell_kept (by assumption) (by assumption))) | ((try dsimp only); (repeat' apply And.intro) <;> (first | assumption | (go_keep; done) | (go_split_ands; exact cell_kept (by assumption) (by assumption))))) (first | (go_at_call 36; refine (product_s (n.tdiv G) (p.tdiv K) _ (by omega) (by omega) (by omega) (by omega)).mono ?_; rintro e wa ⟨rfl, hba⟩) | (go_at_call 39; refine (over_one _ _ _).mono ?_; rw [o1]; rintro e wb ⟨rfl, hbb⟩))
  have hb5 := HB4.out.drew
  have hb6 := hb5.trans (hba.mono hb5.size)
  have HB6 := Lib.hid (hb6.trans (hbb.mono hb6.size))
  clear hb5 hb6 hba hbb k0 k1 k2 k3 k4 k5
  go_wp2
  go_region_held3 (fun w' => w'.cell? ⟨w.heap.size, 0, none⟩ = some (.int .i64 n) ∧ w'.cell? ⟨w.heap.size, 1, none⟩ = some (.int .i64 d) ∧ w'.cell? ⟨w.heap.size + 1, 0, none⟩ = some (.int .i64 p) ∧ w'.cell? ⟨w.heap.size + 1, 1, none⟩ = some (.int .i64 q) ∧ w'.cell? ⟨w.heap.size + 1 + 1, 0, none⟩ = some (.int .i64 0) ∧ w'.cell? ⟨w.heap.size + 1 + 1, 1, none⟩ = some (.int .i64 0)) (first | (go_keep; done) | (go_split_ands; (refine ⟨?_, ?_, ?_, ?_, ?_, ?_⟩ <;> exact cell_kept (by assumption) (by assumption))) | ((try dsimp only); (repeat' apply And.intro) <;> (first | assumption | (go_keep; done) | (go_split_ands; exact cell_kept (by assumption) (by assumption))))) (first | (go_at_call 36; refine (product_s (d / K) (q / G) _ (by omega) (by omega) (by omega) (by omega)).mono ?_; rw [sg0]; rintro e wc ⟨rfl, hbc⟩) | (go_at_call 39; refine (over_one _ _ _).mono ?_; rw [o2]; rintro e wd ⟨rfl, hbd⟩))
  have hb4 := HB6.out.drew
  have hb5 := hb4.trans (hbc.mono hb4.size)
  have HB7 := Lib.hid (hb5.trans (hbd.mono hb5.size))
  clear hb4 hb5 hbc hbd
  have fz0 : wd.frozen? ⟨w.heap.size + 1 + 1, 0, none⟩ = false := (HB7.out.frozen (p := ⟨w.heap.size + 1 + 1, 0, none⟩) (by simp)).trans (by have h := (At2.new ((w.alloc (.cells #[.int .i64 n, .int .i64 d] 24)).alloc (.cells #[.int .i64 p, .int .i64 q] 24)) (.int .i64 0) (.int .i64 0) 24).2.2.1; simp only [World.size_alloc] at h; exact h)
  have fz1 : wd.frozen? ⟨w.heap.size + 1 + 1, 1, none⟩ = false := (HB7.out.frozen (p := ⟨w.heap.size + 1 + 1, 1, none⟩) (by simp)).trans (by have h := (At2.new ((w.alloc (.cells #[.int .i64 n, .int .i64 d] 24)).alloc (.cells #[.int .i64 p, .int .i64 q] 24)) (.int .i64 0) (.int .i64 0) 24).2.2.2; simp only [World.size_alloc] at h; exact h)
  go_wp2
  refine bodyPost_ret (v := .tuple #[.agg #[.int .i64 0, .int .i64 0], .bool false]) (by simp [results, Try.results33, go_sem, *]) rfl ⟨rfl, ?_⟩
  exact (((((Below.refl w.heap.size w).alloc (Nat.le_refl _) _).alloc (by simp) _).alloc (by simp; omega) _).trans (HB7.out.mono (by simp; omega))).setCell (by simp; omega) _ |>.setCell (by simp; omega) _
set_option maxHeartbeats 4000000 in
set_option maxRecDepth 100000 in
theorem implMul_tf (n d p q : Int) (w : World) (hf : fracB n d = true) (hg : fracB p q = true) (hs1 : ovB (mA n d p q) = true) (hs2 : ovB (mM n d p q) = false) :
    Calls Try.prog 33 #[.agg #[.int .i64 n, .int .i64 d], .agg #[.int .i64 p, .int .i64 q]] w fun e w' => e = .returned (.tuple #[.agg #[.int .i64 0, .int .i64 0], .bool false]) ∧ Below w.heap.size w w' := by
  have hf1 : 1 ≤ d ∧ d ≤ 1000000000000000000 ∧ -1000000000000000000 ≤ n ∧ n ≤ 1000000000000000000 := by
    simp [fracB] at hf; omega
  have hg1 : 1 ≤ q ∧ q ≤ 1000000000000000000 ∧ -1000000000000000000 ≤ p ∧ p ≤ 1000000000000000000 := by
    simp [fracB] at hg; omega
  have HF := Lib.hid hf
  have HG := Lib.hid hg
  obtain ⟨d0, d1, n0, n1⟩ := hf1
  obtain ⟨q0, q1, p0, p1⟩ := hg1
  have b1 := mk_bd n q q0 q1 n0 n1
  have b2 := mk_bd p d d0 d1 p0 p1
  obtain ⟨e1, e2⟩ := mk_pos n q (by omega)
  obtain ⟨e3, e4⟩ := mk_pos p d (by omega)
  have hp1 := gcd_pos n q (by omega)
  have hp2 := gcd_pos p d (by omega)
  obtain ⟨G, hG⟩ : ∃ G : Int, ((Int.gcd n q : Nat) : Int) = G := ⟨_, rfl⟩
  obtain ⟨K, hK⟩ : ∃ K : Int, ((Int.gcd p d : Nat) : Int) = K := ⟨_, rfl⟩
  have hgl : G ≤ q := by have := Nat.le_of_dvd (by omega) (Nat.gcd_dvd_right n.natAbs q.natAbs); rw [← hG]; unfold Int.gcd; omega
  have hkl : K ≤ d := by have := Nat.le_of_dvd (by omega) (Nat.gcd_dvd_right p.natAbs d.natAbs); rw [← hK]; unfold Int.gcd; omega
  rw [hG] at e1 e2 hp1
  rw [hK] at e3 e4 hp2
  have hA : mA n d p q = szN (n.tdiv G) (p.tdiv K) := by unfold mA; rw [e1, e3]
  have hM : mM n d p q = szN (d / K) (q / G) := by unfold mM; rw [e2, e4]
  rw [e1, e2] at b1
  rw [e3, e4] at b2
  rw [hA] at hs1
  rw [hM] at hs2
  have w1' : IntKind.i64.wrap (n.tdiv G) = n.tdiv G := IntWalk.i64_in _ (by omega)
  have w2' : IntKind.i64.wrap (p.tdiv K) = p.tdiv K := IntWalk.i64_in _ (by omega)
  have w3' : IntKind.i64.wrap (d / K) = d / K := IntWalk.i64_in _ (by omega)
  have w4' : IntKind.i64.wrap (q / G) = q / G := IntWalk.i64_in _ (by omega)
  have w5' : IntKind.i64.wrap (d.tdiv K) = d / K := by rw [Int.tdiv_eq_ediv_of_nonneg (by omega)]; exact w3'
  have w6' : IntKind.i64.wrap (q.tdiv G) = q / G := by rw [Int.tdiv_eq_ediv_of_nonneg (by omega)]; exact w4'
  have gc1 : ∀ w, Calls Try.prog 35 #[.int .i64 (n.natAbs : Int), .int .i64 q] w fun e w' => e = .returned (.int .i64 G) ∧ ∃ q, w' = w.drewN q := fun w =>
    (implGcd (n.natAbs : Int) q w (by omega) (by omega) (by omega) (by omega)).mono fun e w' h => by rw [gcd_sz, hG] at h; exact h
  have gc2 : ∀ w, Calls Try.prog 35 #[.int .i64 (p.natAbs : Int), .int .i64 d] w fun e w' => e = .returned (.int .i64 K) ∧ ∃ q, w' = w.drewN q := fun w =>
    (implGcd (p.natAbs : Int) d w (by omega) (by omega) (by omega) (by omega)).mono fun e w' h => by rw [gcd_sz, hK] at h; exact h
  have GC1 := Lib.hid gc1
  have GC2 := Lib.hid gc2
  have z1 : (G == 0) = false := by simp; omega
  have z2 : (K == 0) = false := by simp; omega
  have sg0 : sgB (d / K) (q / G) = false := by
    have u1 : decide (d / K < 0) = false := by simp; omega
    have u2 : decide (q / G < 0) = false := by simp; omega
    unfold sgB; rw [u1, u2]; rfl
  have z3 : ¬ G = 0 := by omega
  have z4 : ¬ K = 0 := by omega
  have o1 := hs1
  have o2 := hs2
  clear hf hg e1 e2 e3 e4 hG hK hA hM gc1 gc2 w3' w4' hs1 hs2
  go_enter Try.func33, Try.ntmps33
  go_wp2_with fail
  refine (implValid n d _).mono ?_; rw [HF.out]; rintro e w1 ⟨rfl, hb1⟩
  have j0 := cell_kept hb1 (a := ⟨w.heap.size, 0, none⟩) (v := .int .i64 n) (by simp [go_sem])
  have j1 := cell_kept hb1 (a := ⟨w.heap.size, 1, none⟩) (v := .int .i64 d) (by simp [go_sem])
  have j2 := cell_kept hb1 (a := ⟨w.heap.size + 1, 0, none⟩) (v := .int .i64 p) (by simp [go_sem])
  have j3 := cell_kept hb1 (a := ⟨w.heap.size + 1, 1, none⟩) (v := .int .i64 q) (by simp [go_sem])
  have j4 := cell_kept hb1 (a := ⟨w.heap.size + 1 + 1, 0, none⟩) (v := .int .i64 0) (by simp [go_sem])
  have j5 := cell_kept hb1 (a := ⟨w.heap.size + 1 + 1, 1, none⟩) (v := .int .i64 0) (by simp [go_sem])
  have HB1 := Lib.hid hb1
  clear hb1
  go_wp2_with fail
  refine (implValid p q _).mono ?_; rw [HG.out]; rintro e w2 ⟨rfl, hb2⟩
  have k0 := cell_kept hb2 j0
  have k1 := cell_kept hb2 j1
  have k2 := cell_kept hb2 j2
  have k3 := cell_kept hb2 j3
  have k4 := cell_kept hb2 j4
  have k5 := cell_kept hb2 j5
  have HB2 := Lib.hid (HB1.out.trans (hb2.mono HB1.out.size))
  clear hb2 j0 j1 j2 j3 j4 j5
  go_wp2
  go_quiet (first | (go_at_call 50; exact quiet_eq (sizeOf_any _ _ (by omega) (by omega))) | (go_at_call 35; exact Calls.quiet_of (GC1.out _)))
  go_wp2
  generalize hw3 : w2.drewN nq = w3
  have k0 : w3.cell? ⟨w.heap.size, 0, none⟩ = some (.int .i64 n) := by rw [← hw3]; exact k0
  have k1 : w3.cell? ⟨w.heap.size, 1, none⟩ = some (.int .i64 d) := by rw [← hw3]; exact k1
  have k2 : w3.cell? ⟨w.heap.size + 1, 0, none⟩ = some (.int .i64 p) := by rw [← hw3]; exact k2
  have k3 : w3.cell? ⟨w.heap.size + 1, 1, none⟩ = some (.int .i64 q) := by rw [← hw3]; exact k3
  have k4 : w3.cell? ⟨w.heap.size + 1 + 1, 0, none⟩ = some (.int .i64 0) := by rw [← hw3]; exact k4
  have k5 : w3.cell? ⟨w.heap.size + 1 + 1, 1, none⟩ = some (.int .i64 0) := by rw [← hw3]; exact k5
  have hb3' := bdw HB2.out nq
  rw [hw3] at hb3'
  have HB3 := Lib.hid hb3'
  clear hb3'
  clear hw3
  go_quiet (first | (go_at_call 50; exact quiet_eq (sizeOf_any _ _ (by omega) (by omega))) | (go_at_call 35; exact Calls.quiet_of (GC2.out _)))
  go_wp2
  generalize hw4 : w3.drewN nq = w4
  have k0 : w4.cell? ⟨w.heap.size, 0, none⟩ = some (.int .i64 n) := by rw [← hw4]; exact k0
  have k1 : w4.cell? ⟨w.heap.size, 1, none⟩ = some (.int .i64 d) := by rw [← hw4]; exact k1
  have k2 : w4.cell? ⟨w.heap.size + 1, 0, none⟩ = some (.int .i64 p) := by rw [← hw4]; exact k2
  have k3 : w4.cell? ⟨w.heap.size + 1, 1, none⟩ = some (.int .i64 q) := by rw [← hw4]; exact k3
  have k4 : w4.cell? ⟨w.heap.size + 1 + 1, 0, none⟩ = some (.int .i64 0) := by rw [← hw4]; exact k4
  have k5 : w4.cell? ⟨w.heap.size + 1 + 1, 1, none⟩ = some (.int .i64 0) := by rw [← hw4]; exact k5
  have hb4' := bdw HB3.out nq
  rw [hw4] at hb4'
  have HB4 := Lib.hid hb4'
  clear hb4'
  clear hw4
  go_region_held3 (fun w' => w'.cell? ⟨w.heap.size, 0, none⟩ = some (.int .i64 n) ∧ w'.cell? ⟨w.heap.size, 1, none⟩ = some (.int .i64 d) ∧ w'.cell? ⟨w.heap.size + 1, 0, none⟩ = some (.int .i64 p) ∧ w'.cell? ⟨w.heap.size + 1, 1, none⟩ = some (.int .i64 q) ∧ w'.cell? ⟨w.heap.size + 1 + 1, 0, none⟩ = some (.int .i64 0) ∧ w'.cell? ⟨w.heap.size + 1 + 1, 1, none⟩ = some (.int .i64 0)) (first | (go_keep; done) | (go_split_ands; (refine ⟨?_, ?_, ?_, ?_, ?_, ?_⟩ <;> exact cell_kept (by assumption) (by assumption))) | ((try dsimp only); (repeat' apply And.intro) <;> (first | assumption | (go_keep; done) | (go_split_ands; exact cell_kept (by assumption) (by assumption))))) (first | (go_at_call 36; refine (product_s (n.tdiv G) (p.tdiv K) _ (by omega) (by omega) (by omega) (by omega)).mono ?_; rintro e wa ⟨rfl, hba⟩) | (go_at_call 39; refine (over_one _ _ _).mono ?_; rw [o1]; rintro e wb ⟨rfl, hbb⟩))
  have hb5 := HB4.out.drew
  have hb6 := hb5.trans (hba.mono hb5.size)
  have HB6 := Lib.hid (hb6.trans (hbb.mono hb6.size))
  clear hb5 hb6 hba hbb k0 k1 k2 k3 k4 k5
  go_wp2
  go_region_held3 (fun w' => w'.cell? ⟨w.heap.size, 0, none⟩ = some (.int .i64 n) ∧ w'.cell? ⟨w.heap.size, 1, none⟩ = some (.int .i64 d) ∧ w'.cell? ⟨w.heap.size + 1, 0, none⟩ = some (.int .i64 p) ∧ w'.cell? ⟨w.heap.size + 1, 1, none⟩ = some (.int .i64 q) ∧ w'.cell? ⟨w.heap.size + 1 + 1, 0, none⟩ = some (.int .i64 0) ∧ w'.cell? ⟨w.heap.size + 1 + 1, 1, none⟩ = some (.int .i64 0)) (first | (go_keep; done) | (go_split_ands; (refine ⟨?_, ?_, ?_, ?_, ?_, ?_⟩ <;> exact cell_kept (by assumption) (by assumption))) | ((try dsimp only); (repeat' apply And.intro) <;> (first | assumption | (go_keep; done) | (go_split_ands; exact cell_kept (by assumption) (by assumption))))) (first | (go_at_call 36; refine (product_s (d / K) (q / G) _ (by omega) (by omega) (by omega) (by omega)).mono ?_; rw [sg0]; rintro e wc ⟨rfl, hbc⟩) | (go_at_call 39; refine (over_one _ _ _).mono ?_; rw [o2]; rintro e wd ⟨rfl, hbd⟩))
  have hb4 := HB6.out.drew
  have hb5 := hb4.trans (hbc.mono hb4.size)
  have HB7 := Lib.hid (hb5.trans (hbd.mono hb5.size))
  clear hb4 hb5 hbc hbd
  have fz0 : wd.frozen? ⟨w.heap.size + 1 + 1, 0, none⟩ = false := (HB7.out.frozen (p := ⟨w.heap.size + 1 + 1, 0, none⟩) (by simp)).trans (by have h := (At2.new ((w.alloc (.cells #[.int .i64 n, .int .i64 d] 24)).alloc (.cells #[.int .i64 p, .int .i64 q] 24)) (.int .i64 0) (.int .i64 0) 24).2.2.1; simp only [World.size_alloc] at h; exact h)
  have fz1 : wd.frozen? ⟨w.heap.size + 1 + 1, 1, none⟩ = false := (HB7.out.frozen (p := ⟨w.heap.size + 1 + 1, 1, none⟩) (by simp)).trans (by have h := (At2.new ((w.alloc (.cells #[.int .i64 n, .int .i64 d] 24)).alloc (.cells #[.int .i64 p, .int .i64 q] 24)) (.int .i64 0) (.int .i64 0) 24).2.2.2; simp only [World.size_alloc] at h; exact h)
  go_wp2
  refine bodyPost_ret (v := .tuple #[.agg #[.int .i64 0, .int .i64 0], .bool false]) (by simp [results, Try.results33, go_sem, *]) rfl ⟨rfl, ?_⟩
  exact (((((Below.refl w.heap.size w).alloc (Nat.le_refl _) _).alloc (by simp) _).alloc (by simp; omega) _).trans (HB7.out.mono (by simp; omega))).setCell (by simp; omega) _ |>.setCell (by simp; omega) _
set_option maxRecDepth 100000 in
theorem implMul_i1 (n d p q : Int) (w : World) (hf : fracB n d = false) :
    Calls Try.prog 33 #[.agg #[.int .i64 n, .int .i64 d], .agg #[.int .i64 p, .int .i64 q]] w fun e w' => e = .returned (.tuple #[.agg #[.int .i64 0, .int .i64 0], .bool false]) ∧ Below w.heap.size w w' := by
  have hnew := At2.new ((w.alloc (.cells #[.int .i64 n, .int .i64 d] 24)).alloc (.cells #[.int .i64 p, .int .i64 q] 24)) (.int .i64 0) (.int .i64 0) 24
  have HNEW := Lib.hid hnew
  have HF := Lib.hid hf
  clear hf hnew
  go_enter Try.func33, Try.ntmps33
  go_wp2_with fail
  refine (implValid n d _).mono ?_; rw [HF.out]; rintro e w1 ⟨rfl, hb1⟩
  have hp1 := HNEW.out.below hb1 (by simp)
  simp only [World.size_alloc] at hp1
  have HB2 := Lib.hid hb1
  have q0 := Lib.hid (hp1.set0 (.int .i64 0)).1
  have q1 := Lib.hid ((hp1.set0 (.int .i64 0)).set1 (.int .i64 0)).2.1
  obtain ⟨p0, p1, p2, p3⟩ := hp1
  clear hb1
  go_wp2
  refine bodyPost_ret (v := .tuple #[.agg #[.int .i64 0, .int .i64 0], .bool false]) (by simp [results, Try.results33, go_sem, q0.out, q1.out]) rfl ⟨rfl, ?_⟩
  exact (((((Below.refl w.heap.size w).alloc (Nat.le_refl _) _).alloc (by simp) _).alloc (by simp; omega) _).trans (HB2.out.mono (by simp; omega))).setCell (by simp; omega) _ |>.setCell (by simp; omega) _
set_option maxRecDepth 100000 in
theorem implMul_i2 (n d p q : Int) (w : World) (hf : fracB n d = true) (hg : fracB p q = false) :
    Calls Try.prog 33 #[.agg #[.int .i64 n, .int .i64 d], .agg #[.int .i64 p, .int .i64 q]] w fun e w' => e = .returned (.tuple #[.agg #[.int .i64 0, .int .i64 0], .bool false]) ∧ Below w.heap.size w w' := by
  have hnew := At2.new ((w.alloc (.cells #[.int .i64 n, .int .i64 d] 24)).alloc (.cells #[.int .i64 p, .int .i64 q] 24)) (.int .i64 0) (.int .i64 0) 24
  have HNEW := Lib.hid hnew
  have HF := Lib.hid hf
  have HG := Lib.hid hg
  clear hf hg hnew
  go_enter Try.func33, Try.ntmps33
  go_wp2_with fail
  refine (implValid n d _).mono ?_; rw [HF.out]; rintro e w1 ⟨rfl, hb1⟩
  have j2 := cell_kept hb1 (a := ⟨w.heap.size + 1, 0, none⟩) (v := .int .i64 p) (by simp [go_sem])
  have j3 := cell_kept hb1 (a := ⟨w.heap.size + 1, 1, none⟩) (v := .int .i64 q) (by simp [go_sem])
  have hp1 := HNEW.out.below hb1 (by simp)
  simp only [World.size_alloc] at hp1
  have HP1 := Lib.hid hp1
  have HB1 := Lib.hid hb1
  clear hb1 hp1
  go_wp2_with fail
  refine (implValid p q _).mono ?_; rw [HG.out]; rintro e w2 ⟨rfl, hb2⟩
  have hp2 := HP1.out.below hb2 HP1.out.lt
  have HB2 := Lib.hid (HB1.out.trans (hb2.mono HB1.out.size))
  have q0 := Lib.hid (hp2.set0 (.int .i64 0)).1
  have q1 := Lib.hid ((hp2.set0 (.int .i64 0)).set1 (.int .i64 0)).2.1
  obtain ⟨p0, p1, p2, p3⟩ := hp2
  clear hb2 j2 j3
  go_wp2
  refine bodyPost_ret (v := .tuple #[.agg #[.int .i64 0, .int .i64 0], .bool false]) (by simp [results, Try.results33, go_sem, q0.out, q1.out]) rfl ⟨rfl, ?_⟩
  exact (((((Below.refl w.heap.size w).alloc (Nat.le_refl _) _).alloc (by simp) _).alloc (by simp; omega) _).trans (HB2.out.mono (by simp; omega))).setCell (by simp; omega) _ |>.setCell (by simp; omega) _
end Go.Proofs.Ytomdoamfdidghaa
