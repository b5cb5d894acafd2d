/- The comparison of two fractions, on the side of the program. -/
import Derived.Test.YtejjoejapnnlkaaPlus
import Derived.Test.YtejjoejapnnlkaaFrac
import Derived.Test.YtejjoejapnnlkaaKept
namespace Go.Proofs.Ytejjoejapnnlkaa
open Go.RowKit

theorem sgv_eq (n m : Bool) (A B : Nat) :
    (if A < B then (if n = m then sgv n (B + A) else sgv m (B - A)) else (if n = m then sgv n (A + B) else sgv n (A - B))) = (if n = m then sgv n (A + B) else if A < B then sgv m (B - A) else sgv n (A - B)) := by
  by_cases h : A < B <;> by_cases h2 : n = m <;> simp [h, h2, Nat.add_comm]

/-- the sum of two wide numbers, and its sign -/
def addN (n m : Bool) (A B : Nat) : Bool := if n = m then n else if A < B then m else n
def addV (n m : Bool) (A B : Nat) : Nat := if n = m then A + B else if A < B then B - A else A - B
theorem plus_any (n m : Bool) (A B : Nat) (w : World) (hA : A < 170141183460469231731687303715884105728) (hB : B < 170141183460469231731687303715884105728) :
    Calls Try.prog 60 #[.agg #[.bool n, .int .u64 (hiW A), .int .u64 (loW A)], .agg #[.bool m, .int .u64 (hiW B), .int .u64 (loW B)]] w fun e w' => e = .returned (.agg #[.bool (addN n m A B), .int .u64 (hiW (addV n m A B)), .int .u64 (loW (addV n m A B))]) ∧ Below w.heap.size w w' := by
  have e1 : hiW (A + B) % 18446744073709551616 = hiW (A + B) := Nat.mod_eq_of_lt (hiW_lt _ (by omega))
  by_cases hnm : n = m
  · subst hnm
    have e2 : addN n n A B = n := by simp [addN]
    have e3 : addV n n A B = A + B := by simp [addV]
    rw [e2, e3]
    by_cases h : A < B
    · have := plus_lt_same n A B w h
      rw [Nat.add_comm B A, e1] at this
      exact this
    · have := plus_ge_same n A B w h
      rw [e1] at this
      exact this
  · by_cases h : A < B
    · have e2 : addN n m A B = m := by simp [addN, hnm, h]
      have e3 : addV n m A B = B - A := by simp [addV, hnm, h]
      rw [e2, e3, ← sH_eq B A (by omega) (by omega), ← sL_eq B A (by omega)]
      cases n <;> cases m
      · exact absurd rfl hnm
      · exact plus_lt_false A B w h
      · exact plus_lt_true A B w h
      · exact absurd rfl hnm
    · have e2 : addN n m A B = n := by simp [addN, hnm, h]
      have e3 : addV n m A B = A - B := by simp [addV, hnm, h]
      rw [e2, e3, ← sH_eq A B (by omega) (by omega), ← sL_eq A B (by omega)]
      cases n <;> cases m
      · exact absurd rfl hnm
      · exact plus_ge_false A B w h
      · exact plus_ge_true A B w h
      · exact absurd rfl hnm
theorem addV_lt (n m : Bool) (A B : Nat) (hA : A < 170141183460469231731687303715884105728) (hB : B < 170141183460469231731687303715884105728) : addV n m A B < 340282366920938463463374607431768211456 := by
  unfold addV; split; omega; split <;> omega

theorem prod_lt (a b : Nat) (ha : a ≤ 1000000000000000000) (hb : b ≤ 1000000000000000000) : a * b < 170141183460469231731687303715884105728 :=
  Nat.lt_of_le_of_lt (Nat.mul_le_mul ha hb) (by decide)

/-- is a number below 0 -/
def ngB (x : Int) : Bool := decide (x < 0)
theorem product_pos (a b : Int) (w : World) (a0 : -9223372036854775807 ≤ a) (a1 : a ≤ 9223372036854775807) (b0 : 1 ≤ b) (b1 : b ≤ 9223372036854775807) :
    Calls Try.prog 57 #[.int .i64 a, .int .i64 b] w fun e w' => e = .returned (.agg #[.bool (ngB a), .int .u64 (hiW (a.natAbs * b.natAbs)), .int .u64 (loW (a.natAbs * b.natAbs))]) ∧ Below w.heap.size w w' := by
  have h := product_any a b w a0 a1 (by omega) b1
  have e : (decide (a < 0) != decide (b < 0)) = ngB a := by
    rw [show decide (b < 0) = false from by simp; omega]; simp [ngB]
  rw [e] at h
  exact h

def cmpI (n d p q : Int) : Int := sgv (addN (ngB n) (ngB (-p)) (n.natAbs * q.natAbs) (p.natAbs * d.natAbs)) (addV (ngB n) (ngB (-p)) (n.natAbs * q.natAbs) (p.natAbs * d.natAbs))

set_option maxHeartbeats 4000000 in
set_option maxRecDepth 100000 in
theorem implCmp_t (n d p q : Int) (w : World) (hf : fracB n d = true) (hg : fracB p q = true) :
    Calls Try.prog 29 #[.agg #[.int .i64 n, .int .i64 d], .agg #[.int .i64 p, .int .i64 q]] w fun e w' => e = .returned (.tuple #[.int .i64 (cmpI n d p q), .bool true]) ∧ Below w.heap.size w w' := by
  have hf1 : 1 ≤ d ∧ d ≤ 1000000000000000000 ∧ -1000000000000000000 ≤ n ∧ n ≤ 1000000000000000000 := by
    simp [fracB] at hf; omega
  have hg1 : 1 ≤ q ∧ q ≤ 1000000000000000000 ∧ -1000000000000000000 ≤ p ∧ p ≤ 1000000000000000000 := by
    simp [fracB] at hg; omega
  have HF := Lib.hid hf
  have HG := Lib.hid hg
  clear hf hg
  obtain ⟨d0, d1, n0, n1⟩ := hf1
  obtain ⟨q0, q1, p0, p1⟩ := hg1
  have wp : IntKind.i64.wrap (-p) = -p := IntWalk.i64_in _ (by omega)
  have LA := Lib.hid (prod_lt n.natAbs q.natAbs (by omega) (by omega))
  have LB := Lib.hid (prod_lt p.natAbs d.natAbs (by omega) (by omega))
  go_enter Try.func29, Try.ntmps29
  go_wp2_with fail
  refine (implValid n d _).mono ?_; rw [HF.out]; rintro e w1 ⟨rfl, hb1⟩
  have j0 := cell_kept hb1 (a := ⟨w.heap.size, 0, none⟩) (v := .int .i64 n) (by simp [go_sem])
  have j1 := cell_kept hb1 (a := ⟨w.heap.size, 1, none⟩) (v := .int .i64 d) (by simp [go_sem])
  have j2 := cell_kept hb1 (a := ⟨w.heap.size + 1, 0, none⟩) (v := .int .i64 p) (by simp [go_sem])
  have j3 := cell_kept hb1 (a := ⟨w.heap.size + 1, 1, none⟩) (v := .int .i64 q) (by simp [go_sem])
  have HB1 := Lib.hid (((((Below.refl _ _).alloc (Nat.le_refl _) _).alloc (by simp) _).trans (hb1.mono (by simp; omega))) : Below w.heap.size w w1)
  clear hb1
  go_wp2_with fail
  refine (implValid p q _).mono ?_; rw [HG.out]; rintro e w2 ⟨rfl, hb2⟩
  have k0 := cell_kept hb2 j0
  have k1 := cell_kept hb2 j1
  have k2 := cell_kept hb2 j2
  have k3 := cell_kept hb2 j3
  have HB2 := Lib.hid (HB1.out.trans (hb2.mono HB1.out.size))
  clear hb2 j0 j1 j2 j3
  go_wp2_with fail
  go_region_held3 (fun w' => w'.cell? ⟨w.heap.size, 0, none⟩ = some (.int .i64 n) ∧ w'.cell? ⟨w.heap.size, 1, none⟩ = some (.int .i64 d) ∧ w'.cell? ⟨w.heap.size + 1, 0, none⟩ = some (.int .i64 p) ∧ w'.cell? ⟨w.heap.size + 1, 1, none⟩ = some (.int .i64 q)) (first | (go_keep; done) | (go_split_ands; (refine ⟨?_, ?_, ?_, ?_⟩ <;> exact cell_kept (by assumption) (by assumption))) | ((try dsimp only); (repeat' apply And.intro) <;> (first | assumption | (go_keep; done) | (go_split_ands; exact cell_kept (by assumption) (by assumption))))) (first | (go_at_call_of 57 (Value.int .i64 q); refine (product_pos n q _ (by omega) (by omega) (by omega) (by omega)).mono ?_; rintro e wa ⟨rfl, hba⟩) | (go_at_call_of 57 (Value.int .i64 d); refine (product_pos (-p) d _ (by omega) (by omega) (by omega) (by omega)).mono ?_; rintro e wb ⟨rfl, hbb⟩) | (go_at_call 60; refine (plus_any _ _ _ _ _ LA.out LB.out).mono ?_; rintro e wc ⟨rfl, hbc⟩) | (go_at_call 61; refine (sign_any _ _ _ (addV_lt _ _ _ _ LA.out LB.out)).mono ?_; rintro e wd ⟨rfl, hbd⟩))
  have b0 : Below w.heap.size w w2.drew := ⟨HB2.out.os, HB2.out.tape, HB2.out.output, HB2.out.size, HB2.out.block⟩
  have b1 := b0.trans (hba.mono b0.size)
  have b2 := b1.trans (hbb.mono b1.size)
  have b3 := b2.trans (hbc.mono b2.size)
  have b4 := Lib.hid (b3.trans (hbd.mono b3.size))
  clear b0 b1 b2 b3 hba hbb hbc hbd
  go_wp2
  go_ret2
  exact ⟨rfl, b4.out⟩
end Go.Proofs.Ytejjoejapnnlkaa
