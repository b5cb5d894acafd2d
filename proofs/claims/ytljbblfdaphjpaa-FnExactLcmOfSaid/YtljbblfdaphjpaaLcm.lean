/- The least common multiple, on both sides; the walk of its law. -/
import Derived.Test.YtljbblfdaphjpaaOver
import Derived.Test.YtljbblfdaphjpaaGcdImpl
namespace Go.Proofs.Ytljbblfdaphjpaa
open Go.RowKit

/-- the least common multiple -/
def lcmN (a b : Nat) : Nat := a / Nat.gcd a b * b
theorem lcm_div (a b : Nat) (ha : 0 < a) : a * b / Nat.gcd a b = lcmN a b := by
  unfold lcmN
  obtain ⟨k, hk⟩ := Nat.gcd_dvd_left a b
  have hp : 0 < Nat.gcd a b := Nat.gcd_pos_of_pos_left _ ha
  generalize Nat.gcd a b = g at *
  subst hk
  rw [Nat.mul_assoc, Nat.mul_div_cancel_left _ hp, Nat.mul_div_cancel_left _ hp]
theorem lcm_test (a b : Nat) (hb : 0 < b) : 1000000000000000000 / b < a / Nat.gcd a b ↔ 1000000000000000000 < lcmN a b := by
  unfold lcmN
  exact Nat.div_lt_iff_lt_mul hb

theorem specLcm_f (a b : Int) (w : World) (h : a < 1 ∨ 1000000000000000 < a ∨ b < 1 ∨ 1000000000000000 < b) :
    Calls Try.prog 15 #[.int .i64 a, .int .i64 b] w fun e w' => e = .returned (.tuple #[.int .i64 0, .bool false]) ∧ Below w.heap.size w w' := by
  by_cases h1 : a < 1 ∨ 1000000000000000 < a
  · go_enter Try.func15, Try.ntmps15
    go_wp2_with fail
    refine (l00In_f _ _ _ _ h1).mono ?_; rintro e w' ⟨rfl, rfl⟩
    go_wp2
    go_ret2
    exact ⟨rfl, Below.refl _ _⟩
  · go_enter Try.func15, Try.ntmps15
    go_wp2_with fail
    refine (l00In_t _ _ _ _ (by omega) (by omega)).mono ?_; rintro e w' ⟨rfl, rfl⟩
    go_wp2_with fail
    refine (l00In_f _ _ _ _ (by omega)).mono ?_; rintro e w' ⟨rfl, rfl⟩
    go_wp2
    go_ret2
    exact ⟨rfl, Below.refl _ _⟩
theorem implLcm_f (a b : Int) (w : World) (h : a < 1 ∨ 1000000000000000 < a ∨ b < 1 ∨ 1000000000000000 < b) :
    Calls Try.prog 16 #[.int .i64 a, .int .i64 b] w fun e w' => e = .returned (.tuple #[.int .i64 0, .bool false]) ∧ Below w.heap.size w w' := by
  go_enter Try.func16, Try.ntmps16
  go_wp2_with fail
  refine (implGcdOf_f _ _ _ h).mono ?_; rintro e w' ⟨rfl, rfl⟩
  go_wp2
  go_ret2
  exact ⟨rfl, Below.refl _ _⟩
theorem specLcm_t (a b : Nat) (w : World) (ha : 1 ≤ a) (ha2 : a ≤ 1000000000000000) (hb : 1 ≤ b) (hb2 : b ≤ 1000000000000000) :
    Calls Try.prog 15 #[.int .i64 (a : Int), .int .i64 (b : Int)] w fun e w' => e = .returned (.tuple #[.int .i64 ((if lcmN a b ≤ 1000000000000000000 then lcmN a b else 0 : Nat) : Int), .bool (decide (lcmN a b ≤ 1000000000000000000))]) ∧ Below w.heap.size w w' := by
  have hp : 0 < Nat.gcd a b := Nat.gcd_pos_of_pos_left _ ha
  have ht := lcm_test a b hb
  obtain ⟨G, hG⟩ : ∃ G : Nat, Nat.gcd a b = G := ⟨_, rfl⟩
  have hGi : ((Int.gcd (a : Int) (b : Int) : Nat) : Int) = (G : Int) := by rw [← hG]; rfl
  have hL : lcmN a b = a / G * b := by unfold lcmN; rw [hG]
  rw [hG] at hp ht
  obtain ⟨L, hL2⟩ : ∃ L : Nat, lcmN a b = L := ⟨_, rfl⟩
  rw [hL2] at ht hL ⊢
  have hle : a / G ≤ a := Nat.div_le_self _ _
  obtain ⟨q, hq⟩ : ∃ q : Nat, a / G = q := ⟨_, rfl⟩
  have hqi : (a : Int) / (G : Int) = (q : Int) := by rw [← hq]; rfl
  obtain ⟨m, hm⟩ : ∃ m : Nat, 1000000000000000000 / b = m := ⟨_, rfl⟩
  have hmi : (1000000000000000000 : Int) / (b : Int) = (m : Int) := by rw [← hm]; rfl
  rw [hq] at ht hL hle
  rw [hm] at ht
  have hlb : (q : Int) * (b : Int) = (L : Int) := by rw [hL]; simp
  have HGI := Lib.hid hGi
  have hne : ((G : Int) == 0) = false := by simp; omega
  have hne2 : ((b : Int) == 0) = false := by simp; omega
  have hp' : (1 : Int) ≤ (G : Int) := by omega
  have hb' : (1 : Int) ≤ (b : Int) := by omega
  clear hG hGi hL hL2 hq hm
  by_cases hc : L ≤ 1000000000000000000
  · rw [if_pos hc, decide_eq_true hc]
    have hd : decide ((m : Int) < (q : Int)) = false := by simp; omega
    have hd2 : decide (m < q) = false := by simp; omega
    clear ht
    go_enter Try.func15, Try.ntmps15
    go_wp2_with fail
    refine (l00In_t _ _ _ _ (by omega) (by omega)).mono ?_; rintro e w' ⟨rfl, rfl⟩
    go_wp2_with fail
    refine (l00In_t _ _ _ _ (by omega) (by omega)).mono ?_; rintro e w' ⟨rfl, rfl⟩
    go_wp2_with fail
    refine (specGcd _ _ _ (by omega) (by omega) (by omega) (by omega)).mono ?_; rintro e w' ⟨rfl, rfl⟩
    rw [HGI.out]
    go_wp2
    go_ret2
    exact ⟨rfl, Below.refl _ _⟩
  · rw [if_neg hc, decide_eq_false hc]
    have hd : decide ((m : Int) < (q : Int)) = true := by simp; omega
    have hd2 : decide (m < q) = true := by simp; omega
    clear ht
    go_enter Try.func15, Try.ntmps15
    go_wp2_with fail
    refine (l00In_t _ _ _ _ (by omega) (by omega)).mono ?_; rintro e w' ⟨rfl, rfl⟩
    go_wp2_with fail
    refine (l00In_t _ _ _ _ (by omega) (by omega)).mono ?_; rintro e w' ⟨rfl, rfl⟩
    go_wp2_with fail
    refine (specGcd _ _ _ (by omega) (by omega) (by omega) (by omega)).mono ?_; rintro e w' ⟨rfl, rfl⟩
    rw [HGI.out]
    go_wp2
    go_ret2
    exact ⟨rfl, Below.refl _ _⟩
theorem implLcm_t (a b : Nat) (w : World) (ha : 1 ≤ a) (ha2 : a ≤ 1000000000000000) (hb : 1 ≤ b) (hb2 : b ≤ 1000000000000000) :
    Calls Try.prog 16 #[.int .i64 (a : Int), .int .i64 (b : Int)] w fun e w' => e = .returned (.tuple #[.int .i64 ((if lcmN a b ≤ 1000000000000000000 then lcmN a b else 0 : Nat) : Int), .bool (decide (lcmN a b ≤ 1000000000000000000))]) ∧ Below w.heap.size w w' := by
  have hp : 0 < Nat.gcd a b := Nat.gcd_pos_of_pos_left _ ha
  have hg2 : Nat.gcd a b ≤ a := Nat.gcd_le_left _ ha
  have hl := lcm_div a b ha
  have hGi : ((Int.gcd (a : Int) (b : Int) : Nat) : Int) = (Nat.gcd a b : Int) := rfl
  have HGI := Lib.hid hGi
  have d1 : decide ((a : Int) < 0) = false := by simp
  have d2 : decide ((b : Int) < 0) = false := by simp
  have n1 : (a : Int).natAbs = a := by simp
  have n2 : (b : Int).natAbs = b := by simp
  have D1 := Lib.hid d1
  have D2 := Lib.hid d2
  have N1 := Lib.hid n1
  have N2 := Lib.hid n2
  have HL := Lib.hid hl
  generalize hgg : Nat.gcd a b = G at *
  have HGG := Lib.hid hgg
  clear hgg hGi d1 d2 n1 n2 hl
  have pr : ∀ w, Calls Try.prog 62 #[.int .i64 (a : Int), .int .i64 (b : Int)] w fun e w' => e = .returned (.agg #[.bool false, .int .u64 (hiW (a * b)), .int .u64 (loW (a * b))]) ∧ Below w.heap.size w w' := fun w =>
    (product_any (a : Int) (b : Int) w (by omega) (by omega) (by omega) (by omega)).mono fun e w' h => by rw [D1.out, D2.out, N1.out, N2.out] at h; exact h
  have PR := Lib.hid pr
  clear pr
  by_cases hc : lcmN a b ≤ 1000000000000000000
  · rw [if_pos hc, decide_eq_true hc, ← HL.out]
    rw [← HL.out] at hc
    go_enter Try.func16, Try.ntmps16
    go_wp2_with fail
    refine (implGcdOf_t _ _ _ (by omega) (by omega) (by omega) (by omega)).mono ?_
    rw [HGI.out]
    rintro e w' ⟨rfl, q, rfl⟩
    go_wp2_with fail
    refine (PR.out _).mono ?_; rintro e w1 ⟨rfl, hb1⟩
    go_wp2_with fail
    refine (over_t false (a * b) G _ hp (by omega) hc).mono ?_; rintro e w2 ⟨rfl, hb2⟩
    go_wp2
    go_ret2
    exact ⟨rfl, (bdw (Below.refl _ _) q).trans (hb1.trans (hb2.mono hb1.size))⟩
  · rw [if_neg hc, decide_eq_false hc]
    rw [← HL.out] at hc
    go_enter Try.func16, Try.ntmps16
    go_wp2_with fail
    refine (implGcdOf_t _ _ _ (by omega) (by omega) (by omega) (by omega)).mono ?_
    rw [HGI.out]
    rintro e w' ⟨rfl, q, rfl⟩
    go_wp2_with fail
    refine (PR.out _).mono ?_; rintro e w1 ⟨rfl, hb1⟩
    go_wp2_with fail
    refine (over_f false (a * b) G _ hp (by omega) (by omega)).mono ?_; rintro e w2 ⟨rfl, hb2⟩
    go_wp2
    go_ret2
    exact ⟨rfl, (bdw (Below.refl _ _) q).trans (hb1.trans (hb2.mono hb1.size))⟩
theorem walk_FnExactLcmOf (a b : Int) (w : World) (_wa : (Lit.int .i64 a).wf = true) (_wb : (Lit.int .i64 b).wf = true) :
    Calls Try.prog 3 #[.int .i64 a, .int .i64 b] w fun e w' => e = .returned (.bool true) ∧ Below w.heap.size w w' := by
  obtain ⟨r, c, hS, hI⟩ : ∃ (r : Int) (c : Bool), (∀ w, Calls Try.prog 15 #[.int .i64 a, .int .i64 b] w fun e w' => e = .returned (.tuple #[.int .i64 r, .bool c]) ∧ Below w.heap.size w w') ∧ (∀ w, Calls Try.prog 16 #[.int .i64 a, .int .i64 b] w fun e w' => e = .returned (.tuple #[.int .i64 r, .bool c]) ∧ Below w.heap.size w w') := by
    by_cases h : 1 ≤ a ∧ a ≤ 1000000000000000 ∧ 1 ≤ b ∧ b ≤ 1000000000000000
    · obtain ⟨h1, h2, h3, h4⟩ := h
      obtain ⟨x, rfl⟩ := Int.eq_ofNat_of_zero_le (show 0 ≤ a by omega)
      obtain ⟨y, rfl⟩ := Int.eq_ofNat_of_zero_le (show 0 ≤ b by omega)
      exact ⟨_, _, fun w => specLcm_t x y w (by omega) (by omega) (by omega) (by omega), fun w => implLcm_t x y w (by omega) (by omega) (by omega) (by omega)⟩
    · exact ⟨_, _, fun w => specLcm_f a b w (by omega), fun w => implLcm_f a b w (by omega)⟩
  have HS := Lib.hid hS
  have HI := Lib.hid hI
  clear hS hI
  go_enter Try.func3, Try.ntmps3
  go_wp2_with fail
  refine (HS.out _).mono ?_; rintro e w1 ⟨rfl, b1⟩
  go_wp2_with fail
  refine (HI.out _).mono ?_; rintro e w2 ⟨rfl, b2⟩
  go_wp2
  go_ret
  exact ⟨rfl, b1.trans (b2.mono b1.size)⟩
end Go.Proofs.Ytljbblfdaphjpaa
