/- Contracts: is a fraction valid, on both sides; a fraction of numbers; the copy of a fraction; are two fractions the same. -/
import Derived.Test.YthigopehalkoaaaDoorGcd
import Derived.IntWalk
import Derived.StillTailTactics
namespace Go.Proofs.YthigopehalkoaaaDoor
open Go.RowKit

theorem quiet_eq {P : Program} {f : FuncId} {args : Array Value} {w : World} {n : Nat} {v : Value}
    (h : Calls P f args (w.drewN n) fun e w' => e = .returned v ∧ w.drewN n = w') : Calls P f args (w.drewN n) fun e w'' => e = .returned v ∧ ∃ m, w'' = w.drewN m :=
  h.mono fun _ _ ⟨he, hm⟩ => ⟨he, n, hm.symm⟩

theorem below_drewN {B : Nat} {a w : World} (h : Below B a w) (n : Nat) : Below B a (w.drewN n) := ⟨h.os, h.tape, h.output, h.size, h.block⟩

def fracB (n d : Int) : Bool := decide (1 ≤ d ∧ d ≤ 1000000000000000000 ∧ -1000000000000000000 ≤ n ∧ n ≤ 1000000000000000000 ∧ Int.gcd n d = 1)
theorem frac_val (n d : Int) (hd1 : 1 ≤ d) (hd2 : d ≤ 1000000000000000000) (hn1 : -1000000000000000000 ≤ n) (hn2 : n ≤ 1000000000000000000) : (((Int.gcd (n.natAbs : Int) d : Nat) : Int) == 1) = fracB n d := by
  unfold fracB
  rw [Bool.eq_iff_iff]
  simp [hd1, hd2, hn1, hn2, Int.gcd]
  omega
theorem frac_no (n d : Int) (h : ¬ (1 ≤ d ∧ d ≤ 1000000000000000000 ∧ -1000000000000000000 ≤ n ∧ n ≤ 1000000000000000000)) : fracB n d = false := by
  unfold fracB
  rw [decide_eq_false_iff_not]
  intro h2
  exact h ⟨h2.1, h2.2.1, h2.2.2.1, h2.2.2.2.1⟩

theorem l01FIs_any (n d : Int) (w : World) :
    Calls Tryd.prog 48 #[.agg #[.int .i64 n, .int .i64 d]] w fun e w' => e = .returned (.bool (fracB n d)) ∧ Below w.heap.size w w' := by
  by_cases hd : 1 ≤ d ∧ d ≤ 1000000000000000000
  · obtain ⟨hd1, hd2⟩ := hd
    by_cases hn : -1000000000000000000 ≤ n ∧ n ≤ 1000000000000000000
    · obtain ⟨hn1, hn2⟩ := hn
      go_enter Tryd.func48, Tryd.ntmps48
      go_wp2
      go_quiet (first | (go_at_call 84; exact quiet_eq (l00In_t _ _ _ _ (by omega) (by omega))) | (go_at_call 87; exact quiet_eq (l00Max_size _ _ _ (by omega))) | (go_at_call 86; exact quiet_eq (specGcd _ _ _ (by omega) (by omega) (by omega) (by omega))))
      go_wp2
      go_ret
      exact ⟨ret_bool (frac_val n d hd1 hd2 hn1 hn2), below_drewN ((Below.refl _ _).alloc (Nat.le_refl _) _) _⟩
    · go_enter Tryd.func48, Tryd.ntmps48
      go_wp2
      go_quiet (first | (go_at_call 84; exact quiet_eq (l00In_t _ _ _ _ (by omega) (by omega))) | (go_at_call 84; exact quiet_eq (l00In_f _ _ _ _ (by omega))))
      go_wp2
      go_ret
      exact ⟨ret_bool (frac_no n d (by omega)).symm, below_drewN ((Below.refl _ _).alloc (Nat.le_refl _) _) _⟩
  · go_enter Tryd.func48, Tryd.ntmps48
    go_wp2
    go_quiet ((go_at_call 84; exact quiet_eq (l00In_f _ _ _ _ (by omega))))
    go_wp2
    go_ret
    exact ⟨ret_bool (frac_no n d (by omega)).symm, below_drewN ((Below.refl _ _).alloc (Nat.le_refl _) _) _⟩

theorem implValid (n d : Int) (w : World) :
    Calls Tryd.prog 50 #[.agg #[.int .i64 n, .int .i64 d]] w fun e w' => e = .returned (.bool (fracB n d)) ∧ Below w.heap.size w w' := by
  by_cases hn : -1000000000000000000 ≤ n ∧ n ≤ 1000000000000000000
  · obtain ⟨hn1, hn2⟩ := hn
    by_cases hd : 1 ≤ d ∧ d ≤ 1000000000000000000
    · obtain ⟨hd1, hd2⟩ := hd
      go_enter Tryd.func50, Tryd.ntmps50
      go_wp2_with fail
      refine (within_i64_t _ _ _ _ hn1 hn2).mono ?_; rintro e w' ⟨rfl, rfl⟩
      go_wp2_with fail
      refine (within_i64_t _ _ _ _ hd1 hd2).mono ?_; rintro e w' ⟨rfl, rfl⟩
      go_wp2_with fail
      go_quiet (first | (go_at_call 89; exact quiet_eq (sizeOf_any _ _ (by omega) (by omega))) | (go_at_call 88; exact Calls.quiet_of (implGcd _ _ _ (by omega) (by omega) (by omega) (by omega))))
      go_wp2
      go_ret
      exact ⟨ret_bool (frac_val n d hd1 hd2 hn1 hn2), below_drewN ((Below.refl _ _).alloc (Nat.le_refl _) _) _⟩
    · go_enter Tryd.func50, Tryd.ntmps50
      go_wp2_with fail
      refine (within_i64_t _ _ _ _ hn1 hn2).mono ?_; rintro e w' ⟨rfl, rfl⟩
      go_wp2_with fail
      refine (within_i64_f _ _ _ _ (by omega)).mono ?_; rintro e w' ⟨rfl, rfl⟩
      go_wp2
      go_ret
      exact ⟨ret_bool (frac_no n d (by omega)).symm, (Below.refl _ _).alloc (Nat.le_refl _) _⟩
  · go_enter Tryd.func50, Tryd.ntmps50
    go_wp2_with fail
    refine (within_i64_f _ _ _ _ (by omega)).mono ?_; rintro e w' ⟨rfl, rfl⟩
    go_wp2
    go_ret
    exact ⟨ret_bool (frac_no n d (by omega)).symm, (Below.refl _ _).alloc (Nat.le_refl _) _⟩

theorem toFraction_any (n d : Int) (w : World) :
    Calls Tryd.prog 18 #[.agg #[.int .i64 n, .int .i64 d]] w fun e w' => e = .returned (.agg #[.int .i64 n, .int .i64 d]) ∧ Below w.heap.size w w' := by
  go_enter Tryd.func18, Tryd.ntmps18
  go_wp2
  refine bodyPost_ret (v := .agg #[.int .i64 n, .int .i64 d]) (by simp [results, Tryd.results18, go_sem]) rfl ⟨rfl, ?_⟩
  exact (((Below.refl _ _).alloc (Nat.le_refl _) _).alloc (by simp) _).alloc (by simp; omega) _

theorem eqFraction_same (n d : Int) (w : World) :
    Calls Tryd.prog 22 #[.agg #[.int .i64 n, .int .i64 d], .agg #[.int .i64 n, .int .i64 d]] w fun e w' => e = .returned (.bool true) ∧ Below w.heap.size w w' := by
  go_enter Tryd.func22, Tryd.ntmps22
  go_wp2
  go_ret
  exact ⟨rfl, ((Below.refl _ _).alloc (Nat.le_refl _) _).alloc (by simp) _⟩

theorem gcd_sz (n d : Int) : Int.gcd (n.natAbs : Int) d = Int.gcd n d := by simp [Int.gcd]
theorem gcd_pos (n d : Int) (h : 0 < d) : (1 : Int) ≤ Int.gcd n d := by
  have h1 : Int.gcd n d ∣ d.natAbs := Nat.gcd_dvd_right _ _
  have h3 : Int.gcd n d ≠ 0 := by
    intro h; rw [h] at h1; have := Nat.eq_zero_of_zero_dvd h1; omega
  omega
theorem gcd_neg (n d : Int) : Int.gcd n (-d) = Int.gcd n d := by simp
/-- n / d in lowest terms -/
def mkN (n d : Int) : Int := (if d < 0 then -n else n).tdiv (Int.gcd n d)
def mkD (n d : Int) : Int := (if d < 0 then -d else d) / (Int.gcd n d)
theorem mk_pos (n d : Int) (h : 0 < d) : mkN n d = n.tdiv (Int.gcd n d) ∧ mkD n d = d / (Int.gcd n d) := by
  unfold mkN mkD; rw [if_neg (by omega), if_neg (by omega)]; exact ⟨rfl, rfl⟩
end Go.Proofs.YthigopehalkoaaaDoor
