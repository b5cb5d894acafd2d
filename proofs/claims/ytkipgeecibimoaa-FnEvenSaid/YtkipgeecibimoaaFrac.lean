/- Contracts: is a fraction valid, on both sides; a fraction of numbers; the copy of a fraction; are two fractions the same. -/
import Derived.Test.YtkipgeecibimoaaGcd
import Derived.IntWalk
import Derived.StillTailTactics
namespace Go.Proofs.Ytkipgeecibimoaa
open Go.RowKit

theorem quiet_eq {P : Program} {f : FuncId} {args : Array Value} {w : World} {n : Nat} {v : Value}
    (h : Calls P f args (w.drewN n) fun e w' => e = .returned v ∧ w.drewN n = w') : Calls P f args (w.drewN n) fun e w'' => e = .returned v ∧ ∃ m, w'' = w.drewN m :=
  h.mono fun _ _ ⟨he, hm⟩ => ⟨he, n, hm.symm⟩

theorem below_drewN {B : Nat} {a w : World} (h : Below B a w) (n : Nat) : Below B a (w.drewN n) := ⟨h.os, h.tape, h.output, h.size, h.block⟩

def fracB (n d : Int) : Bool := decide (1 ≤ d ∧ d ≤ 1000000000000000000 ∧ -1000000000000000000 ≤ n ∧ n ≤ 1000000000000000000 ∧ Int.gcd n d = 1)
theorem frac_val (n d : Int) (hd1 : 1 ≤ d) (hd2 : d ≤ 1000000000000000000) (hn1 : -1000000000000000000 ≤ n) (hn2 : n ≤ 1000000000000000000) : (((Int.gcd (n.natAbs : Int) d : Nat) : Int) == 1) = fracB n d := by
  unfold fracB
  rw [Bool.eq_iff_iff]
  simp [hd1, hd2, hn1, hn2, Int.gcd]
  omega
theorem frac_no (n d : Int) (h : ¬ (1 ≤ d ∧ d ≤ 1000000000000000000 ∧ -1000000000000000000 ≤ n ∧ n ≤ 1000000000000000000)) : fracB n d = false := by
  unfold fracB
  rw [decide_eq_false_iff_not]
  intro h2
  exact h ⟨h2.1, h2.2.1, h2.2.2.1, h2.2.2.2.1⟩

theorem l01FIs_any (n d : Int) (w : World) :
    Calls Try.prog 134 #[.agg #[.int .i64 n, .int .i64 d]] w fun e w' => e = .returned (.bool (fracB n d)) ∧ Below w.heap.size w w' := by
  by_cases hd : 1 ≤ d ∧ d ≤ 1000000000000000000
  · obtain ⟨hd1, hd2⟩ := hd
    by_cases hn : -1000000000000000000 ≤ n ∧ n ≤ 1000000000000000000
    · obtain ⟨hn1, hn2⟩ := hn
      go_enter Try.func134, Try.ntmps134
      go_wp2
      go_quiet (first | (go_at_call 81; exact quiet_eq (l00In_t _ _ _ _ (by omega) (by omega))) | (go_at_call 142; exact quiet_eq (l00Max_size _ _ _ (by omega))) | (go_at_call 141; exact quiet_eq (specGcd _ _ _ (by omega) (by omega) (by omega) (by omega))))
      go_wp2
      go_ret
      exact ⟨ret_bool (frac_val n d hd1 hd2 hn1 hn2), below_drewN ((Below.refl _ _).alloc (Nat.le_refl _) _) _⟩
    · go_enter Try.func134, Try.ntmps134
      go_wp2
      go_quiet (first | (go_at_call 81; exact quiet_eq (l00In_t _ _ _ _ (by omega) (by omega))) | (go_at_call 81; exact quiet_eq (l00In_f _ _ _ _ (by omega))))
      go_wp2
      go_ret
      exact ⟨ret_bool (frac_no n d (by omega)).symm, below_drewN ((Below.refl _ _).alloc (Nat.le_refl _) _) _⟩
  · go_enter Try.func134, Try.ntmps134
    go_wp2
    go_quiet ((go_at_call 81; exact quiet_eq (l00In_f _ _ _ _ (by omega))))
    go_wp2
    go_ret
    exact ⟨ret_bool (frac_no n d (by omega)).symm, below_drewN ((Below.refl _ _).alloc (Nat.le_refl _) _) _⟩

theorem implValid (n d : Int) (w : World) :
    Calls Try.prog 133 #[.agg #[.int .i64 n, .int .i64 d]] w fun e w' => e = .returned (.bool (fracB n d)) ∧ Below w.heap.size w w' := by
  by_cases hn : -1000000000000000000 ≤ n ∧ n ≤ 1000000000000000000
  · obtain ⟨hn1, hn2⟩ := hn
    by_cases hd : 1 ≤ d ∧ d ≤ 1000000000000000000
    · obtain ⟨hd1, hd2⟩ := hd
      go_enter Try.func133, Try.ntmps133
      go_wp2_with fail
      refine (within_i64_t _ _ _ _ hn1 hn2).mono ?_; rintro e w' ⟨rfl, rfl⟩
      go_wp2_with fail
      refine (within_i64_t _ _ _ _ hd1 hd2).mono ?_; rintro e w' ⟨rfl, rfl⟩
      go_wp2_with fail
      go_quiet (first | (go_at_call 72; exact quiet_eq (sizeOf_any _ _ (by omega) (by omega))) | (go_at_call 71; exact Calls.quiet_of (implGcd _ _ _ (by omega) (by omega) (by omega) (by omega))))
      go_wp2
      go_ret
      exact ⟨ret_bool (frac_val n d hd1 hd2 hn1 hn2), below_drewN ((Below.refl _ _).alloc (Nat.le_refl _) _) _⟩
    · go_enter Try.func133, Try.ntmps133
      go_wp2_with fail
      refine (within_i64_t _ _ _ _ hn1 hn2).mono ?_; rintro e w' ⟨rfl, rfl⟩
      go_wp2_with fail
      refine (within_i64_f _ _ _ _ (by omega)).mono ?_; rintro e w' ⟨rfl, rfl⟩
      go_wp2
      go_ret
      exact ⟨ret_bool (frac_no n d (by omega)).symm, (Below.refl _ _).alloc (Nat.le_refl _) _⟩
  · go_enter Try.func133, Try.ntmps133
    go_wp2_with fail
    refine (within_i64_f _ _ _ _ (by omega)).mono ?_; rintro e w' ⟨rfl, rfl⟩
    go_wp2
    go_ret
    exact ⟨ret_bool (frac_no n d (by omega)).symm, (Below.refl _ _).alloc (Nat.le_refl _) _⟩

theorem gcd_sz (n d : Int) : Int.gcd (n.natAbs : Int) d = Int.gcd n d := by simp [Int.gcd]
theorem gcd_pos (n d : Int) (h : 0 < d) : (1 : Int) ≤ Int.gcd n d := by
  have h1 : Int.gcd n d ∣ d.natAbs := Nat.gcd_dvd_right _ _
  have h3 : Int.gcd n d ≠ 0 := by
    intro h; rw [h] at h1; have := Nat.eq_zero_of_zero_dvd h1; omega
  omega
theorem gcd_neg (n d : Int) : Int.gcd n (-d) = Int.gcd n d := by simp
/-- n / d in lowest terms -/
def mkN (n d : Int) : Int := (if d < 0 then -n else n).tdiv (Int.gcd n d)
def mkD (n d : Int) : Int := (if d < 0 then -d else d) / (Int.gcd n d)
theorem mk_pos (n d : Int) (h : 0 < d) : mkN n d = n.tdiv (Int.gcd n d) ∧ mkD n d = d / (Int.gcd n d) := by
  unfold mkN mkD; rw [if_neg (by omega), if_neg (by omega)]; exact ⟨rfl, rfl⟩
theorem l01FMake_any (n d : Int) (w : World) (hn1 : -1000000000000000000 ≤ n) (hn2 : n ≤ 1000000000000000000) (hd1 : -1000000000000000000 ≤ d) (hd2 : d ≤ 1000000000000000000) (hd : d ≠ 0) :
    Calls Try.prog 82 #[.int .i64 n, .int .i64 d] w fun e w' => e = .returned (.agg #[.int .i64 (mkN n d), .int .i64 (mkD n d)]) ∧ Below w.heap.size w w' := by
  by_cases hs : 0 < d
  · obtain ⟨G, hG⟩ : ∃ G : Int, ((Int.gcd n d : Nat) : Int) = G := ⟨_, rfl⟩
    have hp := gcd_pos n d hs
    obtain ⟨m1, m2⟩ := mk_pos n d hs
    rw [m1, m2]
    rw [hG] at hp ⊢
    have HG := Lib.hid hG
    clear hG m1 m2
    have hne : (G == 0) = false := by simp; omega
    go_enter Try.func82, Try.ntmps82
    go_wp2_with fail
    refine (l00Max_size _ _ _ (by omega)).mono ?_; rintro e w' ⟨rfl, rfl⟩
    go_wp2_with fail
    refine (specGcd _ _ _ (by omega) (by omega) (by omega) (by omega)).mono ?_; rintro e w' ⟨rfl, rfl⟩
    rw [gcd_sz, HG.out]
    go_wp2_with fail
    go_region
    all_goals
      go_wp2
      refine bodyPost_ret (v := .agg #[.int .i64 (n.tdiv G), .int .i64 (d / G)]) (by simp [results, Try.results82, go_sem]) rfl ⟨rfl, ?_⟩
      exact below_drewN ((Below.refl _ _).alloc (Nat.le_refl _) _) 1
  · obtain ⟨m, rfl⟩ : ∃ m, n = -m := ⟨-n, by omega⟩
    obtain ⟨f, rfl⟩ : ∃ f, d = -f := ⟨-d, by omega⟩
    obtain ⟨G, hG⟩ : ∃ G : Int, ((Int.gcd m f : Nat) : Int) = G := ⟨_, rfl⟩
    have hp := gcd_pos m f (by omega)
    have m1 : mkN (-m) (-f) = m.tdiv (Int.gcd m f) := by unfold mkN; rw [if_pos (by omega)]; simp
    have m2 : mkD (-m) (-f) = f / (Int.gcd m f) := by unfold mkD; rw [if_pos (by omega)]; simp
    rw [m1, m2]
    rw [hG] at hp ⊢
    have HG := Lib.hid hG
    clear hG m1 m2
    have hne : (G == 0) = false := by simp; omega
    have hlt : -f < 0 := by omega
    go_enter Try.func82, Try.ntmps82
    go_wp2_with fail
    refine (l00Max_size m _ _ (by omega)).mono ?_; rintro e w' ⟨rfl, rfl⟩
    go_wp2_with fail
    refine (specGcd _ _ _ (by omega) (by omega) (by omega) (by omega)).mono ?_; rintro e w' ⟨rfl, rfl⟩
    rw [gcd_sz, HG.out]
    go_wp2_with fail
    go_region
    all_goals
      go_wp2
      refine bodyPost_ret (v := .agg #[.int .i64 (m.tdiv G), .int .i64 (f / G)]) (by simp [results, Try.results82, go_sem]) rfl ⟨rfl, ?_⟩
      exact below_drewN ((Below.refl _ _).alloc (Nat.le_refl _) _) 1
end Go.Proofs.Ytkipgeecibimoaa
