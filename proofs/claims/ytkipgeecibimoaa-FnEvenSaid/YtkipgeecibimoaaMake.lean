/- Numbers make a fraction, on the side of the program. -/
import Derived.Test.YtkipgeecibimoaaFrac
namespace Go.Proofs.Ytkipgeecibimoaa
open Go.RowKit

theorem implMake_f (n d : Int) (w : World) (h : n < -1000000000000000000 ∨ 1000000000000000000 < n ∨ d < -1000000000000000000 ∨ 1000000000000000000 < d ∨ d = 0) :
    Calls Try.prog 22 #[.int .i64 n, .int .i64 d] w fun e w' => e = .returned (.tuple #[.agg #[.int .i64 0, .int .i64 0], .bool false]) ∧ Below w.heap.size w w' := by
  by_cases hd : d = 0
  · subst hd
    go_enter Try.func22, Try.ntmps22
    go_wp2
    exact bodyPost_ret (v := .tuple #[.agg #[.int .i64 0, .int .i64 0], .bool false]) (by simp [results, Try.results22, go_sem]) rfl ⟨rfl, (Below.refl _ _).alloc (Nat.le_refl _) _⟩
  · have h0 : (d == 0) = false := by simp [hd]
    by_cases hn : n < -1000000000000000000 ∨ 1000000000000000000 < n
    · go_enter Try.func22, Try.ntmps22
      go_wp2_with fail
      refine (within_i64_f _ _ _ _ hn).mono ?_; rintro e w' ⟨rfl, rfl⟩
      go_wp2
      exact bodyPost_ret (v := .tuple #[.agg #[.int .i64 0, .int .i64 0], .bool false]) (by simp [results, Try.results22, go_sem]) rfl ⟨rfl, (Below.refl _ _).alloc (Nat.le_refl _) _⟩
    · go_enter Try.func22, Try.ntmps22
      go_wp2_with fail
      refine (within_i64_t _ _ _ _ (by omega) (by omega)).mono ?_; rintro e w' ⟨rfl, rfl⟩
      go_wp2_with fail
      refine (within_i64_f _ _ _ _ (by omega)).mono ?_; rintro e w' ⟨rfl, rfl⟩
      go_wp2
      exact bodyPost_ret (v := .tuple #[.agg #[.int .i64 0, .int .i64 0], .bool false]) (by simp [results, Try.results22, go_sem]) rfl ⟨rfl, (Below.refl _ _).alloc (Nat.le_refl _) _⟩

theorem implMake_t (n d : Int) (w : World) (hn1 : -1000000000000000000 ≤ n) (hn2 : n ≤ 1000000000000000000) (hd1 : -1000000000000000000 ≤ d) (hd2 : d ≤ 1000000000000000000) (hd : d ≠ 0) :
    Calls Try.prog 22 #[.int .i64 n, .int .i64 d] w fun e w' => e = .returned (.tuple #[.agg #[.int .i64 (mkN n d), .int .i64 (mkD n d)], .bool true]) ∧ Below w.heap.size w w' := by
  have h0 : (d == 0) = false := by simp [hd]
  by_cases hs : 0 < d
  · obtain ⟨G, hG⟩ : ∃ G : Int, ((Int.gcd n d : Nat) : Int) = G := ⟨_, rfl⟩
    have hp := gcd_pos n d hs
    obtain ⟨m1, m2⟩ := mk_pos n d hs
    rw [m1, m2]
    rw [hG] at hp ⊢
    have HG := Lib.hid hG
    clear hG m1 m2
    have hne : (G == 0) = false := by simp; omega
    go_enter Try.func22, Try.ntmps22
    go_wp2_with fail
    refine (within_i64_t _ _ _ _ hn1 hn2).mono ?_; rintro e w' ⟨rfl, rfl⟩
    go_wp2_with fail
    refine (within_i64_t _ _ _ _ hd1 hd2).mono ?_; rintro e w' ⟨rfl, rfl⟩
    go_wp2_with fail
    refine (sizeOf_any _ _ (by omega) (by omega)).mono ?_; rintro e w' ⟨rfl, rfl⟩
    go_wp2_with fail
    refine (implGcd _ _ _ (by omega) (by omega) (by omega) (by omega)).mono ?_; rintro e w' ⟨rfl, q, rfl⟩
    rw [gcd_sz, HG.out]
    go_wp2_with fail
    go_region
    all_goals
      go_wp2
      refine bodyPost_ret (v := .tuple #[.agg #[.int .i64 (n.tdiv G), .int .i64 (d / G)], .bool true]) (by simp [results, Try.results22, go_sem]) rfl ⟨rfl, ?_⟩
      exact ((below_drewN ((Below.refl _ _).alloc (Nat.le_refl _) _) _).setCell (Nat.le_refl _) _).setCell (Nat.le_refl _) _
  · obtain ⟨m, rfl⟩ : ∃ m, n = -m := ⟨-n, by omega⟩
    obtain ⟨f, rfl⟩ : ∃ f, d = -f := ⟨-d, by omega⟩
    obtain ⟨G, hG⟩ : ∃ G : Int, ((Int.gcd m f : Nat) : Int) = G := ⟨_, rfl⟩
    have hp := gcd_pos m f (by omega)
    have m1 : mkN (-m) (-f) = m.tdiv (Int.gcd m f) := by unfold mkN; rw [if_pos (by omega)]; simp
    have m2 : mkD (-m) (-f) = f / (Int.gcd m f) := by unfold mkD; rw [if_pos (by omega)]; simp
    rw [m1, m2]
    rw [hG] at hp ⊢
    have HG := Lib.hid hG
    clear hG m1 m2
    have hne : (G == 0) = false := by simp; omega
    have hlt : -f < 0 := by omega
    go_enter Try.func22, Try.ntmps22
    go_wp2_with fail
    refine (within_i64_t _ _ _ _ hn1 hn2).mono ?_; rintro e w' ⟨rfl, rfl⟩
    go_wp2_with fail
    refine (within_i64_t _ _ _ _ hd1 hd2).mono ?_; rintro e w' ⟨rfl, rfl⟩
    go_wp2_with fail
    refine (sizeOf_any _ _ (by omega) (by omega)).mono ?_; rintro e w' ⟨rfl, rfl⟩
    go_wp2_with fail
    refine (implGcd _ _ _ (by omega) (by omega) (by omega) (by omega)).mono ?_; rintro e w' ⟨rfl, q, rfl⟩
    rw [gcd_sz, HG.out]
    go_wp2_with fail
    go_region
    all_goals
      go_wp2
      refine bodyPost_ret (v := .tuple #[.agg #[.int .i64 (m.tdiv G), .int .i64 (f / G)], .bool true]) (by simp [results, Try.results22, go_sem]) rfl ⟨rfl, ?_⟩
      exact ((below_drewN ((Below.refl _ _).alloc (Nat.le_refl _) _) _).setCell (Nat.le_refl _) _).setCell (Nat.le_refl _) _

end Go.Proofs.Ytkipgeecibimoaa
