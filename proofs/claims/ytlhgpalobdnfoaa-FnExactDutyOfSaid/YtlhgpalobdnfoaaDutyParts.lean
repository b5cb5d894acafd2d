/- Parts of a fraction out of two numbers, on both sides, where the fraction's other functions are not there. -/
import Derived.Test.YtlhgpalobdnfoaaStr
import Derived.BigQuiet
import Derived.Deep.QuietTactic
import Derived.IntWalk
import Derived.StillTailTactics
namespace Go.Proofs.Ytlhgpalobdnfoaa
open Go.RowKit

theorem within_i64_t (x lo hi : Int) (w : World) (h1 : lo ≤ x) (h2 : x ≤ hi) :
    Calls Try.prog 43 #[.int .i64 x, .int .i64 lo, .int .i64 hi] w fun e w' => e = .returned (.bool true) ∧ w = w' := by
  go_enter Try.func43, Try.ntmps43
  go_wp2
  go_ret
  exact ⟨by simp, rfl⟩
theorem gcd_step (a b : Int) (ha : 0 ≤ a) (hb : 0 < b) : Int.gcd b (a % b) = Int.gcd a b := by
  obtain ⟨x, rfl⟩ := Int.eq_ofNat_of_zero_le ha
  obtain ⟨y, rfl⟩ := Int.eq_ofNat_of_zero_le (Int.le_of_lt hb)
  show Nat.gcd y (x % y) = Nat.gcd x y
  rw [Nat.gcd_comm x y, Nat.gcd_rec y x, Nat.gcd_comm]
theorem gcd_end (a : Int) (ha : 0 ≤ a) : ((Int.gcd a 0 : Nat) : Int) = a := by
  rw [Int.gcd_zero_right]; omega

theorem specGcd (a0 b0 : Int) (w : World) (ha : 0 ≤ a0) (hb : 0 ≤ b0) (ha2 : a0 ≤ 9223372036854775807) (hb2 : b0 ≤ 9223372036854775807) :
    Calls Try.prog 73 #[.int .i64 a0, .int .i64 b0] w fun e w' => e = .returned (.int .i64 (Int.gcd a0 b0)) ∧ w = w' := by
  go_enter Try.func73, Try.ntmps73
  go_wp2
  go_loop [0, 1, 5] (fun a b _ => ∃ x y : Int, a = .int .i64 x ∧ b = .int .i64 y ∧ 0 ≤ x ∧ 0 ≤ y ∧ x ≤ 9223372036854775807 ∧ y ≤ 9223372036854775807 ∧ Int.gcd x y = Int.gcd a0 b0) (fun _ b _ => (intOf b).toNat)
  case atStart => exact ⟨a0, b0, rfl, rfl, ha, hb, ha2, hb2, rfl⟩
  case round =>
    obtain ⟨x, y, rfl, rfl, hx, hy, hx2, hy2, hg⟩ := hrel
    have HG := Lib.hid hg
    clear hg
    by_cases hlt : 0 < y
    · have hm0 : 0 ≤ x % y := Int.emod_nonneg _ (by omega)
      have hm1 : x % y < y := Int.emod_lt_of_pos _ hlt
      have HS := Lib.hid (gcd_step x y hx hlt)
      go_wp2
      go_round
      case rel => exact ⟨y, x % y, rfl, rfl, by omega, by omega, by omega, by omega, by rw [HS.out, HG.out]⟩
      case measure => simp [intOf]; omega
    · obtain rfl : y = 0 := by omega
      have HE := Lib.hid (gcd_end x hx)
      go_wp2
      go_ret
      exact ⟨ret_int (by rw [← HG.out, HE.out]), rfl⟩

theorem implGcd (a0 b0 : Int) (w : World) (ha : 0 ≤ a0) (hb : 0 ≤ b0) (ha2 : a0 ≤ 9223372036854775807) (hb2 : b0 ≤ 9223372036854775807) :
    Calls Try.prog 75 #[.int .i64 a0, .int .i64 b0] w fun e w' => e = .returned (.int .i64 (Int.gcd a0 b0)) ∧ ∃ q, w' = w.drewN q := by
  go_enter Try.func75, Try.ntmps75
  go_wp2
  go_loopw [0, 1] (fun a b wr => ∃ x y : Int, a = .int .i64 x ∧ b = .int .i64 y ∧ 0 ≤ x ∧ 0 ≤ y ∧ x ≤ 9223372036854775807 ∧ y ≤ 9223372036854775807 ∧ Int.gcd x y = Int.gcd a0 b0 ∧ ∃ q, wr = w.drewN q) (fun _ b _ => (intOf b).toNat)
  case atStart => exact ⟨a0, b0, rfl, rfl, ha, hb, ha2, hb2, rfl, 0, rfl⟩
  case round =>
    obtain ⟨x, y, rfl, rfl, hx, hy, hx2, hy2, hg, q, rfl⟩ := hrel
    have HG := Lib.hid hg
    clear hg
    by_cases hlt : 0 < y
    · have hm0 : 0 ≤ x % y := Int.emod_nonneg _ (by omega)
      have hm1 : x % y < y := Int.emod_lt_of_pos _ hlt
      have HS := Lib.hid (gcd_step x y hx hlt)
      have hne : (y != 0) = true := by simp; omega
      go_wp2
      go_quiet (fail)
      go_wp2
      go_roundw
      case rel => exact ⟨y, x % y, rfl, rfl, by omega, by omega, by omega, by omega, by rw [HS.out, HG.out], _, World.drewN_drewN _ _ _⟩
      case measure => simp [intOf]; omega
    · obtain rfl : y = 0 := by omega
      have HE := Lib.hid (gcd_end x hx)
      go_wp2
      go_ret
      exact ⟨ret_int (by rw [← HG.out, HE.out]), q, rfl⟩

/-- a number's size -/
theorem sizeOf_any (a : Int) (w : World) (h0 : -9223372036854775807 ≤ a) (h1 : a ≤ 9223372036854775807) :
    Calls Try.prog 76 #[.int .i64 a] w fun e w' => e = .returned (.int .i64 (a.natAbs : Int)) ∧ w = w' := by
  by_cases h : a < 0
  all_goals
    go_enter Try.func76, Try.ntmps76
    go_wp2
    go_ret
    exact ⟨ret_int (by omega), rfl⟩
/-- the greater of a number and its opposite -/
theorem l00Max_size (a b : Int) (w : World) (hab : b = -a) :
    Calls Try.prog 74 #[.int .i64 a, .int .i64 b] w fun e w' => e = .returned (.int .i64 (a.natAbs : Int)) ∧ w = w' := by
  have HH := Lib.hid hab
  by_cases h : a > b
  all_goals
    clear hab
    go_enter Try.func74, Try.ntmps74
    go_wp2
    go_ret
    exact ⟨ret_int (by have := HH.out; omega), rfl⟩
theorem quiet_eq {P : Program} {f : FuncId} {args : Array Value} {w : World} {n : Nat} {v : Value}
    (h : Calls P f args (w.drewN n) fun e w' => e = .returned v ∧ w.drewN n = w') : Calls P f args (w.drewN n) fun e w'' => e = .returned v ∧ ∃ m, w'' = w.drewN m :=
  h.mono fun _ _ ⟨he, hm⟩ => ⟨he, n, hm.symm⟩

theorem below_drewN {B : Nat} {a w : World} (h : Below B a w) (n : Nat) : Below B a (w.drewN n) := ⟨h.os, h.tape, h.output, h.size, h.block⟩

theorem eqFraction_same (n d : Int) (w : World) :
    Calls Try.prog 37 #[.agg #[.int .i64 n, .int .i64 d], .agg #[.int .i64 n, .int .i64 d]] w fun e w' => e = .returned (.bool true) ∧ Below w.heap.size w w' := by
  go_enter Try.func37, Try.ntmps37
  go_wp2
  go_ret
  exact ⟨rfl, ((Below.refl _ _).alloc (Nat.le_refl _) _).alloc (by simp) _⟩

theorem gcd_sz (n d : Int) : Int.gcd (n.natAbs : Int) d = Int.gcd n d := by simp [Int.gcd]
theorem gcd_pos (n d : Int) (h : 0 < d) : (1 : Int) ≤ Int.gcd n d := by
  have h1 : Int.gcd n d ∣ d.natAbs := Nat.gcd_dvd_right _ _
  have h3 : Int.gcd n d ≠ 0 := by
    intro h; rw [h] at h1; have := Nat.eq_zero_of_zero_dvd h1; omega
  omega
theorem gcd_neg (n d : Int) : Int.gcd n (-d) = Int.gcd n d := by simp
/-- n / d in lowest terms -/
def mkN (n d : Int) : Int := (if d < 0 then -n else n).tdiv (Int.gcd n d)
def mkD (n d : Int) : Int := (if d < 0 then -d else d) / (Int.gcd n d)
theorem mk_pos (n d : Int) (h : 0 < d) : mkN n d = n.tdiv (Int.gcd n d) ∧ mkD n d = d / (Int.gcd n d) := by
  unfold mkN mkD; rw [if_neg (by omega), if_neg (by omega)]; exact ⟨rfl, rfl⟩
theorem l01FMake_any (n d : Int) (w : World) (hn1 : -1000000000000000000 ≤ n) (hn2 : n ≤ 1000000000000000000) (hd1 : -1000000000000000000 ≤ d) (hd2 : d ≤ 1000000000000000000) (hd : d ≠ 0) :
    Calls Try.prog 57 #[.int .i64 n, .int .i64 d] w fun e w' => e = .returned (.agg #[.int .i64 (mkN n d), .int .i64 (mkD n d)]) ∧ Below w.heap.size w w' := by
  by_cases hs : 0 < d
  · obtain ⟨G, hG⟩ : ∃ G : Int, ((Int.gcd n d : Nat) : Int) = G := ⟨_, rfl⟩
    have hp := gcd_pos n d hs
    obtain ⟨m1, m2⟩ := mk_pos n d hs
    rw [m1, m2]
    rw [hG] at hp ⊢
    have HG := Lib.hid hG
    clear hG m1 m2
    have hne : (G == 0) = false := by simp; omega
    go_enter Try.func57, Try.ntmps57
    go_wp2_with fail
    refine (l00Max_size _ _ _ (by omega)).mono ?_; rintro e w' ⟨rfl, rfl⟩
    go_wp2_with fail
    refine (specGcd _ _ _ (by omega) (by omega) (by omega) (by omega)).mono ?_; rintro e w' ⟨rfl, rfl⟩
    rw [gcd_sz, HG.out]
    go_wp2_with fail
    go_region
    all_goals
      go_wp2
      refine bodyPost_ret (v := .agg #[.int .i64 (n.tdiv G), .int .i64 (d / G)]) (by simp [results, Try.results57, go_sem]) rfl ⟨rfl, ?_⟩
      exact below_drewN ((Below.refl _ _).alloc (Nat.le_refl _) _) 1
  · obtain ⟨m, rfl⟩ : ∃ m, n = -m := ⟨-n, by omega⟩
    obtain ⟨f, rfl⟩ : ∃ f, d = -f := ⟨-d, by omega⟩
    obtain ⟨G, hG⟩ : ∃ G : Int, ((Int.gcd m f : Nat) : Int) = G := ⟨_, rfl⟩
    have hp := gcd_pos m f (by omega)
    have m1 : mkN (-m) (-f) = m.tdiv (Int.gcd m f) := by unfold mkN; rw [if_pos (by omega)]; simp
    have m2 : mkD (-m) (-f) = f / (Int.gcd m f) := by unfold mkD; rw [if_pos (by omega)]; simp
    rw [m1, m2]
    rw [hG] at hp ⊢
    have HG := Lib.hid hG
    clear hG m1 m2
    have hne : (G == 0) = false := by simp; omega
    have hlt : -f < 0 := by omega
    go_enter Try.func57, Try.ntmps57
    go_wp2_with fail
    refine (l00Max_size m _ _ (by omega)).mono ?_; rintro e w' ⟨rfl, rfl⟩
    go_wp2_with fail
    refine (specGcd _ _ _ (by omega) (by omega) (by omega) (by omega)).mono ?_; rintro e w' ⟨rfl, rfl⟩
    rw [gcd_sz, HG.out]
    go_wp2_with fail
    go_region
    all_goals
      go_wp2
      refine bodyPost_ret (v := .agg #[.int .i64 (m.tdiv G), .int .i64 (f / G)]) (by simp [results, Try.results57, go_sem]) rfl ⟨rfl, ?_⟩
      exact below_drewN ((Below.refl _ _).alloc (Nat.le_refl _) _) 1
theorem implMake_t (n d : Int) (w : World) (hn1 : -1000000000000000000 ≤ n) (hn2 : n ≤ 1000000000000000000) (hd1 : -1000000000000000000 ≤ d) (hd2 : d ≤ 1000000000000000000) (hd : d ≠ 0) :
    Calls Try.prog 59 #[.int .i64 n, .int .i64 d] w fun e w' => e = .returned (.tuple #[.agg #[.int .i64 (mkN n d), .int .i64 (mkD n d)], .bool true]) ∧ Below w.heap.size w w' := by
  have h0 : (d == 0) = false := by simp [hd]
  by_cases hs : 0 < d
  · obtain ⟨G, hG⟩ : ∃ G : Int, ((Int.gcd n d : Nat) : Int) = G := ⟨_, rfl⟩
    have hp := gcd_pos n d hs
    obtain ⟨m1, m2⟩ := mk_pos n d hs
    rw [m1, m2]
    rw [hG] at hp ⊢
    have HG := Lib.hid hG
    clear hG m1 m2
    have hne : (G == 0) = false := by simp; omega
    go_enter Try.func59, Try.ntmps59
    go_wp2_with fail
    refine (within_i64_t _ _ _ _ hn1 hn2).mono ?_; rintro e w' ⟨rfl, rfl⟩
    go_wp2_with fail
    refine (within_i64_t _ _ _ _ hd1 hd2).mono ?_; rintro e w' ⟨rfl, rfl⟩
    go_wp2_with fail
    refine (sizeOf_any _ _ (by omega) (by omega)).mono ?_; rintro e w' ⟨rfl, rfl⟩
    go_wp2_with fail
    refine (implGcd _ _ _ (by omega) (by omega) (by omega) (by omega)).mono ?_; rintro e w' ⟨rfl, q, rfl⟩
    rw [gcd_sz, HG.out]
    go_wp2_with fail
    go_region
    all_goals
      go_wp2
      refine bodyPost_ret (v := .tuple #[.agg #[.int .i64 (n.tdiv G), .int .i64 (d / G)], .bool true]) (by simp [results, Try.results59, go_sem]) rfl ⟨rfl, ?_⟩
      exact ((below_drewN ((Below.refl _ _).alloc (Nat.le_refl _) _) _).setCell (Nat.le_refl _) _).setCell (Nat.le_refl _) _
  · obtain ⟨m, rfl⟩ : ∃ m, n = -m := ⟨-n, by omega⟩
    obtain ⟨f, rfl⟩ : ∃ f, d = -f := ⟨-d, by omega⟩
    obtain ⟨G, hG⟩ : ∃ G : Int, ((Int.gcd m f : Nat) : Int) = G := ⟨_, rfl⟩
    have hp := gcd_pos m f (by omega)
    have m1 : mkN (-m) (-f) = m.tdiv (Int.gcd m f) := by unfold mkN; rw [if_pos (by omega)]; simp
    have m2 : mkD (-m) (-f) = f / (Int.gcd m f) := by unfold mkD; rw [if_pos (by omega)]; simp
    rw [m1, m2]
    rw [hG] at hp ⊢
    have HG := Lib.hid hG
    clear hG m1 m2
    have hne : (G == 0) = false := by simp; omega
    have hlt : -f < 0 := by omega
    go_enter Try.func59, Try.ntmps59
    go_wp2_with fail
    refine (within_i64_t _ _ _ _ hn1 hn2).mono ?_; rintro e w' ⟨rfl, rfl⟩
    go_wp2_with fail
    refine (within_i64_t _ _ _ _ hd1 hd2).mono ?_; rintro e w' ⟨rfl, rfl⟩
    go_wp2_with fail
    refine (sizeOf_any _ _ (by omega) (by omega)).mono ?_; rintro e w' ⟨rfl, rfl⟩
    go_wp2_with fail
    refine (implGcd _ _ _ (by omega) (by omega) (by omega) (by omega)).mono ?_; rintro e w' ⟨rfl, q, rfl⟩
    rw [gcd_sz, HG.out]
    go_wp2_with fail
    go_region
    all_goals
      go_wp2
      refine bodyPost_ret (v := .tuple #[.agg #[.int .i64 (m.tdiv G), .int .i64 (f / G)], .bool true]) (by simp [results, Try.results59, go_sem]) rfl ⟨rfl, ?_⟩
      exact ((below_drewN ((Below.refl _ _).alloc (Nat.le_refl _) _) _).setCell (Nat.le_refl _) _).setCell (Nat.le_refl _) _

end Go.Proofs.Ytlhgpalobdnfoaa
