/- The walks of two laws: a fraction is valid on both sides or on none; numbers make the same fraction on both sides. -/
import Derived.Test.YtlhgpalobdnfoabFrac
namespace Go.Proofs.Ytlhgpalobdnfoab
open Go.RowKit

theorem specValid (n d : Int) (w : World) :
    Calls Try.prog 29 #[.agg #[.int .i64 n, .int .i64 d]] w fun e w' => e = .returned (.bool (fracB n d)) ∧ Below w.heap.size w w' := by
  go_enter Try.func29, Try.ntmps29
  go_wp2_with fail
  refine (l01FIs_any _ _ _).mono ?_; rintro e w' ⟨rfl, hb⟩
  go_wp2
  go_ret
  exact ⟨rfl, ((Below.refl _ _).alloc (Nat.le_refl _) _).trans (hb.mono (by simp))⟩

theorem walk_FnExactValidFraction (n d : Int) (w : World) (_wn : (Lit.int .i64 n).wf = true) (_wd : (Lit.int .i64 d).wf = true) :
    Calls Try.prog 10 #[.agg #[.int .i64 n, .int .i64 d]] w fun e w' => e = .returned (.bool true) ∧ Below w.heap.size w w' := by
  go_enter Try.func10, Try.ntmps10
  go_wp2_with fail
  refine (toFraction_any _ _ _).mono ?_; rintro e w1 ⟨rfl, hb1⟩
  go_wp2_with fail
  refine (specValid _ _ _).mono ?_; rintro e w2 ⟨rfl, hb2⟩
  have hb := hb1.trans (hb2.mono hb1.size)
  obtain ⟨hc, hf⟩ := bcell hb
  go_wp2_with fail
  refine (toFraction_any _ _ _).mono ?_; rintro e w3 ⟨rfl, hb3⟩
  go_wp2_with fail
  refine (implValid _ _ _).mono ?_; rintro e w4 ⟨rfl, hb4⟩
  go_wp2
  go_ret
  exact ⟨rfl, ((Below.refl _ _).alloc (Nat.le_refl _) _).trans (((hb.trans (hb3.mono hb.size)).trans (hb4.mono (Nat.le_trans hb.size hb3.size))).mono (by simp))⟩

theorem specMake_t (n d : Int) (w : World) (hn1 : -1000000000000000000 ≤ n) (hn2 : n ≤ 1000000000000000000) (hd1 : -1000000000000000000 ≤ d) (hd2 : d ≤ 1000000000000000000) (hd : d ≠ 0) :
    Calls Try.prog 32 #[.int .i64 n, .int .i64 d] w fun e w' => e = .returned (.tuple #[.agg #[.int .i64 (mkN n d), .int .i64 (mkD n d)], .bool true]) ∧ Below w.heap.size w w' := by
  have h0 : (d == 0) = false := by simp [hd]
  go_enter Try.func32, Try.ntmps32
  go_wp2_with fail
  refine (l00In_t _ _ _ _ hn1 hn2).mono ?_; rintro e w' ⟨rfl, rfl⟩
  go_wp2_with fail
  refine (l00In_t _ _ _ _ hd1 hd2).mono ?_; rintro e w' ⟨rfl, rfl⟩
  go_wp2_with fail
  refine (l01FMake_any _ _ _ hn1 hn2 hd1 hd2 hd).mono ?_; rintro e w1 ⟨rfl, hb⟩
  obtain ⟨hc, hf⟩ := bcell hb
  go_wp2
  refine bodyPost_ret (v := .tuple #[.agg #[.int .i64 (mkN n d), .int .i64 (mkD n d)], .bool true]) (by simp [results, Try.results32, go_sem, hc]) rfl ⟨rfl, ?_⟩
  exact ((((Below.refl _ _).alloc (Nat.le_refl _) _).trans (hb.mono (by simp))).setCell (Nat.le_refl _) _).setCell (Nat.le_refl _) _
theorem specMake_f (n d : Int) (w : World) (h : n < -1000000000000000000 ∨ 1000000000000000000 < n ∨ d < -1000000000000000000 ∨ 1000000000000000000 < d ∨ d = 0) :
    Calls Try.prog 32 #[.int .i64 n, .int .i64 d] w fun e w' => e = .returned (.tuple #[.agg #[.int .i64 0, .int .i64 0], .bool false]) ∧ Below w.heap.size w w' := by
  by_cases hd : d = 0
  · subst hd
    go_enter Try.func32, Try.ntmps32
    go_wp2
    exact bodyPost_ret (v := .tuple #[.agg #[.int .i64 0, .int .i64 0], .bool false]) (by simp [results, Try.results32, go_sem]) rfl ⟨rfl, (Below.refl _ _).alloc (Nat.le_refl _) _⟩
  · have h0 : (d == 0) = false := by simp [hd]
    by_cases hn : n < -1000000000000000000 ∨ 1000000000000000000 < n
    · go_enter Try.func32, Try.ntmps32
      go_wp2_with fail
      refine (l00In_f _ _ _ _ hn).mono ?_; rintro e w' ⟨rfl, rfl⟩
      go_wp2
      exact bodyPost_ret (v := .tuple #[.agg #[.int .i64 0, .int .i64 0], .bool false]) (by simp [results, Try.results32, go_sem]) rfl ⟨rfl, (Below.refl _ _).alloc (Nat.le_refl _) _⟩
    · go_enter Try.func32, Try.ntmps32
      go_wp2_with fail
      refine (l00In_t _ _ _ _ (by omega) (by omega)).mono ?_; rintro e w' ⟨rfl, rfl⟩
      go_wp2_with fail
      refine (l00In_f _ _ _ _ (by omega)).mono ?_; rintro e w' ⟨rfl, rfl⟩
      go_wp2
      exact bodyPost_ret (v := .tuple #[.agg #[.int .i64 0, .int .i64 0], .bool false]) (by simp [results, Try.results32, go_sem]) rfl ⟨rfl, (Below.refl _ _).alloc (Nat.le_refl _) _⟩

theorem implMake_f (n d : Int) (w : World) (h : n < -1000000000000000000 ∨ 1000000000000000000 < n ∨ d < -1000000000000000000 ∨ 1000000000000000000 < d ∨ d = 0) :
    Calls Try.prog 33 #[.int .i64 n, .int .i64 d] w fun e w' => e = .returned (.tuple #[.agg #[.int .i64 0, .int .i64 0], .bool false]) ∧ Below w.heap.size w w' := by
  by_cases hd : d = 0
  · subst hd
    go_enter Try.func33, Try.ntmps33
    go_wp2
    exact bodyPost_ret (v := .tuple #[.agg #[.int .i64 0, .int .i64 0], .bool false]) (by simp [results, Try.results33, go_sem]) rfl ⟨rfl, (Below.refl _ _).alloc (Nat.le_refl _) _⟩
  · have h0 : (d == 0) = false := by simp [hd]
    by_cases hn : n < -1000000000000000000 ∨ 1000000000000000000 < n
    · go_enter Try.func33, Try.ntmps33
      go_wp2_with fail
      refine (within_i64_f _ _ _ _ hn).mono ?_; rintro e w' ⟨rfl, rfl⟩
      go_wp2
      exact bodyPost_ret (v := .tuple #[.agg #[.int .i64 0, .int .i64 0], .bool false]) (by simp [results, Try.results33, go_sem]) rfl ⟨rfl, (Below.refl _ _).alloc (Nat.le_refl _) _⟩
    · go_enter Try.func33, Try.ntmps33
      go_wp2_with fail
      refine (within_i64_t _ _ _ _ (by omega) (by omega)).mono ?_; rintro e w' ⟨rfl, rfl⟩
      go_wp2_with fail
      refine (within_i64_f _ _ _ _ (by omega)).mono ?_; rintro e w' ⟨rfl, rfl⟩
      go_wp2
      exact bodyPost_ret (v := .tuple #[.agg #[.int .i64 0, .int .i64 0], .bool false]) (by simp [results, Try.results33, go_sem]) rfl ⟨rfl, (Below.refl _ _).alloc (Nat.le_refl _) _⟩

theorem implMake_t (n d : Int) (w : World) (hn1 : -1000000000000000000 ≤ n) (hn2 : n ≤ 1000000000000000000) (hd1 : -1000000000000000000 ≤ d) (hd2 : d ≤ 1000000000000000000) (hd : d ≠ 0) :
    Calls Try.prog 33 #[.int .i64 n, .int .i64 d] w fun e w' => e = .returned (.tuple #[.agg #[.int .i64 (mkN n d), .int .i64 (mkD n d)], .bool true]) ∧ Below w.heap.size w w' := by
  have h0 : (d == 0) = false := by simp [hd]
  by_cases hs : 0 < d
  · obtain ⟨G, hG⟩ : ∃ G : Int, ((Int.gcd n d : Nat) : Int) = G := ⟨_, rfl⟩
    have hp := gcd_pos n d hs
    obtain ⟨m1, m2⟩ := mk_pos n d hs
    rw [m1, m2]
    rw [hG] at hp ⊢
    have HG := Lib.hid hG
    clear hG m1 m2
    have hne : (G == 0) = false := by simp; omega
    go_enter Try.func33, Try.ntmps33
    go_wp2_with fail
    refine (within_i64_t _ _ _ _ hn1 hn2).mono ?_; rintro e w' ⟨rfl, rfl⟩
    go_wp2_with fail
    refine (within_i64_t _ _ _ _ hd1 hd2).mono ?_; rintro e w' ⟨rfl, rfl⟩
    go_wp2_with fail
    refine (sizeOf_any _ _ (by omega) (by omega)).mono ?_; rintro e w' ⟨rfl, rfl⟩
    go_wp2_with fail
    refine (implGcd _ _ _ (by omega) (by omega) (by omega) (by omega)).mono ?_; rintro e w' ⟨rfl, q, rfl⟩
    rw [gcd_sz, HG.out]
    go_wp2_with fail
    go_region
    all_goals
      go_wp2
      refine bodyPost_ret (v := .tuple #[.agg #[.int .i64 (n.tdiv G), .int .i64 (d / G)], .bool true]) (by simp [results, Try.results33, go_sem]) rfl ⟨rfl, ?_⟩
      exact ((below_drewN ((Below.refl _ _).alloc (Nat.le_refl _) _) _).setCell (Nat.le_refl _) _).setCell (Nat.le_refl _) _
  · obtain ⟨m, rfl⟩ : ∃ m, n = -m := ⟨-n, by omega⟩
    obtain ⟨f, rfl⟩ : ∃ f, d = -f := ⟨-d, by omega⟩
    obtain ⟨G, hG⟩ : ∃ G : Int, ((Int.gcd m f : Nat) : Int) = G := ⟨_, rfl⟩
    have hp := gcd_pos m f (by omega)
    have m1 : mkN (-m) (-f) = m.tdiv (Int.gcd m f) := by unfold mkN; rw [if_pos (by omega)]; simp
    have m2 : mkD (-m) (-f) = f / (Int.gcd m f) := by unfold mkD; rw [if_pos (by omega)]; simp
    rw [m1, m2]
    rw [hG] at hp ⊢
    have HG := Lib.hid hG
    clear hG m1 m2
    have hne : (G == 0) = false := by simp; omega
    have hlt : -f < 0 := by omega
    go_enter Try.func33, Try.ntmps33
    go_wp2_with fail
    refine (within_i64_t _ _ _ _ hn1 hn2).mono ?_; rintro e w' ⟨rfl, rfl⟩
    go_wp2_with fail
    refine (within_i64_t _ _ _ _ hd1 hd2).mono ?_; rintro e w' ⟨rfl, rfl⟩
    go_wp2_with fail
    refine (sizeOf_any _ _ (by omega) (by omega)).mono ?_; rintro e w' ⟨rfl, rfl⟩
    go_wp2_with fail
    refine (implGcd _ _ _ (by omega) (by omega) (by omega) (by omega)).mono ?_; rintro e w' ⟨rfl, q, rfl⟩
    rw [gcd_sz, HG.out]
    go_wp2_with fail
    go_region
    all_goals
      go_wp2
      refine bodyPost_ret (v := .tuple #[.agg #[.int .i64 (m.tdiv G), .int .i64 (f / G)], .bool true]) (by simp [results, Try.results33, go_sem]) rfl ⟨rfl, ?_⟩
      exact ((below_drewN ((Below.refl _ _).alloc (Nat.le_refl _) _) _).setCell (Nat.le_refl _) _).setCell (Nat.le_refl _) _

theorem walk_FnExactMakeFraction (n d : Int) (w : World) (_wn : (Lit.int .i64 n).wf = true) (_wd : (Lit.int .i64 d).wf = true) :
    Calls Try.prog 11 #[.int .i64 n, .int .i64 d] w fun e w' => e = .returned (.bool true) ∧ Below w.heap.size w w' := by
  obtain ⟨N, D, B, hS, hI⟩ : ∃ (N D : Int) (B : Bool), (∀ w, Calls Try.prog 32 #[.int .i64 n, .int .i64 d] w fun e w' => e = .returned (.tuple #[.agg #[.int .i64 N, .int .i64 D], .bool B]) ∧ Below w.heap.size w w') ∧ (∀ w, Calls Try.prog 33 #[.int .i64 n, .int .i64 d] w fun e w' => e = .returned (.tuple #[.agg #[.int .i64 N, .int .i64 D], .bool B]) ∧ Below w.heap.size w w') := by
    by_cases h : -1000000000000000000 ≤ n ∧ n ≤ 1000000000000000000 ∧ -1000000000000000000 ≤ d ∧ d ≤ 1000000000000000000 ∧ d ≠ 0
    · exact ⟨_, _, _, fun w => specMake_t n d w h.1 h.2.1 h.2.2.1 h.2.2.2.1 h.2.2.2.2, fun w => implMake_t n d w h.1 h.2.1 h.2.2.1 h.2.2.2.1 h.2.2.2.2⟩
    · exact ⟨_, _, _, fun w => specMake_f n d w (by omega), fun w => implMake_f n d w (by omega)⟩
  have HS := Lib.hid hS
  have HI := Lib.hid hI
  clear hS hI
  go_enter Try.func11, Try.ntmps11
  go_wp2_with fail
  refine (HS.out _).mono ?_; rintro e w1 ⟨rfl, hb1⟩
  go_wp2_with fail
  refine (HI.out _).mono ?_; rintro e w2 ⟨rfl, hb2⟩
  have HB := Lib.hid (((hb1.alloc hb1.size _).trans (hb2.mono (by have := hb1.size; simp; omega))))
  obtain ⟨hc, hf⟩ := bcell hb2
  have hz1 := hb1.size
  have hz2 := hb2.size
  simp at hz2
  have hz3 : w1.heap.size < w2.heap.size := by omega
  go_wp2_with fail
  refine (eqFraction_same _ _ _).mono ?_; rintro e w3 ⟨rfl, hb3⟩
  go_wp2
  go_ret
  exact ⟨rfl, (HB.out.alloc (by omega) _).trans (hb3.mono (by simp; omega))⟩
end Go.Proofs.Ytlhgpalobdnfoab
