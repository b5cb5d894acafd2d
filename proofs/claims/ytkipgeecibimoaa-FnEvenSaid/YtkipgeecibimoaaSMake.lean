/- Numbers make a fraction, on the side of the model. -/
import Derived.Test.YtkipgeecibimoaaFrac
namespace Go.Proofs.Ytkipgeecibimoaa
open Go.RowKit

theorem specMake_t (n d : Int) (w : World) (hn1 : -1000000000000000000 ≤ n) (hn2 : n ≤ 1000000000000000000) (hd1 : -1000000000000000000 ≤ d) (hd2 : d ≤ 1000000000000000000) (hd : d ≠ 0) :
    Calls Try.prog 30 #[.int .i64 n, .int .i64 d] w fun e w' => e = .returned (.tuple #[.agg #[.int .i64 (mkN n d), .int .i64 (mkD n d)], .bool true]) ∧ Below w.heap.size w w' := by
  have h0 : (d == 0) = false := by simp [hd]
  go_enter Try.func30, Try.ntmps30
  go_wp2_with fail
  refine (l00In_t _ _ _ _ hn1 hn2).mono ?_; rintro e w' ⟨rfl, rfl⟩
  go_wp2_with fail
  refine (l00In_t _ _ _ _ hd1 hd2).mono ?_; rintro e w' ⟨rfl, rfl⟩
  go_wp2_with fail
  refine (l01FMake_any _ _ _ hn1 hn2 hd1 hd2 hd).mono ?_; rintro e w1 ⟨rfl, hb⟩
  obtain ⟨hc, hf⟩ := bcell hb
  go_wp2
  refine bodyPost_ret (v := .tuple #[.agg #[.int .i64 (mkN n d), .int .i64 (mkD n d)], .bool true]) (by simp [results, Try.results30, go_sem, hc]) rfl ⟨rfl, ?_⟩
  exact ((((Below.refl _ _).alloc (Nat.le_refl _) _).trans (hb.mono (by simp))).setCell (Nat.le_refl _) _).setCell (Nat.le_refl _) _
end Go.Proofs.Ytkipgeecibimoaa
