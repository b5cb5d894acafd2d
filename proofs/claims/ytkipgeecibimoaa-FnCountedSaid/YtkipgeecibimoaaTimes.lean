/- The product of two numbers in two words, on the side of the model. -/
import Derived.Test.YtkipgeecibimoaaWide
import Derived.Test.YtkipgeecibimoaaRows
import Derived.BigQuiet
import Derived.Deep.QuietTactic
import Derived.IntWalk
namespace Go.Proofs.Ytkipgeecibimoaa
open Go.RowKit

theorem bdw {B : Nat} {a w : World} (h : Below B a w) (n : Nat) : Below B a (w.drewN n) := ⟨h.os, h.tape, h.output, h.size, h.block⟩

set_option maxHeartbeats 1000000 in
set_option maxRecDepth 100000 in
theorem specTimes_raw (x y xl xh yl yh lo on tw lq oq tq s1 mi h0 h1 h2 mq hi : Nat) (w : World)
    (a1 : (x : Int) % 4294967296 = xl) (a2 : (x : Int) / 4294967296 = xh) (a3 : (y : Int) % 4294967296 = yl) (a4 : (y : Int) / 4294967296 = yh)
    (m1 : IntKind.u64.wrap ((xl : Int) * yl) = lo) (m2 : IntKind.u64.wrap ((xh : Int) * yl) = on) (m3 : IntKind.u64.wrap ((xl : Int) * yh) = tw)
    (d1 : IntKind.u64.wrap ((lo : Int) / 4294967296) = lq) (d2 : IntKind.u64.wrap ((lq : Int) + (on : Int) % 4294967296) = s1) (d3 : IntKind.u64.wrap ((s1 : Int) + (tw : Int) % 4294967296) = mi)
    (e0 : IntKind.u64.wrap ((xh : Int) * yh) = h0) (e1 : IntKind.u64.wrap ((on : Int) / 4294967296) = oq) (e2 : IntKind.u64.wrap ((h0 : Int) + oq) = h1) (e3 : IntKind.u64.wrap ((tw : Int) / 4294967296) = tq) (e4 : IntKind.u64.wrap ((h1 : Int) + tq) = h2) (e5 : IntKind.u64.wrap ((mi : Int) / 4294967296) = mq) (e6 : IntKind.u64.wrap ((h2 : Int) + mq) = hi)
    (x0 : (x : Int) ≤ 9223372036854775807) (y0 : (y : Int) ≤ 9223372036854775807) :
    Calls Try.prog 180 #[.int .i64 x, .int .i64 y] w fun e w' => e = .returned (.agg #[.int .u64 hi, .int .u64 (bits .or .u64 (IntKind.u64.wrap ((mi : Int) * 4294967296)) ((lo : Int) % 4294967296))]) ∧ Below w.heap.size w w' := by
  go_enter Try.func180, Try.ntmps180
  go_wp2
  go_quiet (fail)
  go_wp2
  go_quiet (fail)
  go_wp2
  go_quiet (fail)
  go_wp2
  go_quiet (fail)
  go_wp2
  go_region
  all_goals
    go_wp2
    refine bodyPost_ret (v := .agg #[.int .u64 hi, .int .u64 (bits .or .u64 (IntKind.u64.wrap ((mi : Int) * 4294967296)) ((lo : Int) % 4294967296))]) (by simp [results, Try.results180, go_sem]) rfl ⟨rfl, ?_⟩
    exact ((bdw ((Below.refl _ _).alloc (Nat.le_refl _) _) _).setCell (Nat.le_refl _) _).setCell (Nat.le_refl _) _

/-- the product in two words -/
theorem specTimes (x y : Nat) (w : World) (hx : x ≤ 9223372036854775807) (hy : y ≤ 9223372036854775807) :
    Calls Try.prog 180 #[.int .i64 x, .int .i64 y] w fun e w' => e = .returned (.agg #[.int .u64 (hiW (x * y)), .int .u64 (loW (x * y))]) ∧ Below w.heap.size w w' := by
  have xl1 : x % 4294967296 ≤ 4294967295 := by omega
  have yl1 : y % 4294967296 ≤ 4294967295 := by omega
  have xh1 : x / 4294967296 ≤ 2147483647 := by omega
  have yh1 : y / 4294967296 ≤ 2147483647 := by omega
  have L1 := mul_lt _ _ _ _ xl1 yl1
  have L2 := mul_lt _ _ _ _ xh1 yl1
  have L3 := mul_lt _ _ _ _ xl1 yh1
  have L4 := mul_lt _ _ _ _ xh1 yh1
  have hp := mul_parts (x / 4294967296) (x % 4294967296) (y / 4294967296) (y % 4294967296) 4294967296
  rw [Nat.div_add_mod' x 4294967296, Nat.div_add_mod' y 4294967296] at hp
  refine (specTimes_raw x y (x % 4294967296) (x / 4294967296) (y % 4294967296) (y / 4294967296) _ _ _ _ _ _ _ _ _ _ _ _ _ w (by omega) (by omega) (by omega) (by omega) (wm _ _ (by omega)) (wm _ _ (by omega)) (wm _ _ (by omega)) (wd _ (by omega)) (wam _ _ (by omega)) (wam _ _ (by omega)) (wm _ _ (by omega)) (wd _ (by omega)) (wa _ _ (by omega)) (wd _ (by omega)) (wa _ _ (by omega)) (wd _ (by omega)) (wa _ _ (by omega)) (by omega) (by omega)).mono ?_
  rintro e w' ⟨rfl, hb⟩
  refine ⟨?_, hb⟩
  have hhi := times_hi (x / 4294967296 * (y / 4294967296)) (x / 4294967296 * (y % 4294967296)) (x % 4294967296 * (y / 4294967296)) (x % 4294967296 * (y % 4294967296))
  have hlo := times_lo (x / 4294967296 * (y / 4294967296)) (x / 4294967296 * (y % 4294967296)) (x % 4294967296 * (y / 4294967296)) (x % 4294967296 * (y % 4294967296))
  rw [← hp] at hhi hlo
  unfold hiW loW
  rw [hhi, hlo]
  generalize x % 4294967296 * (y % 4294967296) = lo at *
  generalize x / 4294967296 * (y % 4294967296) = on at *
  generalize x % 4294967296 * (y / 4294967296) = tw at *
  generalize x / 4294967296 * (y / 4294967296) = A at *
  have hor := or_low ((lo / 4294967296 + on % 4294967296 + tw % 4294967296) % 4294967296) (lo % 4294967296) (by omega) (by omega)
  have hw : IntKind.u64.wrap (((lo / 4294967296 + on % 4294967296 + tw % 4294967296 : Nat) : Int) * 4294967296) = (((lo / 4294967296 + on % 4294967296 + tw % 4294967296) % 4294967296 * 4294967296 : Nat) : Int) := by
    rw [IntKind.wrap_u64]; omega
  rw [hw, show ((lo : Int) % 4294967296) = ((lo % 4294967296 : Nat) : Int) from by omega, hor]
end Go.Proofs.Ytkipgeecibimoaa
