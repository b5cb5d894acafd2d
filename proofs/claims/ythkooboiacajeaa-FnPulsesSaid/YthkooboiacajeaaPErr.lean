/- The walk of a law: how late a pulse is, the same on both sides. -/
import Derived.Test.YthkooboiacajeaaTick
import Derived.Test.YthkooboiacajeaaMake
namespace Go.Proofs.Ythkooboiacajeaa
open Go.RowKit

/-- how late the pulse k is, times the step -/
def lateQ (s m k : Int) : Int := (tkQ s m 0 k + 1) * s - (k + 1) * m
theorem implErr_t (s m k : Int) (w : World) (hk0 : 0 ≤ k) (hk : k ≤ 100000) (h1 : 1 ≤ m) (h2 : m ≤ 1000) (h3 : 1 ≤ s) (h4 : s ≤ m) :
    Calls Try.prog 14 #[.int .i64 s, .int .i64 m, .int .i64 k] w fun e w' => e = .returned (.tuple #[.agg #[.int .i64 (mkN (lateQ s m k) s), .int .i64 (mkD (lateQ s m k) s)], .bool true]) ∧ Below w.heap.size w w' := by
  have TK := Lib.hid (fun w => implTick_t s m 0 k w hk0 hk h1 h2 h3 h4 (by omega) (by omega))
  obtain ⟨b1, b2, b3, q0, q1, q2, q3⟩ := tk_bd s m 0 k hk0 hk h1 h2 h3 h4 (by omega) (by omega)
  have hl : (tkQ s m 0 k + 1) * s - (k + 1) * m = lateQ s m k := rfl
  have hl0 : 0 ≤ lateQ s m k ∧ lateQ s m k ≤ 1000 := by rw [← hl]; omega
  have HL := Lib.hid hl
  have HL0 := Lib.hid hl0
  clear hl hl0
  generalize lateQ s m k = late at *
  generalize tkQ s m 0 k = t at *
  have w0 : IntKind.i64.wrap (k + 1) = k + 1 := IntWalk.i64_in _ (by omega)
  have w1 : IntKind.i64.wrap ((k + 1) * m) = (k + 1) * m := IntWalk.i64_in _ (by omega)
  have w2 : IntKind.i64.wrap (t + 1) = t + 1 := IntWalk.i64_in _ (by omega)
  have w3 : IntKind.i64.wrap ((t + 1) * s) = (t + 1) * s := IntWalk.i64_in _ (by omega)
  have w4 : IntKind.i64.wrap ((t + 1) * s - (k + 1) * m) = (t + 1) * s - (k + 1) * m := IntWalk.i64_in _ (by omega)
  go_enter Try.func14, Try.ntmps14
  go_wp2_with fail
  refine (TK.out _).mono ?_; rintro e w1 ⟨rfl, hb1⟩
  obtain ⟨hc1, hf1⟩ := bcell hb1
  go_wp2_with fail
  refine (Calls.mono (by rw [HL.out]; exact implMake_t late s _ (by have := HL0.out; omega) (by have := HL0.out; omega) (by omega) (by omega) (by omega)) ?_); rintro e w2 ⟨rfl, hb⟩
  obtain ⟨hc, hf⟩ := bcell hb
  have hz : w.heap.size < w1.heap.size := by have := hb1.size; simp at this; omega
  go_wp2
  refine bodyPost_ret (v := .tuple #[.agg #[.int .i64 (mkN late s), .int .i64 (mkD late s)], .bool true]) (by simp [results, Try.results14, go_sem, hc, hc1, hz]) rfl ⟨rfl, ?_⟩
  exact ((((Below.refl _ _).alloc (Nat.le_refl _) _).trans ((hb1.trans (hb.mono hb1.size)).mono (by simp))).setCell (Nat.le_refl _) _).setCell (Nat.le_refl _) _
theorem implErr_f (s m k : Int) (w : World) (h : m < 1 ∨ 1000 < m ∨ s < 1 ∨ m < s ∨ k < 0 ∨ 100000 < k) :
    Calls Try.prog 14 #[.int .i64 s, .int .i64 m, .int .i64 k] w fun e w' => e = .returned (.tuple #[.agg #[.int .i64 0, .int .i64 0], .bool false]) ∧ Below w.heap.size w w' := by
  go_enter Try.func14, Try.ntmps14
  go_wp2_with fail
  refine (implTick_f _ _ _ _ _ (by omega)).mono ?_; rintro e w1 ⟨rfl, hb1⟩
  obtain ⟨hc1, hf1⟩ := bcell hb1
  go_wp2
  refine bodyPost_ret (v := .tuple #[.agg #[.int .i64 0, .int .i64 0], .bool false]) (by simp [results, Try.results14, go_sem, hc1]) rfl ⟨rfl, ?_⟩
  first
    | exact ((Below.refl _ _).alloc (Nat.le_refl _) _).trans (hb1.mono (by simp))
    | exact ((((Below.refl _ _).alloc (Nat.le_refl _) _).trans (hb1.mono (by simp))).setCell (Nat.le_refl _) _).setCell (Nat.le_refl _) _

end Go.Proofs.Ythkooboiacajeaa
