/- A drawn clock. -/
import Derived.Test.YtkfakoodejpjmaaSrc
import Derived.Test.YtkfakoodejpjmaaPair
import Derived.Test.YtkfakoodejpjmaaCkLaw
namespace Go.Proofs.Ytkfakoodejpjmaa
open Go.RowKit
set_option linter.unusedVariables false
theorem bel_grownS {w W W' : World} {b : Nat} (h : Below w.heap.size w W) (hg : W.grownBy W' (some b)) (hb : w.heap.size ≤ b) (hlt : b < W.heap.size) : Below w.heap.size w W' :=
  h.trans ((grown_belowS hg hlt).mono hb)
set_option maxHeartbeats 2000000 in
set_option maxRecDepth 100000 in
theorem r8Clock_any (a : Option Addr) (n cap : Nat) (l : List Int) (w : World) (hn : n = l.length) (hn2 : n ≤ 1048576) (hr : ByteRow w a l) :
    Calls Try.prog 12 #[.slice a n cap] w fun e w' => ∃ p o : Int, e = .returned (.agg #[.int .i64 p, .int .i64 o]) ∧ (1 ≤ p ∧ p ≤ 20) ∧ (0 ≤ o ∧ o ≤ 29) ∧ Below w.heap.size w w' := by
  have HRW := Lib.hid hr
  have R0 := Lib.hid (At2.new w (.int .i64 0) (.int .i64 0) 26)
  have B0 := Lib.hid (bel_alloc w (.cells #[.int .i64 0, .int .i64 0] 26))
  have hs0 : (w.alloc (.cells #[.int .i64 0, .int .i64 0] 26)).heap.size = w.heap.size + 1 := by simp
  have HS0 := Lib.hid hs0
  have HN := Lib.hid hn
  have HF := Lib.hid (fun w => l00From_any a n cap w)
  clear hr hs0 hn
  go_enter Try.func12, Try.ntmps12
  go_wp2_with fail
  refine (HF.out _).mono ?_; rintro e w1 ⟨rfl, hs1, hb1, hz1⟩
  have B1 := Lib.hid (bel_call B0.out hb1)
  have R1 := Lib.hid (R0.out.below hb1 R0.out.lt)
  rw [HS0.out] at hs1 hz1 ⊢
  have HR1 := Lib.hid (HRW.out.keep B1.out (Nat.le_refl _))
  have HP1 := Lib.hid (pick_any (w.heap.size + 1) 0 20 a n cap l w1 HN.out hn2 (by omega) hs1 HR1.out (by omega) (by omega))
  have HZ1 := Lib.hid hz1
  clear hb1 hs1 hz1
  go_wp2_with fail
  refine HP1.out.mono ?_; rintro e w2 ⟨z, rfl, hz, hs2, hg2, hz2⟩
  have B2 := Lib.hid (bel_grownS B1.out hg2 (by omega) HZ1.out)
  have R2 := Lib.hid (R1.out.grown hg2 (by simp))
  have HS2 := Lib.hid hs2
  have HZ2 : Hid (w.heap.size + 1 < w2.heap.size) := by have := HZ1.out; show _ < _; omega
  have v1 : IntKind.i64.wrap (1 + z) = 1 + z := IntWalk.i64_in _ (by omega)
  have B3 := Lib.hid (B2.out.alloc (B2.out.size) (.cells #[.int .i64 (1 + z), .int .i64 0] 26))
  have R3 := Lib.hid (R2.out.alloc (.cells #[.int .i64 (1 + z), .int .i64 0] 26))
  have C3 := Lib.hid (At2.new w2 (.int .i64 (1 + z)) (.int .i64 0) 26)
  have hs3 : Src (w2.alloc (.cells #[.int .i64 (1 + z), .int .i64 0] 26)) (w.heap.size + 1) (.slice a n cap) 1 := by
    obtain ⟨pp, sd, h1, h2⟩ := HS2.out
    exact ⟨pp, sd, h1, by rw [← h2]; exact ((Below.refl w2.heap.size w2).alloc (Nat.le_refl _) _).block _ HZ2.out⟩
  have HR3 := Lib.hid (HRW.out.keep B3.out (Nat.le_refl _))
  have HP3 := Lib.hid (pick_any (w.heap.size + 1) 1 30 a n cap l _ HN.out hn2 (by omega) hs3 HR3.out (by omega) (by omega))
  have HZ3 : Hid (w.heap.size + 1 < (w2.alloc (.cells #[.int .i64 (1 + z), .int .i64 0] 26)).heap.size) := by have := HZ2.out; show _ < _; simp; omega
  clear hs2 hg2 hz2 hs3
  go_wp2_with fail
  refine HP3.out.mono ?_; rintro e w4 ⟨y, rfl, hy, hs4, hg4, hz4⟩
  have B4 := Lib.hid (bel_grownS B3.out hg4 (by omega) HZ3.out)
  have R4 := Lib.hid (R3.out.grown hg4 (by simp))
  have C4 := Lib.hid (C3.out.grown hg4 (by have := HZ2.out; simp; omega))
  have C5 := Lib.hid (C4.out.set1 (Value.int .i64 y))
  have hne : w2.heap.size ≠ w.heap.size := by have := HZ2.out; omega
  have R5 := Lib.hid (R4.out.set_ne hne 1 (Value.int .i64 y))
  have R6 := Lib.hid (R5.out.set0 (Value.int .i64 (1 + z)))
  have R7 := Lib.hid (R6.out.set1 (Value.int .i64 y))
  have hle2 : w.heap.size ≤ w2.heap.size := by have := HZ2.out; omega
  obtain ⟨c0, c1, c2, c3⟩ := C4.out
  obtain ⟨d0, d1, d2, d3⟩ := C5.out
  obtain ⟨e0, e1, e2, e3⟩ := R5.out
  obtain ⟨f0, f1, f2, f3⟩ := R6.out
  obtain ⟨g0, g1, g2, g3⟩ := R7.out
  clear hs4 hg4 hz4
  go_wp2
  refine bodyPost_ret (v := .agg #[.int .i64 (1 + z), .int .i64 y]) (by simp [results, Try.results12, go_sem, f0, f1, g0, g1]) rfl ⟨1 + z, y, rfl, ⟨by omega, by omega⟩, ⟨by omega, by omega⟩, ?_⟩
  exact ((B4.out.setCell (by exact hle2) _).setCell (by simp) _).setCell (by simp) _
end Go.Proofs.Ytkfakoodejpjmaa
