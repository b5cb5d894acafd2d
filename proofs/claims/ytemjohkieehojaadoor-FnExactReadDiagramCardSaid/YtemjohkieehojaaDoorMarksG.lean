/- Bounds of a call's own, marked: no other block is touched. And a marked diagram. -/
import Derived.Test.YtemjohkieehojaaDoorDia
namespace Go.Proofs.YtemjohkieehojaaDoor
open Go.RowKit
set_option linter.unusedVariables false
theorem grown_setG {w W : World} {p : Nat} (h : w.grownBy W (some p)) (i : Nat) (v : Value) : w.grownBy (W.setCell ⟨p, i, none⟩ v) (some p) :=
  ⟨h.os, h.tape, h.output, by simpa using h.size, fun k hk hne => (Below.heap_setCell _ _ _ _ (by show k ≠ p; intro e; exact hne (by rw [e]))).trans (h.block k hk hne)⟩

set_option maxHeartbeats 2000000 in
theorem markBoundG_any (B n : Nat) (v : Value) (F : List Int) (c : Int) (w : World) (h : Recs w B v n F) (hc0 : 0 ≤ c) (hc1 : c + n * 3 ≤ 9223372036854775807) :
    Calls Tryd.prog 37 #[v, .int .i64 c] w fun e w' => e = .returned (.int .i64 (c + ((n * 3 : Nat) : Int))) ∧ Recs w' B v n (seqL c (n * 3)) ∧ Below B w w' ∧ w'.heap.size = w.heap.size ∧ w.grownBy w' v.ownBlock := by
  obtain ⟨a, cap, rfl, hl, _⟩ := h.form
  unfold maxLen at hl
  have HF := Lib.hid h.1
  have H := Lib.hid h
  clear h
  go_enter Tryd.func37, Tryd.ntmps37
  go_wp2
  go_loopw [1, 5] (fun m i wr => ∃ k : Nat, k ≤ n ∧ i = .int .i64 k ∧ m = .int .i64 (c + ((k * 3 : Nat) : Int)) ∧ Recs wr B (.slice a n cap) n (markL c F (k * 3)) ∧ Below B w wr ∧ wr.heap.size = w.heap.size ∧ Hid (w.grownBy wr (Value.slice a n cap).ownBlock)) (fun _ i _ => n - (intOf i).toNat)
  case atStart => exact ⟨0, Nat.zero_le _, rfl, by simp, by simpa [markL, seqL] using H.out, Below.refl _ _, rfl, Lib.hid ⟨rfl, rfl, rfl, Nat.le_refl _, fun _ _ _ => rfl⟩⟩
  case round =>
    obtain ⟨k, hk, rfl, rfl, hi, hb, hsz, HGR⟩ := hrel
    have HS := Lib.hid hsz
    have hFl := HF.out
    clear hsz
    by_cases hlt : k < n
    · have hlen := markL_len c F (k * 3) (by omega)
      obtain ⟨a', cap', hv, _, kk⟩ := hi.form
      simp only [Value.slice.injEq] at hv
      obtain ⟨rfl, -, rfl⟩ := hv
      obtain ⟨g0, hg0, hB0, hgs0, hcell0, hfr0⟩ := kk (k * 3) (by rw [hlen]; omega)
      obtain ⟨x0, hcx0⟩ : ∃ x, wr.cell? ⟨g0, k * 3, none⟩ = some x := ⟨_, hcell0⟩
      obtain ⟨g1, hg1, hB1, hgs1, hcell1, hfr1⟩ := kk (k * 3 + 1) (by rw [hlen]; omega)
      obtain ⟨x1, hcx1⟩ : ∃ x, wr.cell? ⟨g1, k * 3 + 1, none⟩ = some x := ⟨_, hcell1⟩
      obtain ⟨g2, hg2, hB2, hgs2, hcell2, hfr2⟩ := kk (k * 3 + 2) (by rw [hlen]; omega)
      obtain ⟨x2, hcx2⟩ : ∃ x, wr.cell? ⟨g2, k * 3 + 2, none⟩ = some x := ⟨_, hcell2⟩
      subst hg0
      simp only [Option.some.injEq, Addr.mk.injEq, and_true] at hg1
      subst hg1
      simp only [Option.some.injEq, Addr.mk.injEq, and_true] at hg2
      subst hg2
      have hp0 := Recs.put hi (k * 3) (c + ((k * 3 : Nat) : Int))
      rw [markL_step c F (k * 3) (by omega)] at hp0
      have hp1 := Recs.put hp0 (k * 3 + 1) (c + ((k * 3 + 1 : Nat) : Int))
      rw [markL_step c F (k * 3 + 1) (by omega)] at hp1
      have hp2 := Recs.put hp1 (k * 3 + 2) (c + ((k * 3 + 2 : Nat) : Int))
      rw [markL_step c F (k * 3 + 2) (by omega)] at hp2
      have HI := Lib.hid (show Recs _ _ _ _ (markL c F ((k + 1) * 3)) from (show (k + 1) * 3 = k * 3 + 2 + 1 by omega) ▸ hp2)
      have ee0 : ((k * 3 : Nat) : Int) = (k : Int) * 3 := by simp
      clear hi kk hcell0 hp0 hcell1 hp1 hcell2 hp2 hlen hFl
      go_wp2
      go_roundw
      case rel => exact ⟨k + 1, by omega, by go_num, by first | go_num | (congr 1; omega), by simpa [Int.add_assoc] using HI.out, (((hb.setCell hB0 _).setCell hB0 _).setCell hB0 _), by simp; exact HS.out, Lib.hid (grown_setG (grown_setG (grown_setG HGR.out _ _) _ _) _ _)⟩
      case measure => simp [intOf]; omega
    · obtain rfl : k = n := by omega
      rw [← hFl, markL_end, hFl] at hi
      clear hFl
      go_wp2
      go_ret
      exact ⟨rfl, hi, hb, HS.out, HGR.out⟩

theorem markDiagram_any (B : Nat) (e : Int) (a : Option Addr) (n cap : Nat) (F : List Int) (w : World) (h : Recs w B (.slice a n cap) n F) (hn : n ≤ 1048576) :
    Calls Tryd.prog 16 #[.agg #[.int .i64 e, .slice a n cap], .int .i64 1] w fun r w' => ∃ k : Int, r = .returned (.int .i64 k) ∧ 1 ≤ k ∧ (∀ o, (w.alloc o).grownBy w' (Value.slice a n cap).ownBlock → True) ∧ (∃ o, (w.alloc o).grownBy w' (Value.slice a n cap).ownBlock) := by
  obtain ⟨w0, hw0⟩ : ∃ w0, w.alloc (.cells #[.int .i64 e, .slice a n cap] 32) = w0 := ⟨_, rfl⟩
  have h0 : Recs w0 B (.slice a n cap) n F := by rw [← hw0]; exact h.keep ((Below.refl w.heap.size w).alloc (Nat.le_refl _) _) (Nat.le_refl _)
  have HM := Lib.hid (markBoundG_any B n _ F 1 w0 h0 (by omega) (by omega))
  have c1 : w0.cell? ⟨w.heap.size, 1, none⟩ = some (.slice a n cap) := by rw [← hw0]; simp [go_sem]
  have c0 : w0.cell? ⟨w.heap.size, 0, none⟩ = some (.int .i64 e) := by rw [← hw0]; simp [go_sem]
  have HW := Lib.hid hw0
  clear h h0
  go_enter Tryd.func16, Tryd.ntmps16
  go_wp2_with fail
  refine HM.out.mono ?_; rintro r w1 ⟨rfl, -, -, -, hg⟩
  have HG := Lib.hid hg
  clear hg hw0
  go_wp2
  go_ret
  exact ⟨_, rfl, by omega, fun _ _ => trivial, _, by rw [HW.out]; exact HG.out⟩
end Go.Proofs.YtemjohkieehojaaDoor
