/- A slice of structs of numbers of a call's own: marked, and read again. -/
import Derived.Test.YtemjohkieehojaaDoorRecsB
namespace Go.Proofs.YtemjohkieehojaaDoor
open Go.RowKit
set_option linter.unusedVariables false

set_option maxHeartbeats 2000000 in
theorem markBoundS_any (B n : Nat) (v : Value) (F : List Int) (c : Int) (w : World) (h : Recs w B v n F) (hc0 : 0 ≤ c) (hc1 : c + n * 3 ≤ 9223372036854775807) :
    Calls Tryd.prog 37 #[v, .int .i64 c] w fun e w' => e = .returned (.int .i64 (c + ((n * 3 : Nat) : Int))) ∧ Recs w' B v n (seqL c (n * 3)) ∧ Below B w w' ∧ w'.heap.size = w.heap.size := by
  obtain ⟨a, cap, rfl, hl, _⟩ := h.form
  unfold maxLen at hl
  have HF := Lib.hid h.1
  have H := Lib.hid h
  clear h
  go_enter Tryd.func37, Tryd.ntmps37
  go_wp2
  go_loopw [1, 5] (fun m i wr => ∃ k : Nat, k ≤ n ∧ i = .int .i64 k ∧ m = .int .i64 (c + ((k * 3 : Nat) : Int)) ∧ Recs wr B (.slice a n cap) n (markL c F (k * 3)) ∧ Below B w wr ∧ wr.heap.size = w.heap.size) (fun _ i _ => n - (intOf i).toNat)
  case atStart => exact ⟨0, Nat.zero_le _, rfl, by simp, by simpa [markL, seqL] using H.out, Below.refl _ _, rfl⟩
  case round =>
    obtain ⟨k, hk, rfl, rfl, hi, hb, hsz⟩ := hrel
    have HS := Lib.hid hsz
    have hFl := HF.out
    clear hsz
    by_cases hlt : k < n
    · have hlen := markL_len c F (k * 3) (by omega)
      obtain ⟨a', cap', hv, _, kk⟩ := hi.form
      simp only [Value.slice.injEq] at hv
      obtain ⟨rfl, -, rfl⟩ := hv
      obtain ⟨g0, hg0, hB0, hgs0, hcell0, hfr0⟩ := kk (k * 3) (by rw [hlen]; omega)
      obtain ⟨x0, hcx0⟩ : ∃ x, wr.cell? ⟨g0, k * 3, none⟩ = some x := ⟨_, hcell0⟩
      obtain ⟨g1, hg1, hB1, hgs1, hcell1, hfr1⟩ := kk (k * 3 + 1) (by rw [hlen]; omega)
      obtain ⟨x1, hcx1⟩ : ∃ x, wr.cell? ⟨g1, k * 3 + 1, none⟩ = some x := ⟨_, hcell1⟩
      obtain ⟨g2, hg2, hB2, hgs2, hcell2, hfr2⟩ := kk (k * 3 + 2) (by rw [hlen]; omega)
      obtain ⟨x2, hcx2⟩ : ∃ x, wr.cell? ⟨g2, k * 3 + 2, none⟩ = some x := ⟨_, hcell2⟩
      subst hg0
      simp only [Option.some.injEq, Addr.mk.injEq, and_true] at hg1
      subst hg1
      simp only [Option.some.injEq, Addr.mk.injEq, and_true] at hg2
      subst hg2
      have hp0 := Recs.put hi (k * 3) (c + ((k * 3 : Nat) : Int))
      rw [markL_step c F (k * 3) (by omega)] at hp0
      have hp1 := Recs.put hp0 (k * 3 + 1) (c + ((k * 3 + 1 : Nat) : Int))
      rw [markL_step c F (k * 3 + 1) (by omega)] at hp1
      have hp2 := Recs.put hp1 (k * 3 + 2) (c + ((k * 3 + 2 : Nat) : Int))
      rw [markL_step c F (k * 3 + 2) (by omega)] at hp2
      have HI := Lib.hid (show Recs _ _ _ _ (markL c F ((k + 1) * 3)) from (show (k + 1) * 3 = k * 3 + 2 + 1 by omega) ▸ hp2)
      have ee0 : ((k * 3 : Nat) : Int) = (k : Int) * 3 := by simp
      clear hi kk hcell0 hp0 hcell1 hp1 hcell2 hp2 hlen hFl
      go_wp2
      go_roundw
      case rel => exact ⟨k + 1, by omega, by go_num, by first | go_num | (congr 1; omega), by simpa [Int.add_assoc] using HI.out, (((hb.setCell hB0 _).setCell hB0 _).setCell hB0 _), by simp; exact HS.out⟩
      case measure => simp [intOf]; omega
    · obtain rfl : k = n := by omega
      rw [← hFl, markL_end, hFl] at hi
      clear hFl
      go_wp2
      go_ret
      exact ⟨rfl, hi, hb, HS.out⟩

set_option maxHeartbeats 2000000 in
theorem heldBoundS_any (B n : Nat) (v : Value) (c : Int) (w : World) (h : Recs w B v n (seqL c (n * 3))) (hc0 : 0 ≤ c) (hc1 : c + n * 3 ≤ 9223372036854775807) :
    Calls Tryd.prog 38 #[v, .int .i64 c] w fun e w' => e = .returned (.int .i64 (c + ((n * 3 : Nat) : Int))) ∧ w = w' := by
  obtain ⟨a, cap, rfl, hl, kk⟩ := h.form
  unfold maxLen at hl
  have KK := Lib.hid kk
  have hlen : Hid ((seqL c (n * 3)).length = n * 3) := seqL_len c (n * 3)
  clear kk h
  go_enter Tryd.func38, Tryd.ntmps38
  go_wp2
  go_loop [1, 5] (fun m i => ∃ k : Nat, k ≤ n ∧ i = .int .i64 k ∧ m = .int .i64 (c + (k : Int) * 3)) (fun _ i => n - (intOf i).toNat)
  case atStart => exact ⟨0, Nat.zero_le _, rfl, by simp⟩
  case round =>
    obtain ⟨k, hk, rfl, rfl⟩ := hrel
    by_cases hlt : k < n
    · obtain ⟨u, hu⟩ : ∃ u, c + (k : Int) * 3 = u := ⟨_, rfl⟩
      obtain ⟨g0, hg0, _, _, hcell0, _⟩ := KK.out (k * 3) (by rw [hlen.out]; omega)
      rw [seqL_get, show c + ((k * 3 : Nat) : Int) = u by omega] at hcell0
      obtain ⟨g1, hg1, _, _, hcell1, _⟩ := KK.out (k * 3 + 1) (by rw [hlen.out]; omega)
      rw [seqL_get, show c + ((k * 3 + 1 : Nat) : Int) = u + 1 by omega] at hcell1
      obtain ⟨g2, hg2, _, _, hcell2, _⟩ := KK.out (k * 3 + 2) (by rw [hlen.out]; omega)
      rw [seqL_get, show c + ((k * 3 + 2 : Nat) : Int) = u + 2 by omega] at hcell2
      subst hg0
      simp only [Option.some.injEq, Addr.mk.injEq, and_true] at hg1
      subst hg1
      simp only [Option.some.injEq, Addr.mk.injEq, and_true] at hg2
      subst hg2
      have hu1 : 0 ≤ u ∧ u + 3 ≤ 9223372036854775807 := by omega
      obtain ⟨hu2, hu3⟩ := hu1
      rw [hu]
      have HU := Lib.hid hu
      clear hu
      go_wp2
      go_round
      case rel => exact ⟨k + 1, by omega, by go_num, by have := HU.out; congr 1; omega⟩
      case measure => simp [intOf]; omega
    · obtain rfl : k = n := by omega
      go_wp2
      go_ret
      exact ⟨by simp, rfl⟩
end Go.Proofs.YtemjohkieehojaaDoor
