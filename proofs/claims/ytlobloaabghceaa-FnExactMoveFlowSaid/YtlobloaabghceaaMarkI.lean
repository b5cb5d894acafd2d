/- Numbers of a call's own, marked: no other block is touched. -/
import Derived.Test.YtlobloaabghceaaInts
namespace Go.Proofs.Ytlobloaabghceaa
open Go.RowKit
set_option linter.unusedVariables false
theorem grown_setI {w W : World} {p : Nat} (h : w.grownBy W (some p)) (i : Nat) (v : Value) : w.grownBy (W.setCell ⟨p, i, none⟩ v) (some p) :=
  ⟨h.os, h.tape, h.output, by simpa using h.size, fun k hk hne => (Below.heap_setCell _ _ _ _ (by show k ≠ p; intro e; exact hne (by rw [e]))).trans (h.block k hk hne)⟩
theorem markIntsG (B : Nat) (v : Value) (l : List Int) (c : Int) (w : World) (h : Ints w B v l) (hc0 : 0 ≤ c) (hc1 : c + l.length ≤ 9223372036854775807) :
    Calls Try.prog 19 #[v, .int .i64 c] w fun e w' => e = .returned (.int .i64 (c + l.length)) ∧ Ints w' B v (seqL c l.length) ∧ Below B w w' ∧ w'.heap.size = w.heap.size ∧ w.grownBy w' v.ownBlock := by
  obtain ⟨a, cap, rfl, hl, _⟩ := h.form
  unfold maxLen at hl
  have H := Lib.hid h
  clear h
  go_enter Try.func19, Try.ntmps19
  go_wp2
  go_loopw [1, 5] (fun m i wr => ∃ k : Nat, k ≤ l.length ∧ i = .int .i64 k ∧ m = .int .i64 (c + k) ∧ Ints wr B (.slice a l.length cap) (markL c l k) ∧ Below B w wr ∧ wr.heap.size = w.heap.size ∧ Hid (w.grownBy wr (Value.slice a l.length cap).ownBlock)) (fun _ i _ => l.length - (intOf i).toNat)
  case atStart => exact ⟨0, Nat.zero_le _, rfl, by simp, by simpa [markL, seqL] using H.out, Below.refl _ _, rfl, Lib.hid ⟨rfl, rfl, rfl, Nat.le_refl _, fun _ _ _ => rfl⟩⟩
  case round =>
    obtain ⟨k, hk, rfl, rfl, hi, hb, hsz, HGR⟩ := hrel
    have HS := Lib.hid hsz
    clear hsz
    by_cases hlt : k < l.length
    · have hlen := markL_len c l k hk
      obtain ⟨a', cap', hv, _, kk⟩ := hi.form
      simp only [Value.slice.injEq] at hv
      obtain ⟨g, hg, hBg, hgs, hcell, hfr⟩ := kk k (by omega)
      obtain ⟨rfl, _, rfl⟩ := hv
      subst hg
      have HI := Lib.hid (hi.put k (c + k))
      have HM := Lib.hid (markL_step c l k hlt)
      obtain ⟨x, hcx⟩ : ∃ x, wr.cell? ⟨g, k, none⟩ = some (.int .i64 x) := ⟨_, hcell⟩
      clear hi kk hcell hlen
      go_wp2
      go_roundw
      case rel => exact ⟨k + 1, by omega, by go_num, by go_num, by rw [← HM.out]; exact HI.out, hb.setCell hBg _, by simp; exact HS.out, Lib.hid (grown_setI HGR.out _ _)⟩
      case measure => simp [intOf]; omega
    · obtain rfl : k = l.length := by omega
      rw [markL_end] at hi
      go_wp2
      go_ret
      exact ⟨rfl, hi, hb, HS.out, HGR.out⟩
/-- another row of the call's own is as it was -/
theorem Ints.apart {w w' : World} {B B2 : Nat} {v v2 : Value} {l l2 : List Int} (h : Ints w B v l) (h2 : Ints w B2 v2 l2) (hg : w.grownBy w' v2.ownBlock) (hne : ∀ k k2, v.ownBlock = some k → v2.ownBlock = some k2 → k ≠ k2) : Ints w' B v l := by
  refine World.ownsRow.kept h hg ?_
  cases hv : v.ownBlock with
  | none => exact Or.inl rfl
  | some g =>
    right
    intro e
    cases hv2 : v2.ownBlock with
    | none => rw [hv2] at e; cases e
    | some g2 => rw [hv2] at e; exact hne g g2 hv hv2 (by injection e)
theorem Ints.lt {w : World} {B : Nat} {v : Value} {l : List Int} (h : Ints w B v l) : ∀ k, v.ownBlock = some k → B ≤ k ∧ k < w.heap.size := World.ownsRow.lt h
end Go.Proofs.Ytlobloaabghceaa
