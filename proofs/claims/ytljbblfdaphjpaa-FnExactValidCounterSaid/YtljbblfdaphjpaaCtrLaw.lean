/- The helpers of the laws that compare, mark and read again a counter. -/
import Derived.Test.YtljbblfdaphjpaaInts
import Derived.Test.YtljbblfdaphjpaaPair
namespace Go.Proofs.Ytljbblfdaphjpaa
open Go.RowKit

theorem bw {B : Nat} {a w : World} (h : Below B a w) (n : Nat) : Below B a (w.drewN n) := ⟨h.os, h.tape, h.output, h.size, h.block⟩
theorem Ints.drewN {w : World} {B : Nat} {v : Value} {l : List Int} (h : Ints w B v l) (n : Nat) : Ints (w.drewN n) B v l := h.keep (bw (Below.refl _ _) n) (Nat.le_refl _)

theorem eqCounter_same (B1 B2 : Nat) (n : Int) (v1 v2 : Value) (l : List Int) (w : World) (h1 : Ints w B1 v1 l) (h2 : Ints w B2 v2 l) :
    Calls Try.prog 54 #[.agg #[.int .i64 n, v1], .agg #[.int .i64 n, v2]] w fun e w' => e = .returned (.bool true) ∧ Below w.heap.size w w' := by
  have H1 := Lib.hid h1
  have H2 := Lib.hid h2
  clear h1 h2
  go_enter Try.func54, Try.ntmps54
  go_wp2_with fail
  refine (eqInts_same B1 B2 v1 v2 l _ (H1.out.keep (((Below.refl _ _).alloc (Nat.le_refl _) _).alloc (by simp) _) (Nat.le_refl _)) (H2.out.keep (((Below.refl _ _).alloc (Nat.le_refl _) _).alloc (by simp) _) (Nat.le_refl _))).mono ?_; rintro e w' ⟨rfl, q, rfl⟩
  go_wp2
  go_ret
  exact ⟨rfl, bw (((Below.refl _ _).alloc (Nat.le_refl _) _).alloc (by simp) _) _⟩
/-- all blocks but the row's own are as they were -/
def Others (w w' : World) (v : Value) : Prop := ∀ g, some g ≠ v.ownBlock → w'.heap[g]? = w.heap[g]?
theorem Others.refl (w : World) (v : Value) : Others w w v := fun _ _ => rfl
theorem Others.set {w wr : World} {g n cap : Nat} (h : Others w wr (.slice (some ⟨g, 0, none⟩) n cap)) (k : Nat) (x : Value) : Others w (wr.setCell ⟨g, k, none⟩ x) (.slice (some ⟨g, 0, none⟩) n cap) := fun b hb =>
  (Below.heap_setCell wr _ x b (fun e => hb (by rw [e]; rfl))).trans (h b hb)
theorem At2.others {w w' : World} {v : Value} {g : Nat} {a b : Value} (h : At2 w g a b) (ho : Others w w' v) (hne : some g ≠ v.ownBlock) : At2 w' g a b := by
  have e := ho g hne
  have c : ∀ o, w'.cell? ⟨g, o, none⟩ = w.cell? ⟨g, o, none⟩ := fun o => by unfold World.cell?; rw [e]
  have f : ∀ o, w'.frozen? ⟨g, o, none⟩ = w.frozen? ⟨g, o, none⟩ := fun o => by unfold World.frozen?; rw [e]
  exact ⟨(c 0).trans h.1, (c 1).trans h.2.1, (f 0).trans h.2.2.1, (f 1).trans h.2.2.2⟩
theorem markInts2 (B : Nat) (v : Value) (l : List Int) (c : Int) (w : World) (h : Ints w B v l) (hc0 : 0 ≤ c) (hc1 : c + l.length ≤ 9223372036854775807) :
    Calls Try.prog 37 #[v, .int .i64 c] w fun e w' => e = .returned (.int .i64 (c + l.length)) ∧ Ints w' B v (seqL c l.length) ∧ Below B w w' ∧ w'.heap.size = w.heap.size ∧ Others w w' v := by
  obtain ⟨a, cap, rfl, hl, _⟩ := h.form
  unfold maxLen at hl
  have H := Lib.hid h
  clear h
  go_enter Try.func37, Try.ntmps37
  go_wp2
  go_loopw [1, 5] (fun m i wr => ∃ k : Nat, k ≤ l.length ∧ i = .int .i64 k ∧ m = .int .i64 (c + k) ∧ Ints wr B (.slice a l.length cap) (markL c l k) ∧ Below B w wr ∧ wr.heap.size = w.heap.size ∧ Others w wr (.slice a l.length cap)) (fun _ i _ => l.length - (intOf i).toNat)
  case atStart => exact ⟨0, Nat.zero_le _, rfl, by simp, by simpa [markL, seqL] using H.out, Below.refl _ _, rfl, Others.refl _ _⟩
  case round =>
    obtain ⟨k, hk, rfl, rfl, hi, hb, hsz, hoo⟩ := hrel
    have HS := Lib.hid hsz
    have HO := Lib.hid hoo
    clear hsz hoo
    by_cases hlt : k < l.length
    · have hlen := markL_len c l k hk
      obtain ⟨a', cap', hv, _, kk⟩ := hi.form
      simp only [Value.slice.injEq] at hv
      obtain ⟨g, hg, hBg, hgs, hcell, hfr⟩ := kk k (by omega)
      obtain ⟨rfl, _, rfl⟩ := hv
      subst hg
      have HI := Lib.hid (hi.put k (c + k))
      have HM := Lib.hid (markL_step c l k hlt)
      obtain ⟨x, hcx⟩ : ∃ x, wr.cell? ⟨g, k, none⟩ = some (.int .i64 x) := ⟨_, hcell⟩
      clear hi kk hcell hlen
      go_wp2
      go_roundw
      case rel => exact ⟨k + 1, by omega, by go_num, by go_num, by rw [← HM.out]; exact HI.out, hb.setCell hBg _, by simp; exact HS.out, HO.out.set _ _⟩
      case measure => simp [intOf]; omega
    · obtain rfl : k = l.length := by omega
      rw [markL_end] at hi
      go_wp2
      go_ret
      exact ⟨rfl, hi, hb, HS.out, HO.out⟩
theorem markCounter_any (B : Nat) (n : Int) (v : Value) (l : List Int) (c : Int) (w : World) (h : Ints w B v l) (hB : B ≤ w.heap.size) (hc0 : 0 ≤ c) (hc1 : c + l.length ≤ 9223372036854775807) :
    Calls Try.prog 57 #[.agg #[.int .i64 n, v], .int .i64 c] w fun e w' => e = .returned (.int .i64 (c + l.length)) ∧ Ints w' B v (seqL c l.length) ∧ Below B w w' ∧ w'.heap.size = w.heap.size + 1 ∧ Others (w.alloc (.cells #[.int .i64 n, v] 64)) w' v := by
  have H := Lib.hid h
  clear h
  go_enter Try.func57, Try.ntmps57
  go_wp2_with fail
  refine (markInts2 B v l c _ (H.out.keep ((Below.refl _ _).alloc (Nat.le_refl _) _) (Nat.le_refl _)) hc0 hc1).mono ?_; rintro e w1 ⟨rfl, i1, b1, z1, o1⟩
  have HZ := Lib.hid z1
  have HI := Lib.hid i1
  have HO := Lib.hid o1
  clear z1 i1 o1
  go_wp2
  go_ret
  exact ⟨rfl, HI.out, ((Below.refl _ _).alloc hB _).trans b1, by rw [HZ.out]; simp, HO.out⟩
theorem heldCounter_any (B : Nat) (n : Int) (v : Value) (m : Nat) (c : Int) (w : World) (h : Ints w B v (seqL c m)) (hc0 : 0 ≤ c) (hc1 : c + m ≤ 9223372036854775807) :
    Calls Try.prog 58 #[.agg #[.int .i64 n, v], .int .i64 c] w fun e w' => e = .returned (.int .i64 (c + m)) ∧ Below w.heap.size w w' := by
  have H := Lib.hid h
  clear h
  go_enter Try.func58, Try.ntmps58
  go_wp2_with fail
  refine (heldInts B v m c _ (H.out.keep ((Below.refl _ _).alloc (Nat.le_refl _) _) (Nat.le_refl _)) hc0 hc1).mono ?_; rintro e w' ⟨rfl, rfl⟩
  go_wp2
  go_ret
  exact ⟨rfl, (Below.refl _ _).alloc (Nat.le_refl _) _⟩
end Go.Proofs.Ytljbblfdaphjpaa
