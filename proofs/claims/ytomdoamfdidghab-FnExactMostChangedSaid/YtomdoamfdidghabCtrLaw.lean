/- The helpers of the laws that compare, mark and read again a counter. -/
import Derived.Test.YtomdoamfdidghabInts
import Derived.Test.YtomdoamfdidghabPair
namespace Go.Proofs.Ytomdoamfdidghab
open Go.RowKit

theorem bw {B : Nat} {a w : World} (h : Below B a w) (n : Nat) : Below B a (w.drewN n) := ⟨h.os, h.tape, h.output, h.size, h.block⟩
theorem Ints.drewN {w : World} {B : Nat} {v : Value} {l : List Int} (h : Ints w B v l) (n : Nat) : Ints (w.drewN n) B v l := h.keep (bw (Below.refl _ _) n) (Nat.le_refl _)

theorem eqCounter_same (B1 B2 : Nat) (n : Int) (v1 v2 : Value) (l : List Int) (w : World) (h1 : Ints w B1 v1 l) (h2 : Ints w B2 v2 l) :
    Calls Try.prog 10 #[.agg #[.int .i64 n, v1], .agg #[.int .i64 n, v2]] w fun e w' => e = .returned (.bool true) ∧ Below w.heap.size w w' := by
  have H1 := Lib.hid h1
  have H2 := Lib.hid h2
  clear h1 h2
  go_enter Try.func10, Try.ntmps10
  go_wp2_with fail
  refine (eqInts_same B1 B2 v1 v2 l _ (H1.out.keep (((Below.refl _ _).alloc (Nat.le_refl _) _).alloc (by simp) _) (Nat.le_refl _)) (H2.out.keep (((Below.refl _ _).alloc (Nat.le_refl _) _).alloc (by simp) _) (Nat.le_refl _))).mono ?_; rintro e w' ⟨rfl, q, rfl⟩
  go_wp2
  go_ret
  exact ⟨rfl, bw (((Below.refl _ _).alloc (Nat.le_refl _) _).alloc (by simp) _) _⟩
/-- all blocks but the row's own are as they were -/
def Others (w w' : World) (v : Value) : Prop := ∀ g, some g ≠ v.ownBlock → w'.heap[g]? = w.heap[g]?
theorem Others.refl (w : World) (v : Value) : Others w w v := fun _ _ => rfl
theorem Others.set {w wr : World} {g n cap : Nat} (h : Others w wr (.slice (some ⟨g, 0, none⟩) n cap)) (k : Nat) (x : Value) : Others w (wr.setCell ⟨g, k, none⟩ x) (.slice (some ⟨g, 0, none⟩) n cap) := fun b hb =>
  (Below.heap_setCell wr _ x b (fun e => hb (by rw [e]; rfl))).trans (h b hb)
theorem At2.others {w w' : World} {v : Value} {g : Nat} {a b : Value} (h : At2 w g a b) (ho : Others w w' v) (hne : some g ≠ v.ownBlock) : At2 w' g a b := by
  have e := ho g hne
  have c : ∀ o, w'.cell? ⟨g, o, none⟩ = w.cell? ⟨g, o, none⟩ := fun o => by unfold World.cell?; rw [e]
  have f : ∀ o, w'.frozen? ⟨g, o, none⟩ = w.frozen? ⟨g, o, none⟩ := fun o => by unfold World.frozen?; rw [e]
  exact ⟨(c 0).trans h.1, (c 1).trans h.2.1, (f 0).trans h.2.2.1, (f 1).trans h.2.2.2⟩
end Go.Proofs.Ytomdoamfdidghab
