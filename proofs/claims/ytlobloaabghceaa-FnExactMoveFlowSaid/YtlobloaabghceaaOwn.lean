/- The model's copy of a row of numbers: l00Own. -/
import Derived.Test.YtlobloaabghceaaInts
import Derived.Test.YtlobloaabghceaaKept
import Derived.OwnWalk
namespace Go.Proofs.Ytlobloaabghceaa
open Go.RowKit
set_option linter.unusedVariables false
/-- the row of a slice that begins anywhere in its block -/
def RowFromO (w : World) (g off : Nat) (l : List Int) : Prop := ∀ k (hk : k < l.length), w.cell? ⟨g, off + k, none⟩ = some (.int .i64 l[k])
theorem Ints.fromO {w : World} {B g n cap : Nat} {l : List Int} (h : Ints w B (.slice (some ⟨g, 0, none⟩) n cap) l) : RowFromO w g 0 l ∧ n = l.length := by
  obtain ⟨a', cap', hv, _, kk⟩ := h.form
  simp only [Value.slice.injEq] at hv
  refine ⟨fun k hk => ?_, hv.2.1⟩
  obtain ⟨g', hg, -, -, hc, -⟩ := kk k hk
  rw [← hv.1] at hg
  simp only [Option.some.injEq, Addr.mk.injEq, and_true] at hg
  subst hg
  rw [Nat.zero_add]; exact hc
set_option maxRecDepth 100000 in
theorem own_anyO (g off m c : Nat) (l : List Int) (w : World) (hm : m = l.length) (hl : l.length ≤ 1048576) (hr : RowFromO w g off l) :
    Calls Try.prog 61 #[.slice (some ⟨g, off, none⟩) m c] w fun e w' => ∃ v, e = .returned v ∧ Ints w' w.heap.size v l ∧ Below w.heap.size w w' := by
  obtain ⟨i0, hi, hz0, hz1, hz2⟩ := info_parts info_i64
  have hnews : ∀ (j : Nat) (u : Value), (l.map (Value.int .i64))[j]? = some u → (w.alloc (.cells #[] 2)).cell? (Addr.add ⟨g, off, none⟩ j) = some u := by
    intro j u h
    rw [List.getElem?_map] at h
    obtain ⟨x, hx, rfl⟩ := Option.map_eq_some_iff.1 h
    obtain ⟨hj, hx2⟩ := List.getElem?_eq_some_iff.1 hx
    have e : Addr.add ⟨g, off, none⟩ j = ⟨g, off + j, none⟩ := by unfold Addr.add; split <;> simp_all
    rw [e, ← hx2]
    exact cell_alloc_kept (hr j hj)
  have HNEWS := Lib.hid hnews
  have HM := Lib.hid hm
  clear hnews hr
  go_enter Try.func61, Try.ntmps61
  go_wp2_with (at_builtin; refine wpList_append_own _ rfl _ _ 23 rfl w.heap.size 2 i0 (.int .i64 0) 1 8 Try.underlying23 hi hz0 hz1 hz2 rfl (by decide) _ _ _ rfl (Ints.lit w) ⟨g, off, none⟩ m c (l.map (Value.int .i64)) rfl (by rw [List.length_map, HM.out, Nat.mul_one]) HNEWS.out (by intro u hu; obtain ⟨x, _, rfl⟩ := List.mem_map.1 hu; rfl) (by unfold maxLen; have := HM.out; simp; omega) (by have := HM.out; simp; omega) (by simp) ?_; intro v1 w1 hown1 hgrow1 _)
  go_wp2
  go_ret
  refine ⟨_, rfl, ?_, ?_⟩
  · unfold Ints; rw [← HM.out]; simpa using hown1
  · exact ((Below.refl _ _).alloc (Nat.le_refl _) _).grown hgrow1 (by simp) (fun j e => (World.ownsRow.lt (Ints.lit w) j e).1)
end Go.Proofs.Ytlobloaabghceaa
