/- A slice of strings that came in: its cells. -/
import Derived.Test.YtkbnllaobnhfbaaDoorStrs
import Derived.Deep.Slices
import Derived.ChangeSame
import Derived.OpenShut
import Derived.SliceStrings
namespace Go.Proofs.YtkbnllaobnhfbaaDoor
open Go.RowKit Go.ChangeShapes Go.WideShapes Go.Deep
set_option linter.unusedVariables false
theorem cellsStr : Tryd.prog.cellsOf 9 = 1 := by kernel_rfl
theorem open_srow {H : Type} {enc : TypeId × Value → H} {W : World} {base fuel : Nat} {sp : Nat → Bool} {held : Bool} {c : Value} {z : DataW H × List MemPlace} (h : DataW.trod enc Tryd.prog W base sp held fuel 22 [c] = some z) :
    ∃ a len cap l, c = .slice a len cap ∧ len = l.length ∧ SRow W a l ∧ len ≤ maxLen ∧ ∀ k (hk : k < l.length), l[k].size ≤ maxLen := by
  rcases open_strings Tryd.underlying22 Tryd.underlying9 cellsStr h with ⟨h0, -⟩ | ⟨a, len, cap, ss, h0, -, hl, hm, hlen, -, hcell, hsz⟩
  · simp at h0
    exact ⟨none, 0, 0, [], h0, rfl, .inl rfl, Nat.zero_le _, fun k hk => by simp at hk⟩
  · simp at h0
    have hle : len ≤ ss.length := by rw [hlen]; split <;> omega
    refine ⟨some a, len, cap, ss.take len, h0, by simp; omega, ?_, Nat.le_trans hl hm, fun k hk => hsz _ (List.mem_of_mem_take (List.getElem_mem hk))⟩
    by_cases h0 : ss.take len = []
    · exact .inl h0
    · right
      have hzp : 0 < ss.length := by cases ss with | nil => simp at h0 | cons z zs => simp
      obtain ⟨b, off, spot⟩ := a
      have hspot : spot = none := by simpa [Addr.add] using World.cell?_spot (hcell 0 hzp)
      subst hspot
      have hc : ∀ j, j < ss.length → W.cell? ⟨b, off + j, none⟩ = some (.string (ss.getD j ByteArray.empty)) := fun j hj => by rw [← Go.WideShapes.add_plain]; exact hcell j hj
      refine ⟨b, off, rfl, World.block_lt_of_cell? W _ (hc 0 hzp), fun k hk => ?_⟩
      have hk2 : k < ss.length := by simp at hk; omega
      rw [hc k hk2, List.getElem_take, List.getD_eq_getElem?_getD, List.getElem?_eq_getElem hk2]; rfl
end Go.Proofs.YtkbnllaobnhfbaaDoor
