/- A slice of structs of numbers that came in: its cells. -/
import Derived.Test.YtmhkeiccemfpeaaDoorRecsW
import Derived.Deep.Slices
import Derived.ChangeSame
import Derived.OpenShut
namespace Go.Proofs.YtmhkeiccemfpeaaDoor
open Go.RowKit Go.ChangeShapes Go.WideShapes Go.Deep
set_option linter.unusedVariables false

theorem cellsRec : Tryd.prog.cellsOf 55 = 3 := by kernel_rfl
theorem cellsI64 : Tryd.prog.cellsOf 2 = 1 := by kernel_rfl
set_option maxRecDepth 100000 in
theorem open_recs {H : Type} {enc : TypeId × Value → H} {W : World} {fuel : Nat} {c : Value} {z : DataW H × List MemPlace} (h : DataW.trod enc Tryd.prog W 0 (fun _ => true) true fuel 23 [c] = some z) :
    ∃ a len cap F, c = .slice a len cap ∧ F.length = len * 3 ∧ ArgRow W a F ∧ len ≤ maxLen := by
  rcases open_slice Tryd.underlying23 h with ⟨h0, -⟩ | ⟨a, len, cap, m, n, D, Pl, h0, -, hl, hm, hmm, -, hx⟩
  · simp at h0
    exact ⟨none, 0, 0, [], h0, rfl, .inl rfl, Nat.zero_le _⟩
  · simp at h0
    simp only [if_true] at hmm
    subst hmm
    have each : ∀ j, j < len * 3 → ∃ q : Int, W.cell? (a.add j) = some (.int .i64 q) := by
      intro j hj
      have hi : j / 3 < len := by omega
      obtain ⟨cs', h1, h2⟩ := hx (j / 3) (by omega)
      rw [cellsRec] at h1
      obtain ⟨_, hlen, hcell⟩ := World.cells?_some h1
      obtain ⟨xs, k, hk, -, hcl, hxl, hf⟩ := DataW.trod_struct Tryd.underlying55 h2
      match xs, hxl, cs', hlen with
      | [y0, y1, y2], _, [v0, v1, v2], _ =>
        have g0 := hf 0 _ rfl
        simp [cellsI64] at g0
        obtain ⟨n0, e0, -, -⟩ := DataW.trod_int Tryd.underlying2 g0
        simp at e0
        have d0 := hcell 0 (by omega)
        rw [add_add] at d0
        have g1 := hf 1 _ rfl
        simp [cellsI64] at g1
        obtain ⟨n1, e1, -, -⟩ := DataW.trod_int Tryd.underlying2 g1
        simp at e1
        have d1 := hcell 1 (by omega)
        rw [add_add] at d1
        have g2 := hf 2 _ rfl
        simp [cellsI64] at g2
        obtain ⟨n2, e2, -, -⟩ := DataW.trod_int Tryd.underlying2 g2
        simp at e2
        have d2 := hcell 2 (by omega)
        rw [add_add] at d2
        by_cases r0 : j % 3 = 0
        · have ej : j = j / 3 * 3 + 0 := by omega
          rw [ej]; exact ⟨n0, by simpa [e0] using d0⟩
        by_cases r1 : j % 3 = 1
        · have ej : j = j / 3 * 3 + 1 := by omega
          rw [ej]; exact ⟨n1, by simpa [e1] using d1⟩
        · have ej : j = j / 3 * 3 + 2 := by omega
          rw [ej]; exact ⟨n2, by simpa [e2] using d2⟩
    obtain ⟨f, hf⟩ := choose_lt each
    refine ⟨some a, len, m, (List.range (len * 3)).map f, h0, by simp, ?_, Nat.le_trans hl hm⟩
    by_cases h00 : len = 0
    · subst h00; exact .inl (by simp)
    · right
      obtain ⟨b, off, rfl, hc⟩ := ints_at (w := W) (a := a) (k := .i64) (zs := (List.range (len * 3)).map f) (fun i hi => by
        have hi2 : i < len * 3 := by simpa using hi
        rw [List.getD_eq_getElem?_getD, List.getElem?_eq_getElem hi, List.getElem_map, List.getElem_range]
        exact hf i hi2) (by simp; omega)
      refine ⟨b, off, rfl, World.block_lt_of_cell? W _ (hc 0 (by simp; omega)), fun k hk => ?_⟩
      rw [hc k hk, List.getD_eq_getElem?_getD, List.getElem?_eq_getElem hk]; rfl
end Go.Proofs.YtmhkeiccemfpeaaDoor
