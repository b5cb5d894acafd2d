/- A slice of structs of numbers that came in: its cells. -/
import Derived.Test.YtafecdmcbpnniaaRecsC
import Derived.Deep.Slices
import Derived.ChangeSame
import Derived.OpenShut
namespace Go.Proofs.Ytafecdmcbpnniaa
open Go.RowKit Go.ChangeShapes Go.WideShapes Go.Deep
set_option linter.unusedVariables false

theorem cellsRec : Try.prog.cellsOf 23 = 2 := by kernel_rfl
theorem cellsI64 : Try.prog.cellsOf 2 = 1 := by kernel_rfl
set_option maxRecDepth 100000 in
theorem open_recs {H : Type} {enc : TypeId × Value → H} {W : World} {fuel : Nat} {c : Value} {z : DataW H × List MemPlace} (h : DataW.trod enc Try.prog W 0 (fun _ => true) true fuel 44 [c] = some z) :
    ∃ a len cap F, c = .slice a len cap ∧ F.length = len * 2 ∧ ArgRow W a F ∧ len ≤ maxLen := by
  rcases open_slice Try.underlying44 h with ⟨h0, -⟩ | ⟨a, len, cap, m, n, D, Pl, h0, -, hl, hm, hmm, -, hx⟩
  · simp at h0
    exact ⟨none, 0, 0, [], h0, rfl, .inl rfl, Nat.zero_le _⟩
  · simp at h0
    simp only [if_true] at hmm
    subst hmm
    have each : ∀ j, j < len * 2 → ∃ q : Int, W.cell? (a.add j) = some (.int .i64 q) := by
      intro j hj
      have hi : j / 2 < len := by omega
      obtain ⟨cs', h1, h2⟩ := hx (j / 2) (by omega)
      rw [cellsRec] at h1
      obtain ⟨_, hlen, hcell⟩ := World.cells?_some h1
      obtain ⟨xs, k, hk, -, hcl, hxl, hf⟩ := DataW.trod_struct Try.underlying23 h2
      match xs, hxl, cs', hlen with
      | [y0, y1], _, [v0, v1], _ =>
        have g0 := hf 0 _ rfl
        simp [cellsI64] at g0
        obtain ⟨n0, e0, -, -⟩ := DataW.trod_int Try.underlying2 g0
        simp at e0
        have d0 := hcell 0 (by omega)
        rw [add_add] at d0
        have g1 := hf 1 _ rfl
        simp [cellsI64] at g1
        obtain ⟨n1, e1, -, -⟩ := DataW.trod_int Try.underlying2 g1
        simp at e1
        have d1 := hcell 1 (by omega)
        rw [add_add] at d1
        by_cases r0 : j % 2 = 0
        · have ej : j = j / 2 * 2 + 0 := by omega
          rw [ej]; exact ⟨n0, by simpa [e0] using d0⟩
        · have ej : j = j / 2 * 2 + 1 := by omega
          rw [ej]; exact ⟨n1, by simpa [e1] using d1⟩
    obtain ⟨f, hf⟩ := choose_lt each
    refine ⟨some a, len, m, (List.range (len * 2)).map f, h0, by simp, ?_, Nat.le_trans hl hm⟩
    by_cases h00 : len = 0
    · subst h00; exact .inl (by simp)
    · right
      obtain ⟨b, off, rfl, hc⟩ := ints_at (w := W) (a := a) (k := .i64) (zs := (List.range (len * 2)).map f) (fun i hi => by
        have hi2 : i < len * 2 := by simpa using hi
        rw [List.getD_eq_getElem?_getD, List.getElem?_eq_getElem hi, List.getElem_map, List.getElem_range]
        exact hf i hi2) (by simp; omega)
      refine ⟨b, off, rfl, World.block_lt_of_cell? W _ (hc 0 (by simp; omega)), fun k hk => ?_⟩
      rw [hc k hk, List.getD_eq_getElem?_getD, List.getElem?_eq_getElem hk]; rfl
end Go.Proofs.Ytafecdmcbpnniaa
