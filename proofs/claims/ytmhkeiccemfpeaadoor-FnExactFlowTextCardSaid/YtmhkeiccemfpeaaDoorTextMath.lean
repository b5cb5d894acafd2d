/- Texts of lists and of fractions: plain words over bytes. -/
import Derived.Test.YtmhkeiccemfpeaaDoorDecMath
import Derived.Lib.Join
namespace Go.Proofs.YtmhkeiccemfpeaaDoor
open Go.Lib

/-- the numerals of a list, a comma between two -/
def ltx (l : List Int) : List UInt8 := Lib.join (l.map itoa) [44]
theorem ltx_nil : ltx [] = [] := rfl
theorem ltx_one (x : Int) : ltx ([] ++ [x]) = itoa x := by simp [ltx, Lib.join_one]
theorem ltx_snoc (l : List Int) (x : Int) (h : l ≠ []) : ltx (l ++ [x]) = ltx l ++ ([44] ++ itoa x) := by
  cases l with
  | nil => exact absurd rfl h
  | cons y r =>
    unfold ltx
    rw [List.cons_append, List.map_cons, List.map_cons, Lib.join_cons, Lib.join_cons, List.map_append]
    simp [Lib.joinTail]
theorem itoa_pos (n : Int) : 0 < (itoa n).length := by
  by_cases h : n < 0
  · rw [itoa_ng h]; simp
  · rw [itoa_nn (by omega)]; exact dec_len_pos _
theorem itoa_len (n : Int) (h : n.natAbs ≤ 1000000000000000000) : (itoa n).length ≤ 20 := by
  have := dec_len 18 n.natAbs (by omega)
  by_cases hn : n < 0
  · rw [itoa_ng hn]; simp; omega
  · rw [itoa_nn (by omega)]; omega
theorem ltx_pos (l : List Int) (h : l ≠ []) : 0 < (ltx l).length := by
  cases l with
  | nil => exact absurd rfl h
  | cons y r =>
    unfold ltx
    rw [List.map_cons, Lib.join_cons, List.length_append]
    have := itoa_pos y
    omega
theorem ltx_len (l : List Int) (h : ∀ x ∈ l, x.natAbs ≤ 1000000000000000000) : (ltx l).length ≤ 21 * l.length := by
  cases l with
  | nil => simp [ltx_nil]
  | cons y r =>
    unfold ltx
    rw [List.map_cons, Lib.join_cons, List.length_append, Lib.joinTail_length]
    have h1 := itoa_len y (h y (by simp))
    have h2 : ∀ r : List Int, (∀ x ∈ r, x.natAbs ≤ 1000000000000000000) → Lib.lens (r.map itoa) ≤ 20 * r.length := by
      intro r
      induction r with
      | nil => intro _; simp [Lib.lens]
      | cons z r ih =>
        intro hz
        have := ih (fun x hx => hz x (by simp [hx]))
        have := itoa_len z (hz z (by simp))
        simp [Lib.lens] at *
        omega
    have h3 := h2 r (fun x hx => h x (by simp [hx]))
    simp at *
    omega
end Go.Proofs.YtmhkeiccemfpeaaDoor
