/- Lists filled one after another: zeros behind what is filled. -/
import Derived.Test.YtmhbgpappjfolabInts
namespace Go.Proofs.Ytmhbgpappjfolab
open Go.RowKit
set_option linter.unusedVariables false
def cpyZ (l : List Int) (k : Nat) : List Int := l.take k ++ List.replicate (l.length - k) 0
theorem cpyZ_len (l : List Int) (k : Nat) (hk : k ≤ l.length) : (cpyZ l k).length = l.length := by simp [cpyZ]; omega
theorem cpyZ_end (l : List Int) : cpyZ l l.length = l := by simp [cpyZ]
theorem cpyZ_step (l : List Int) (k : Nat) (hk : k < l.length) : (cpyZ l k).set k l[k] = cpyZ l (k + 1) := by
  unfold cpyZ
  rw [List.set_append, if_neg (by simp; omega)]
  have e : l.length - k = (l.length - (k + 1)) + 1 := by omega
  have ht : (l.take k).length = k := by simp; omega
  rw [ht, Nat.sub_self, e, List.replicate_succ, List.set_cons_zero]
  rw [List.take_succ_eq_append_getElem hk, List.append_assoc]
  rfl
theorem zeros_listZ (n : Nat) : (Go.madeCells #[Value.int .i64 0] n).toList = (List.replicate n (0 : Int)).map (Value.int .i64) := by
  apply List.ext_getElem
  · simp [Go.madeCells]
  · intro i h1 h2; simp [Go.madeCells, Nat.mod_one]
theorem cell_ofZ {w : World} {B b n cap k : Nat} {l : List Int} (h : Ints w B (.slice (some ⟨b, 0, none⟩) n cap) (cpyZ l k)) (hk : k < l.length) (hk2 : k ≤ l.length) : ∃ x : Value, w.cell? ⟨b, k, none⟩ = some x ∧ w.frozen? ⟨b, k, none⟩ = false := by
  obtain ⟨a', cap', hv, _, kk⟩ := h.form
  simp only [Value.slice.injEq] at hv
  obtain ⟨g', hg', _, hgs, hcell, hfr⟩ := kk k (by rw [cpyZ_len l k hk2]; exact hk)
  obtain ⟨rfl, -, rfl⟩ := hv
  simp only [Option.some.injEq, Addr.mk.injEq, and_true] at hg'
  subst hg'
  exact ⟨_, hcell, hfr⟩
end Go.Proofs.Ytmhbgpappjfolab
