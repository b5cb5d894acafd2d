/- FlowText, on both sides. -/
import Derived.Test.YtmhkeiccemfpeaaDoorDTf
import Derived.Test.YtmhkeiccemfpeaaDoorFlowV
namespace Go.Proofs.YtmhkeiccemfpeaaDoor
open Go.RowKit
set_option linter.unusedVariables false
set_option linter.unusedSimpArgs false
def wrL (F : List Int) : Nat → List UInt8
  | 0 => []
  | k + 1 => if k = 0 then bdF F 0 else wrL F k ++ [44] ++ bdF F k
def wsS (F : List Int) (n : Nat) : List ByteArray := (List.range n).map (fun j => ⟨(bdF F j).toArray⟩)
theorem wsS_len (F : List Int) (n : Nat) : (wsS F n).length = n := by simp [wsS]
theorem wsS_get (F : List Int) (n k : Nat) (h : k < (wsS F n).length) : (wsS F n)[k] = ⟨(bdF F k).toArray⟩ := by simp [wsS]
theorem wsS_getD (F : List Int) (n k : Nat) (h : k < n) : (wsS F n).getD k ByteArray.empty = ⟨(bdF F k).toArray⟩ := by
  rw [← getD_s (by rw [wsS_len]; exact h), wsS_get]
theorem wsS_join (F : List Int) (n : Nat) : ∀ k, k ≤ n → jnL (wsS F n) k = wrL F k
  | 0, _ => by simp [jnL, Lib.join_nil, wrL]
  | k + 1, hk => by
    by_cases h0 : k = 0
    · subst h0
      rw [jnL_one _ (by rw [wsS_len]; omega), wsS_getD F n 0 (by omega), wrL, if_pos rfl]
    · rw [jnL_succ _ k (by omega) (by rw [wsS_len]; omega), wsS_join F n k (by omega), wsS_getD F n k (by omega), wrL, if_neg h0]
def oL (ds F : List Int) (k : Nat) : List UInt8 := ltx ds ++ [47] ++ wrL F k
def flT (ds F : List Int) (n : Nat) : List UInt8 := oL ds F n
theorem o_first (ds F : List Int) : (⟨(oL ds F 1).toArray⟩ : ByteArray) = ⟨(oL ds F 0).toArray⟩ ++ ⟨(bdF F 0).toArray⟩ := by
  rw [bytes_appL]
  unfold oL
  rw [show wrL F 1 = bdF F 0 by rw [wrL, if_pos rfl], show wrL F 0 = [] from rfl]
  simp
theorem o_next (ds F : List Int) (k : Nat) (h : k ≠ 0) : (⟨(oL ds F (k + 1)).toArray⟩ : ByteArray) = (⟨(oL ds F k).toArray⟩ ++ ⟨#[44]⟩) ++ ⟨(bdF F k).toArray⟩ := by
  rw [show (⟨#[44]⟩ : ByteArray) = ⟨([44] : List UInt8).toArray⟩ from rfl, bytes_appL, bytes_appL]
  unfold oL
  rw [wrL, if_neg h]
  simp
theorem fl_at {ds : List Int} {wn : Nat} {F : List Int} (h : FlowOk ds wn F) : 1 ≤ ds.length ∧ ds.length ≤ 8 ∧ wn ≤ 16 ∧ (∀ k, k < ds.length → 0 ≤ ds.getD k 0 ∧ ds.getD k 0 ≤ 100) ∧
    ∀ k, k < wn → (-1000000 ≤ F.getD (k * 3) 0 ∧ F.getD (k * 3) 0 ≤ 1000000) ∧ (-1000000 ≤ F.getD (k * 3 + 1) 0 ∧ F.getD (k * 3 + 1) 0 ≤ 1000000) ∧ (-1000000 ≤ F.getD (k * 3 + 2) 0 ∧ F.getD (k * 3 + 2) 0 ≤ 1000000) := by
  obtain ⟨h1, h2, h3, h4, h5⟩ := form_ok h.1
  refine ⟨h1, h2, h3, fun k hk => by rw [← getD_of hk]; exact h4 k hk, fun k hk => ?_⟩
  obtain ⟨⟨a1, a2⟩, ⟨a3, a4⟩, a5, a6⟩ := h5 k hk
  omega
theorem fl_okT {ds : List Int} {wn : Nat} {F : List Int} (h : FlowOk ds wn F) : okT ds = true ∧ ds ≠ [] := by
  obtain ⟨h1, h2, h3, h4, h5⟩ := fl_at h
  refine ⟨okT_yes ?_ (by omega), by intro e; rw [e] at h1; simp at h1⟩
  rw [List.all_eq_true]
  intro k hk
  have := h4 k (List.mem_range.1 hk)
  unfold inS inV
  exact decide_eq_true (by omega)
theorem bdF_len {ds : List Int} {wn : Nat} {F : List Int} (h : FlowOk ds wn F) (k : Nat) (hk : k < wn) : (bdF F k).length ≤ 65 := by
  obtain ⟨h1, h2, h3⟩ := (fl_at h).2.2.2.2 k hk
  exact bdL_len _ _ _ h1 h2 h3
theorem wrL_len {ds : List Int} {wn : Nat} {F : List Int} (h : FlowOk ds wn F) : ∀ k, k ≤ wn → (wrL F k).length ≤ 66 * k
  | 0, _ => by simp [wrL]
  | k + 1, hk => by
    have h1 := wrL_len h k (by omega)
    have h2 := bdF_len h k (by omega)
    rw [wrL]
    split
    · rename_i h0; rw [h0] at h2; omega
    · simp only [List.length_append, List.length_cons, List.length_nil]; omega
theorem oL_len {ds : List Int} {wn : Nat} {F : List Int} (h : FlowOk ds wn F) (k : Nat) (hk : k ≤ wn) : (oL ds F k).length ≤ 3000 := by
  have h1 := wrL_len h k hk
  have h2 := ltx_take_len (fl_okT h).1 ds.length
  rw [List.take_length] at h2
  have h3 := (fl_at h).2.2.1
  unfold oL
  simp only [List.length_append, List.length_cons, List.length_nil]; omega
end Go.Proofs.YtmhkeiccemfpeaaDoor
