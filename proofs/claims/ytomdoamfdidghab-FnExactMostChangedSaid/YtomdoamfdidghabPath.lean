/- The places of a walk: plain mathematics. -/
namespace Go.Proofs.Ytomdoamfdidghab
set_option linter.unusedVariables false
def nx (N : List Int) (x : Int) : Int := N.getD x.toNat 0
def itr (N : List Int) (x : Int) : Nat → Int
  | 0 => x
  | k + 1 => nx N (itr N x k)
def pth (N : List Int) (x : Int) (k : Nat) : List Int := (List.range k).map (itr N x)
theorem pth_zero (N : List Int) (x : Int) : pth N x 0 = [] := rfl
theorem pth_succ (N : List Int) (x : Int) (k : Nat) : pth N x (k + 1) = pth N x k ++ [itr N x k] := by simp [pth, List.range_succ]
theorem pth_length (N : List Int) (x : Int) (k : Nat) : (pth N x k).length = k := by simp [pth]
theorem pth_get (N : List Int) (x : Int) (k i : Nat) (h : i < k) : (pth N x k)[i]'(by rw [pth_length]; exact h) = itr N x i := by simp [pth]
theorem pth_mem (N : List Int) (x v : Int) (k : Nat) : v ∈ pth N x k ↔ ∃ i, i < k ∧ itr N x i = v := by simp [pth]
def InN (N : List Int) : Prop := ∀ v ∈ N, 0 ≤ v ∧ v < (N.length : Int)
theorem nx_in {N : List Int} (h : InN N) {x : Int} (hx : 0 ≤ x ∧ x < (N.length : Int)) : 0 ≤ nx N x ∧ nx N x < (N.length : Int) := by
  unfold nx
  have hl : x.toNat < N.length := by omega
  rw [List.getD_eq_getElem?_getD, List.getElem?_eq_getElem hl]
  exact h _ (List.getElem_mem hl)
theorem itr_in {N : List Int} (h : InN N) {x : Int} (hx : 0 ≤ x ∧ x < (N.length : Int)) : ∀ k, 0 ≤ itr N x k ∧ itr N x k < (N.length : Int)
  | 0 => hx
  | k + 1 => nx_in h (itr_in h hx k)
theorem nodup_le : ∀ (n : Nat) (l : List Int), l.Nodup → (∀ v ∈ l, 0 ≤ v ∧ v < (n : Int)) → l.length ≤ n
  | 0, l, _, h => by
    cases l with
    | nil => simp
    | cons a l => have := h a (by simp); omega
  | n + 1, l, hn, h => by
    have h1 := nodup_le n (l.erase (n : Int)) (hn.erase _) (fun v hv => by
      have hv2 := (hn.mem_erase_iff).1 hv
      have := h v hv2.2
      have : v ≠ (n : Int) := hv2.1
      omega)
    have h2 := List.length_erase (a := (n : Int)) (l := l)
    split at h2 <;> omega
def Stop (N : List Int) (x : Int) (k : Nat) : Prop := (pth N x k).Nodup ∧ itr N x k ∈ pth N x k
theorem pth_nodup_ne {N : List Int} {x : Int} {k i j : Nat} (h : (pth N x k).Nodup) (hij : i < j) (hj : j < k) : itr N x i ≠ itr N x j := by
  have h1 := List.pairwise_iff_getElem.1 h i j (by rw [pth_length]; omega) (by rw [pth_length]; omega) hij
  rwa [pth_get _ _ _ _ (by omega), pth_get _ _ _ _ hj] at h1
theorem stop_lt {N : List Int} {x : Int} {k k' : Nat} (h : Stop N x k) (h' : Stop N x k') : ¬ k < k' := by
  intro hlt
  obtain ⟨i, hi, e⟩ := (pth_mem ..).1 h.2
  exact pth_nodup_ne h'.1 hi hlt e
theorem stop_unique {N : List Int} {x : Int} {k k' : Nat} (h : Stop N x k) (h' : Stop N x k') : k = k' := by
  have := stop_lt h h'; have := stop_lt h' h; omega
theorem pth_nodup_succ {N : List Int} {x : Int} {k : Nat} (h : (pth N x k).Nodup) (hn : itr N x k ∉ pth N x k) : (pth N x (k + 1)).Nodup := by
  rw [pth_succ, List.nodup_append]
  exact ⟨h, by simp, fun a ha b hb => by simp at hb; rw [hb]; exact fun e => hn (e ▸ ha)⟩
theorem pth_le {N : List Int} (h : InN N) {x : Int} (hx : 0 ≤ x ∧ x < (N.length : Int)) {k : Nat} (hn : (pth N x k).Nodup) : k ≤ N.length := by
  have := nodup_le N.length _ hn (fun v hv => by
    obtain ⟨i, _, rfl⟩ := (pth_mem ..).1 hv
    exact itr_in h hx i)
  rwa [pth_length] at this
/-- where a path is met again -/
theorem stop_tail {N : List Int} {x : Int} {k : Nat} (h : Stop N x k) : ∃ t, t < k ∧ itr N x t = itr N x k ∧ (pth N x k).idxOf (itr N x k) = t := by
  have hl : (pth N x k).idxOf (itr N x k) < (pth N x k).length := List.idxOf_lt_length_iff.2 h.2
  refine ⟨_, by rwa [pth_length] at hl, ?_, rfl⟩
  have := List.getElem_idxOf hl
  rwa [pth_get _ _ _ _ (by rwa [pth_length] at hl)] at this
end Go.Proofs.Ytomdoamfdidghab
