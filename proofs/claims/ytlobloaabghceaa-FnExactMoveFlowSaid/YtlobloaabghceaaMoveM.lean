/- Moved registers: plain mathematics. A valid flow whose moved form is good is valid when moved: registers on a path change by the moves' difference at its ends. -/
import Derived.Test.YtlobloaabghceaaFlowF
import Derived.Test.YtlobloaabghceaaMoves
namespace Go.Proofs.Ytlobloaabghceaa
set_option linter.unusedVariables false

def mvC (M F : List Int) (k : Nat) : Int := F.getD (k * 3 + 2) 0 + M.getD (F.getD (k * 3 + 1) 0).toNat 0 - M.getD (F.getD (k * 3) 0).toNat 0
def mvF (M F : List Int) : Nat → List Int
  | 0 => []
  | k + 1 => mvF M F k ++ [F.getD (k * 3) 0, F.getD (k * 3 + 1) 0, mvC M F k]
theorem mvF_len (M F : List Int) : ∀ k, (mvF M F k).length = k * 3
  | 0 => rfl
  | k + 1 => by show (mvF M F k ++ [F.getD (k * 3) 0, F.getD (k * 3 + 1) 0, mvC M F k]).length = _; rw [List.length_append, mvF_len M F k]; simp; omega
theorem getD_left (l r : List Int) (i : Nat) (h : i < l.length) : (l ++ r).getD i 0 = l.getD i 0 := by
  rw [List.getD_eq_getElem?_getD, List.getElem?_append_left h, ← List.getD_eq_getElem?_getD]
theorem getD_right (l r : List Int) (i : Nat) : (l ++ r).getD (l.length + i) 0 = r.getD i 0 := by
  rw [List.getD_eq_getElem?_getD, List.getElem?_append_right (by omega), Nat.add_sub_cancel_left, ← List.getD_eq_getElem?_getD]
theorem mvF_at (M F : List Int) : ∀ n k, k < n → (mvF M F n).getD (k * 3) 0 = F.getD (k * 3) 0 ∧ (mvF M F n).getD (k * 3 + 1) 0 = F.getD (k * 3 + 1) 0 ∧ (mvF M F n).getD (k * 3 + 2) 0 = mvC M F k
  | 0, k, h => absurd h (Nat.not_lt_zero _)
  | n + 1, k, h => by
    have hl := mvF_len M F n
    show (mvF M F n ++ [F.getD (n * 3) 0, F.getD (n * 3 + 1) 0, mvC M F n]).getD _ 0 = _ ∧ (mvF M F n ++ [F.getD (n * 3) 0, F.getD (n * 3 + 1) 0, mvC M F n]).getD _ 0 = _ ∧ (mvF M F n ++ [F.getD (n * 3) 0, F.getD (n * 3 + 1) 0, mvC M F n]).getD _ 0 = _
    by_cases hk : k < n
    · rw [getD_left _ _ _ (by omega), getD_left _ _ _ (by omega), getD_left _ _ _ (by omega)]
      exact mvF_at M F n k hk
    · obtain rfl : k = n := by omega
      have e0 := getD_right (mvF M F k) [F.getD (k * 3) 0, F.getD (k * 3 + 1) 0, mvC M F k] 0
      have e1 := getD_right (mvF M F k) [F.getD (k * 3) 0, F.getD (k * 3 + 1) 0, mvC M F k] 1
      have e2 := getD_right (mvF M F k) [F.getD (k * 3) 0, F.getD (k * 3 + 1) 0, mvC M F k] 2
      rw [hl] at e0 e1 e2
      exact ⟨e0, e1, e2⟩

theorem moved_path {M F : List Int} {nw : Nat} (hc : ∀ k, k < nw → 0 ≤ F.getD (k * 3 + 2) 0) {u v : Int} (h : ZP (mvF M F nw) nw u v) :
    M.getD v.toNat 0 ≤ M.getD u.toNat 0 ∧ (M.getD v.toNat 0 = M.getD u.toNat 0 → ZP F nw u v) := by
  have one : ∀ {a b : Int}, Zw (mvF M F nw) nw a b → M.getD b.toNat 0 ≤ M.getD a.toNat 0 ∧ (M.getD b.toNat 0 = M.getD a.toNat 0 → Zw F nw a b) := by
    rintro a b ⟨k, hk, h1, h2, h3⟩
    obtain ⟨m1, m2, m3⟩ := mvF_at M F nw k hk
    rw [m1] at h1
    rw [m2] at h2
    rw [m3] at h3
    unfold mvC at h3
    rw [h1, h2] at h3
    have := hc k hk
    exact ⟨by omega, fun he => ⟨k, hk, h1, h2, by omega⟩⟩
  induction h with
  | one z => exact ⟨(one z).1, fun he => .one ((one z).2 he)⟩
  | snoc p z ih =>
    have o := one z
    exact ⟨by omega, fun he => .snoc (ih.2 (by omega)) (o.2 (by omega))⟩
theorem moved_acyc {M F : List Int} {nw n : Nat} (hc : ∀ k, k < nw → 0 ≤ F.getD (k * 3 + 2) 0) (h : AcycZ F nw n) : AcycZ (mvF M F nw) nw n := fun v h0 h1 hp => h v h0 h1 ((moved_path hc hp).2 rfl)
/-- what both sides ask of a move -/
def CanMv (ds : List Int) (nw : Nat) (F M : List Int) : Prop := FlowOk ds nw F ∧ M.length = ds.length ∧ movB M = true ∧ formB ds nw (mvF M F nw) = true
theorem canMv_iff {ds : List Int} {nw : Nat} {F M : List Int} (h : FlowOk ds nw F) : formB ds nw (mvF M F nw) = true ↔ FlowOk ds nw (mvF M F nw) :=
  ⟨fun hf => ⟨hf, moved_acyc (fun k hk => ((form_ok h.1).2.2.2.2 k hk).2.2.1) h.2⟩, fun hf => hf.1⟩
/-- the wires while the program changes them in place -/
def mvP (M F : List Int) (k : Nat) : List Int := mvF M F k ++ F.drop (k * 3)
theorem mvP_zero (M F : List Int) : mvP M F 0 = F := by simp [mvP, mvF]
theorem mvP_end (M F : List Int) (n : Nat) (h : F.length = n * 3) : mvP M F n = mvF M F n := by
  unfold mvP; rw [List.drop_eq_nil_of_le (by omega), List.append_nil]
theorem mvP_len (M F : List Int) (n k : Nat) (h : F.length = n * 3) (hk : k ≤ n) : (mvP M F k).length = n * 3 := by
  unfold mvP; rw [List.length_append, mvF_len, List.length_drop]; omega
theorem mvP_get (M F : List Int) (n k : Nat) (h : F.length = n * 3) (hk : k < n) : (mvP M F k).getD (k * 3 + 2) 0 = F.getD (k * 3 + 2) 0 := by
  unfold mvP
  have e := getD_right (mvF M F k) (F.drop (k * 3)) 2
  rw [mvF_len] at e
  rw [e, List.getD_eq_getElem?_getD, List.getElem?_drop, ← List.getD_eq_getElem?_getD]
theorem mvP_set (M F : List Int) (n k : Nat) (h : F.length = n * 3) (hk : k < n) : (mvP M F k).set (k * 3 + 2) (mvC M F k) = mvP M F (k + 1) := by
  have hd : F.drop (k * 3) = F.getD (k * 3) 0 :: F.getD (k * 3 + 1) 0 :: F.getD (k * 3 + 2) 0 :: F.drop ((k + 1) * 3) := by
    rw [List.drop_eq_getElem_cons (by omega), List.drop_eq_getElem_cons (by omega), List.drop_eq_getElem_cons (by omega)]
    simp only [List.getD_eq_getElem?_getD]
    rw [List.getElem?_eq_getElem (by omega), List.getElem?_eq_getElem (by omega), List.getElem?_eq_getElem (by omega)]
    simp only [Option.getD_some]
    rw [show k * 3 + 1 + 1 + 1 = (k + 1) * 3 by omega]
  unfold mvP
  rw [hd, List.set_append_right _ _ (by rw [mvF_len]; omega), mvF_len, show k * 3 + 2 - k * 3 = 2 by omega]
  show mvF M F k ++ (F.getD (k * 3) 0 :: F.getD (k * 3 + 1) 0 :: mvC M F k :: F.drop ((k + 1) * 3)) = (mvF M F k ++ [F.getD (k * 3) 0, F.getD (k * 3 + 1) 0, mvC M F k]) ++ F.drop ((k + 1) * 3)
  simp
end Go.Proofs.Ytlobloaabghceaa
