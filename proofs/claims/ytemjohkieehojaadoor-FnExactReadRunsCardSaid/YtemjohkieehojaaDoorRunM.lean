/- The text of runs: plain lists alone. -/
import Derived.Test.YtemjohkieehojaaDoorDropM2
import Derived.Lib.ItoaLen
import Derived.Lib.ParseIntB
namespace Go.Proofs.YtemjohkieehojaaDoor
open Go.RowKit
set_option linter.unusedVariables false
set_option linter.unusedSimpArgs false

theorem runFold_lenR : ∀ (l : List (Int × Int)) (a : List (Int × Int) × Int × Int), (l.foldl runStep a).1.length ≤ a.1.length + l.length := by
  intro l
  induction l with
  | nil => intro a; simp
  | cons x t ih =>
    intro a
    have h := ih (runStep a x)
    have h2 : (runStep a x).1.length ≤ a.1.length + 1 := by unfold runStep; dsimp only; split <;> simp
    simp only [List.foldl_cons, List.length_cons]; omega
theorem runsL_lenR (s : ByteArray) : (runsL s).length ≤ s.size + 1 := by
  have h := runFold_lenR (chgsL s.data.toList s.size) ([], 0, 48)
  have h2 := chgsL_len s.data.toList s.size
  have h3 : (runsF (chgsL s.data.toList s.size)).1.length ≤ s.size := by unfold runsF; simp at h; omega
  unfold runsL
  split <;> simp <;> omega

def levR (x : Int) : UInt8 := if x = 49 then 49 else 48
def oneR (x : Int × Int) : List UInt8 := [levR x.1, 120] ++ Lib.itoa x.2
def sepR (a : List UInt8) : List UInt8 := if a.isEmpty then [] else [32]
def runT (Y : List (Int × Int)) : List UInt8 := Y.foldl (fun a x => a ++ (sepR a ++ oneR x)) []
theorem runT_snoc (Y : List (Int × Int)) (x : Int × Int) : runT (Y ++ [x]) = runT Y ++ (sepR (runT Y) ++ oneR x) := by simp [runT]
theorem runT_nil : runT [] = [] := rfl
theorem oneR_len (x : Int × Int) : (oneR x).length = 2 + (Lib.itoa x.2).length := by simp [oneR]; omega
theorem runT_pos (Y : List (Int × Int)) (x : Int × Int) : 0 < (runT (Y ++ [x])).length := by
  rw [runT_snoc, List.length_append, List.length_append, oneR_len]; omega
theorem runT_empty (Y : List (Int × Int)) : (runT Y).isEmpty = Y.isEmpty := by
  rcases List.eq_nil_or_concat Y with rfl | ⟨Z, x, rfl⟩
  · rfl
  · rw [List.concat_eq_append]
    have := runT_pos Z x
    cases h : runT (Z ++ [x]) with
    | nil => rw [h] at this; simp at this
    | cons c t => simp
/-- whether parts are over, the tick at which the part under way began tells -/
theorem runs_begun (s : ByteArray) : ∀ k, k ≤ s.size → ((runsF (chgsL s.data.toList k)).1 = [] ∧ (runsF (chgsL s.data.toList k)).2.1 = 0) ∨ ((runsF (chgsL s.data.toList k)).1 ≠ [] ∧ 0 < (runsF (chgsL s.data.toList k)).2.1) := by
  intro k
  induction k with
  | zero => intro _; left; simp [chgsL, runsF]
  | succ k ih =>
    intro hk
    obtain ⟨i1, i2, i3, i4⟩ := runs_inv s k (by omega)
    by_cases hc : (s[k].toNat : Int) = prL s.data.toList k
    · rw [chgsL_miss s k (by omega) hc]; exact ih (by omega)
    · rw [chgsL_hit s k (by omega) hc, runsF_snoc]
      simp only [runStep]
      rcases Nat.eq_zero_or_pos k with h0 | h0
      · left
        subst h0
        have : ¬ (runsF (chgsL s.data.toList 0)).2.1 < ((0 : Nat) : Int) := by omega
        rw [if_neg this]
        exact ⟨by simp [chgsL, runsF], rfl⟩
      · right
        rw [if_pos (i4 h0)]
        exact ⟨by simp, by omega⟩
/-- the level of the part under way is that of its first tick -/
theorem runs_first (s : ByteArray) : ∀ k, k + 1 ≤ s.size → ∃ a : Nat, (runsF (chgsL s.data.toList (k + 1))).2.1 = (a : Int) ∧ a ≤ k ∧ lvL s.data.toList a = prL s.data.toList (k + 1) := by
  intro k
  induction k with
  | zero =>
    intro hk
    refine ⟨0, ?_, Nat.le_refl _, ?_⟩
    · by_cases hc : (s[0].toNat : Int) = prL s.data.toList 0
      · rw [chgsL_miss s 0 (by omega) hc]; simp [chgsL, runsF]
      · rw [chgsL_hit s 0 (by omega) hc, runsF_snoc]; rfl
    · rw [prL_succ s 0 (by omega), lvL_get s 0 (by omega)]
  | succ k ih =>
    intro hk
    obtain ⟨a, h1, h2, h3⟩ := ih (by omega)
    by_cases hc : (s[k + 1].toNat : Int) = prL s.data.toList (k + 1)
    · rw [chgsL_miss s (k + 1) (by omega) hc, prL_succ s (k + 1) (by omega)]
      exact ⟨a, h1, by omega, by rw [h3, hc]⟩
    · rw [chgsL_hit s (k + 1) (by omega) hc, runsF_snoc, prL_succ s (k + 1) (by omega)]
      exact ⟨k + 1, rfl, Nat.le_refl _, lvL_get s (k + 1) (by omega)⟩
theorem runT_bd (Y : List (Int × Int)) (h : ∀ x ∈ Y, 0 ≤ x.2 ∧ x.2 ≤ 400) : (runT Y).length ≤ Y.length * 24 := by
  have one : ∀ (l : List (Int × Int)) (a : List UInt8), (∀ x ∈ l, 0 ≤ x.2 ∧ x.2 ≤ 400) → (l.foldl (fun a x => a ++ (sepR a ++ oneR x)) a).length ≤ a.length + l.length * 24 := by
    intro l
    induction l with
    | nil => intro a _; simp
    | cons x t ih =>
      intro a hx
      have h1 := ih (a ++ (sepR a ++ oneR x)) (fun y hy => hx y (by simp [hy]))
      have h2 := hx x (by simp)
      have h3 := Lib.itoa_length_le x.2 (by omega) (by omega)
      have h4 : (sepR a).length ≤ 1 := by unfold sepR; split <;> simp
      have h5 := oneR_len x
      simp only [List.foldl_cons, List.length_cons]
      simp only [List.length_append] at h1
      omega
  have := one Y [] h
  simpa [runT] using this
/-- behind i ticks, the part under way begins at a, and the text of those that are over is L -/
def RunSt (s : ByteArray) (i a : Nat) (L : List UInt8) : Prop := (i ≤ s.size ∧ (runsF (chgsL s.data.toList i)).2.1 = (a : Int) ∧ a < i ∧ L = runT (runsF (chgsL s.data.toList i)).1) ∨ (i = s.size + 1 ∧ L = runT (runsL s))
theorem RunSt.start (s : ByteArray) (h : 0 < s.size) : RunSt s 1 0 [] := by
  refine .inl ⟨h, ?_, by omega, ?_⟩
  · obtain ⟨a, h1, h2, _⟩ := runs_first s 0 h
    obtain rfl : a = 0 := by omega
    exact h1
  · rcases runs_begun s 1 h with ⟨h1, _⟩ | ⟨_, h2⟩
    · rw [h1]; rfl
    · obtain ⟨a, h1, h3, _⟩ := runs_first s 0 h
      have h1' : (runsF (chgsL s.data.toList 1)).2.1 = (a : Int) := h1
      omega
theorem RunSt.len {s : ByteArray} {i a : Nat} {L : List UInt8} (hall : s.data.toList.all lvlB = true) (hz : s.size ≤ 400) (h : RunSt s i a L) : L.length ≤ 10000 := by
  rcases h with ⟨h1, _, _, rfl⟩ | ⟨_, rfl⟩
  · have h2 := runT_bd (runsF (chgsL s.data.toList i)).1 (fun x hx => by have := (runs_ok s hall i h1).2 x hx; exact ⟨by have := this.2.1; omega, by have := this.2.2; omega⟩)
    have h3 := runFold_lenR (chgsL s.data.toList i) ([], 0, 48)
    have h4 := chgsL_len s.data.toList i
    have h5 : (runsF (chgsL s.data.toList i)).1.length ≤ i := by unfold runsF; simp at h3; omega
    omega
  · have h2 := runT_bd (runsL s) (fun x hx => by have := runsL_ok s hall x hx; exact ⟨by have := this.2.1; omega, by have := this.2.2; omega⟩)
    have h3 := runsL_lenR s
    omega
/-- one tick more: the part goes on, or it is over -/
theorem RunSt.next {s : ByteArray} {i a : Nat} {L : List UInt8} (hall : s.data.toList.all lvlB = true) (h : RunSt s i a L) (hi : 1 ≤ i) (hin : i ≤ s.size) :
    a < i ∧ (∃ (ha : a < s.size), (s[a].toNat : Int) = prL s.data.toList i ∧ (s[a].toNat = 48 ∨ s[a].toNat = 49) ∧
    (∀ (h2 : i < s.size), s[i].toNat = s[a].toNat → RunSt s (i + 1) a L) ∧
    ((∀ (h2 : i < s.size), s[i].toNat ≠ s[a].toNat) → RunSt s (i + 1) i (L ++ (sepR L ++ ([s[a], 120] ++ Lib.itoa ((i : Int) - (a : Int))))))) ∧ L.isEmpty = decide (a = 0) := by
  rcases h with ⟨h1, h2, h3, h4⟩ | ⟨h1, _⟩
  · obtain ⟨k, rfl⟩ : ∃ k, i = k + 1 := ⟨i - 1, by omega⟩
    obtain ⟨a', e1, e2, e3⟩ := runs_first s k hin
    obtain rfl : a' = a := by omega
    have ha : a' < s.size := by omega
    have e4 : (s[a'].toNat : Int) = prL s.data.toList (k + 1) := by rw [← lvL_get s a' ha]; exact e3
    have hp := (runs_ok s hall (k + 1) hin).1
    obtain ⟨i1, i2, i3, i4⟩ := runs_inv s (k + 1) hin
    have hlev : levR (prL s.data.toList (k + 1)) = s[a'] := by
      unfold levR
      rcases hp with q | q
      · rw [if_neg (by omega)]; exact (UInt8.toNat_inj.1 (show s[a'].toNat = 48 by omega)).symm
      · rw [if_pos q]; exact (UInt8.toNat_inj.1 (show s[a'].toNat = 49 by omega)).symm
    refine ⟨h3, ⟨ha, e4, by omega, fun hlt he => ?_, fun hne => ?_⟩, ?_⟩
    · left
      rw [chgsL_miss s (k + 1) hlt (by omega)]
      exact ⟨hlt, h2, by omega, h4⟩
    · by_cases hlt : k + 1 < s.size
      · left
        have hc : ¬ (s[k + 1].toNat : Int) = prL s.data.toList (k + 1) := fun q => hne hlt (by omega)
        rw [chgsL_hit s (k + 1) hlt hc, runsF_snoc]
        simp only [runStep]
        rw [h2, if_pos (by omega), runT_snoc, ← h4, i1]
        refine ⟨hlt, by first | trivial | rfl, by omega, ?_⟩
        unfold oneR
        rw [hlev]
      · right
        have hse : s.size = k + 1 := by omega
        refine ⟨by omega, ?_⟩
        unfold runsL
        rw [hse, h2, if_pos (by omega), runT_snoc, ← h4, i1]
        unfold oneR
        rw [hlev]
    · rw [h4, runT_empty]
      rcases runs_begun s (k + 1) hin with ⟨q1, q2⟩ | ⟨q1, q2⟩
      · rw [q1]; simp; omega
      · cases hY : (runsF (chgsL s.data.toList (k + 1))).1 with
        | nil => exact absurd hY q1
        | cons _ _ => simp; omega
  · omega
end Go.Proofs.YtemjohkieehojaaDoor
