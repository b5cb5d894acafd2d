/- Waves without short parts: plain lists alone. -/
import Derived.Test.YtemjohkieehojaaDoorRunsP
namespace Go.Proofs.YtemjohkieehojaaDoor
open Go.RowKit
set_option linter.unusedVariables false
set_option linter.unusedSimpArgs false

/-- the level that a part gets, where parts with the level c that are shorter than t get the other one -/
def outLev (c t : Int) (x : Int × Int) : UInt8 := if x.1 = c ∧ x.2 < t then (if x.1 = 49 then 48 else 49) else (if x.1 = 49 then 49 else 48)
def partsT (c t : Int) (Y : List (Int × Int)) : List UInt8 := (Y.map (fun x => List.replicate x.2.toNat (outLev c t x))).flatten
theorem partsT_snoc (c t : Int) (Y : List (Int × Int)) (x : Int × Int) : partsT c t (Y ++ [x]) = partsT c t Y ++ List.replicate x.2.toNat (outLev c t x) := by simp [partsT]
/-- is the tick j in a part, of those with first tick and end told, that lasts t ticks -/
def hitP (t : Int) (ps : List (Int × Int)) (j : Int) : Bool := ps.any (fun p => decide (p.1 ≤ j ∧ j < p.2 ∧ t ≤ p.2 - p.1))
def paintP (t : Int) (m : Nat) (ps : List (Int × Int)) : List UInt8 := (List.range m).map (fun j : Nat => if hitP t ps (j : Int) then 49 else 48)
theorem hitP_snoc (t : Int) (ps : List (Int × Int)) (p : Int × Int) (j : Int) : hitP t (ps ++ [p]) j = (hitP t ps j || decide (p.1 ≤ j ∧ j < p.2 ∧ t ≤ p.2 - p.1)) := by simp [hitP]
theorem hitP_past (t : Int) (ps : List (Int × Int)) (a j : Int) (h : ∀ p ∈ ps, p.2 ≤ a) (hj : a ≤ j) : hitP t ps j = false := by
  unfold hitP
  rw [List.any_eq_false]
  intro p hp
  have := h p hp
  simp only [decide_eq_true_eq]
  omega
theorem map_split (f g : Nat → UInt8) (v : UInt8) (a k : Nat) (hak : a ≤ k) (h1 : ∀ j, j < a → f j = g j) (h2 : ∀ j, a ≤ j → j < k → f j = v) :
    (List.range k).map f = (List.range a).map g ++ List.replicate (k - a) v := by
  apply List.ext_getElem
  · simp; omega
  · intro i hi1 hi2
    simp only [List.getElem_map, List.getElem_range]
    by_cases hia : i < a
    · rw [List.getElem_append_left (by simpa using hia)]
      simp [h1 i hia]
    · rw [List.getElem_append_right (by simpa using hia)]
      simp only [List.getElem_replicate]
      exact h2 i (by omega) (by simpa using hi1)
theorem paint_rest (t : Int) (a k : Nat) (hak : a ≤ k) (ps : List (Int × Int)) (h : ∀ p ∈ ps, p.2 ≤ (a : Int)) : paintP t k ps = paintP t a ps ++ List.replicate (k - a) 48 := by
  unfold paintP
  refine map_split _ _ _ a k hak (fun j _ => rfl) (fun j h1 h2 => ?_)
  rw [hitP_past t ps a j h (by omega)]; rfl
theorem paint_one (t : Int) (a k : Nat) (hak : a ≤ k) (ps : List (Int × Int)) (h : ∀ p ∈ ps, p.2 ≤ (a : Int)) :
    paintP t k (ps ++ [((a : Int), (k : Int))]) = paintP t a ps ++ List.replicate (k - a) (if (k : Int) - (a : Int) < t then 48 else 49) := by
  unfold paintP
  refine map_split _ _ _ a k hak (fun j hj => ?_) (fun j h1 h2 => ?_)
  · rw [hitP_snoc]
    have : decide ((a : Int) ≤ (j : Int) ∧ (j : Int) < (k : Int) ∧ t ≤ (k : Int) - (a : Int)) = false := by simp; omega
    simp only [this, Bool.or_false]
  · rw [hitP_snoc, hitP_past t ps a j h (by omega), Bool.false_or]
    by_cases hk : (k : Int) - (a : Int) < t
    · rw [if_pos hk, if_neg (by simp only [decide_eq_true_eq]; omega)]
    · rw [if_neg hk, if_pos (by simp only [decide_eq_true_eq]; omega)]

theorem runs_inv (s : ByteArray) : ∀ k, k ≤ s.size → (runsF (chgsL s.data.toList k)).2.2 = prL s.data.toList k ∧ 0 ≤ (runsF (chgsL s.data.toList k)).2.1 ∧ (runsF (chgsL s.data.toList k)).2.1 ≤ (k : Int) ∧ (0 < k → (runsF (chgsL s.data.toList k)).2.1 < (k : Int)) := by
  intro k
  induction k with
  | zero => intro _; simp [chgsL, runsF, prL]
  | succ k ih =>
    intro hk
    obtain ⟨i1, i2, i3, i4⟩ := ih (by omega)
    rw [prL_succ s k (by omega)]
    by_cases hc : (s[k].toNat : Int) = prL s.data.toList k
    · rw [chgsL_miss s k (by omega) hc]
      exact ⟨by rw [i1, hc], i2, by omega, fun _ => by omega⟩
    · rw [chgsL_hit s k (by omega) hc, runsF_snoc]
      simp only [runStep]
      exact ⟨trivial, by omega, by omega, fun _ => by omega⟩

/-- what holds behind k ticks: the text of the parts that are over is painted by the pulses that are over -/
def DropI (s : ByteArray) (t : Int) (k : Nat) : Prop :=
  ∃ (a : Nat) (us : List Int), (runsF (chgsL s.data.toList k)).2.1 = (a : Int) ∧ us.length = (edgesL 48 s.data.toList k).length ∧
    edgesL 49 s.data.toList k = us ++ (if prL s.data.toList k = 49 then [(a : Int)] else []) ∧
    partsT 49 t (runsF (chgsL s.data.toList k)).1 = paintP t a (us.zip (edgesL 48 s.data.toList k)) ∧ ∀ p ∈ us.zip (edgesL 48 s.data.toList k), p.2 ≤ (a : Int)
theorem dropI (s : ByteArray) (t : Int) (hall : s.data.toList.all lvlB = true) : ∀ k, k ≤ s.size → DropI s t k := by
  intro k
  induction k with
  | zero => intro _; exact ⟨0, [], by simp [chgsL, runsF], by simp [edgesL], by simp [edgesL, prL], by simp [chgsL, runsF, partsT, paintP], by simp⟩
  | succ k ih =>
    intro hk
    have hlt : k < s.size := by omega
    have hlv : lvlB s[k] = true := List.all_eq_true.1 hall s[k] (by simp [ByteArray.getElem_eq_getElem_data])
    have hl : (s[k].toNat : Int) = 48 ∨ (s[k].toNat : Int) = 49 := by simpa [lvlB] using hlv
    obtain ⟨a, us, h1, h2, h3, h4, h5⟩ := ih (by omega)
    obtain ⟨i1, i2, i3, i4⟩ := runs_inv s k (by omega)
    have hak : a ≤ k := by omega
    by_cases hc : (s[k].toNat : Int) = prL s.data.toList k
    · unfold DropI
      rw [chgsL_miss s k hlt hc, prL_succ s k hlt, hc]
      rw [edgesL_miss 49 s k hlt (by omega), edgesL_miss 48 s k hlt (by omega)]
      exact ⟨a, us, h1, h2, h3, h4, h5⟩
    · have hp : prL s.data.toList k = 48 ∨ prL s.data.toList k = 49 := by
        cases k with
        | zero => exact .inl rfl
        | succ j =>
          rw [prL_succ s j (by omega)]
          have hlv : lvlB s[j] = true := List.all_eq_true.1 hall s[j] (by simp [ByteArray.getElem_eq_getElem_data])
          simpa [lvlB] using hlv
      unfold DropI
      rw [chgsL_hit s k hlt hc, prL_succ s k hlt, runsF_snoc]
      rcases hp with hp | hp
      · have e9 : (s[k].toNat : Int) = 49 := by omega
        rw [edgesL_hit 49 s k hlt e9 (by omega), edgesL_miss 48 s k hlt (by omega), e9]
        rw [if_neg (by omega), List.append_nil] at h3
        refine ⟨k, us, rfl, h2, by rw [h3, if_pos rfl], ?_, fun p hp => by have := h5 p hp; omega⟩
        simp only [runStep]
        rw [h1]
        by_cases hst : (a : Int) < (k : Int)
        · rw [if_pos hst, partsT_snoc, h4, paint_rest t a k hak _ h5]
          congr 1
          have e1 : ((k : Int) - (a : Int)).toNat = k - a := by omega
          rw [e1]
          congr 1
          simp only [outLev, i1, hp]
          simp
        · obtain rfl : a = k := by omega
          rw [if_neg hst, h4]
      · have e8 : (s[k].toNat : Int) = 48 := by omega
        have hk0 : 0 < k := by
          rcases Nat.eq_zero_or_pos k with rfl | h0
          · simp [prL] at hp
          · exact h0
        have hst : (a : Int) < (k : Int) := by have := i4 hk0; omega
        rw [edgesL_miss 49 s k hlt (by omega), edgesL_hit 48 s k hlt e8 (by omega), e8]
        rw [if_pos hp] at h3
        refine ⟨k, us ++ [(a : Int)], rfl, by simp [h2], by rw [h3]; simp, ?_, ?_⟩
        · simp only [runStep]
          rw [h1, if_pos hst, partsT_snoc, h4, List.zip_append h2]
          simp only [List.zip_cons_cons, List.zip_nil_right]
          rw [paint_one t a k hak _ h5]
          congr 1
          have e1 : ((k : Int) - (a : Int)).toNat = k - a := by omega
          rw [e1]
          congr 1
          simp only [outLev, i1, hp]
          by_cases hkt : (k : Int) - (a : Int) < t <;> simp [hkt]
        · rw [List.zip_append h2]
          intro p hp'
          rcases List.mem_append.1 hp' with hp' | hp'
          · have := h5 p hp'; omega
          · simp at hp'; subst hp'; exact Int.le_refl _
theorem drop_end (s : ByteArray) (t : Int) (n : Nat) (hn : n = s.size) (hall : s.data.toList.all lvlB = true) (us ds : List Int) (hus : us = edgesL 49 s.data.toList n) (hds : ds = edgesL 48 s.data.toList n) :
    partsT 49 t (runsL s) = paintP t n (us.zip (if ds.length < us.length then ds ++ [(n : Int)] else ds)) := by
  subst hn hus hds
  obtain ⟨a, us, h1, h2, h3, h4, h5⟩ := dropI s t hall s.size (Nat.le_refl _)
  obtain ⟨i1, i2, i3, i4⟩ := runs_inv s s.size (Nat.le_refl _)
  have hak : a ≤ s.size := by omega
  unfold runsL
  rw [h1]
  have e1 : ((s.size : Int) - (a : Int)).toNat = s.size - a := by omega
  by_cases hp : prL s.data.toList s.size = 49
  · have hk0 : 0 < s.size := by
      rcases Nat.eq_zero_or_pos s.size with h0 | h0
      · rw [h0] at hp; simp [prL] at hp
      · exact h0
    have hst : (a : Int) < (s.size : Int) := by have := i4 hk0; omega
    rw [if_pos hp] at h3
    rw [if_pos hst, partsT_snoc, h4, h3, if_pos (by simp; omega), List.zip_append h2]
    simp only [List.zip_cons_cons, List.zip_nil_right]
    rw [paint_one t a s.size hak _ h5]
    congr 1
    rw [e1]
    congr 1
    simp only [outLev, i1, hp]
    by_cases hkt : (s.size : Int) - (a : Int) < t <;> simp [hkt]
  · rw [if_neg hp, List.append_nil] at h3
    rw [h3, if_neg (show ¬ (edgesL 48 s.data.toList s.size).length < us.length by omega)]
    rw [paint_rest t a s.size hak _ h5]
    by_cases hst : (a : Int) < (s.size : Int)
    · rw [if_pos hst, partsT_snoc, h4]
      congr 1
      rw [e1]
      congr 1
      simp only [outLev, i1]
      rw [if_neg (by omega), if_neg hp]
    · obtain rfl : a = s.size := by omega
      rw [if_neg hst, h4]
      simp
end Go.Proofs.YtemjohkieehojaaDoor
