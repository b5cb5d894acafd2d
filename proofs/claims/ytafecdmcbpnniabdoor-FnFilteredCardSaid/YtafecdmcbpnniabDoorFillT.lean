/- A wave without what is ahead of its first pulse and behind its last one; plain lists alone. -/
import Derived.Test.YtafecdmcbpnniabDoorDropM2
import Derived.Test.YtafecdmcbpnniabDoorPulW
import Derived.Lib.TrimByte
import Derived.Lib.IndexMore
/- Waves without short gaps: plain lists alone. -/
namespace Go.Proofs.YtafecdmcbpnniabDoor
open Go.RowKit
set_option linter.unusedVariables false
set_option linter.unusedSimpArgs false

/-- is the tick j in a part, of those with first tick and end told, that lasts less than t ticks -/
def hitS (t : Int) (ps : List (Int × Int)) (j : Int) : Bool := ps.any (fun p => decide (p.1 ≤ j ∧ j < p.2 ∧ p.2 - p.1 < t))
def fillP (t : Int) (l : List UInt8) (m : Nat) (ps : List (Int × Int)) : List UInt8 := (List.range m).map (fun j : Nat => if hitS t ps (j : Int) then 49 else l.getD j 0)
theorem hitS_snoc (t : Int) (ps : List (Int × Int)) (p : Int × Int) (j : Int) : hitS t (ps ++ [p]) j = (hitS t ps j || decide (p.1 ≤ j ∧ j < p.2 ∧ p.2 - p.1 < t)) := by simp [hitS]
theorem hitS_past (t : Int) (ps : List (Int × Int)) (a j : Int) (h : ∀ p ∈ ps, p.2 ≤ a) (hj : a ≤ j) : hitS t ps j = false := by
  unfold hitS
  rw [List.any_eq_false]
  intro p hp
  have := h p hp
  simp only [decide_eq_true_eq]
  omega
theorem getD_of_lv {l : List UInt8} {j : Nat} {c : UInt8} (h : lvL l j = (c.toNat : Int)) : l.getD j 0 = c := by
  unfold lvL at h
  exact UInt8.toNat_inj.1 (by omega)
theorem fill_rest (t : Int) (l : List UInt8) (c : UInt8) (a k : Nat) (hak : a ≤ k) (ps : List (Int × Int)) (h : ∀ p ∈ ps, p.2 ≤ (a : Int)) (hl : ∀ j, a ≤ j → j < k → lvL l j = (c.toNat : Int)) : fillP t l k ps = fillP t l a ps ++ List.replicate (k - a) c := by
  unfold fillP
  refine map_split _ _ _ a k hak (fun j _ => rfl) (fun j h1 h2 => ?_)
  rw [hitS_past t ps a j h (by omega), getD_of_lv (hl j h1 h2)]; rfl
theorem fill_one (t : Int) (l : List UInt8) (a k : Nat) (hak : a ≤ k) (ps : List (Int × Int)) (h : ∀ p ∈ ps, p.2 ≤ (a : Int)) (hl : ∀ j, a ≤ j → j < k → lvL l j = 48) :
    fillP t l k (ps ++ [((a : Int), (k : Int))]) = fillP t l a ps ++ List.replicate (k - a) (if (k : Int) - (a : Int) < t then 49 else 48) := by
  unfold fillP
  refine map_split _ _ _ a k hak (fun j hj => ?_) (fun j h1 h2 => ?_)
  · rw [hitS_snoc]
    have : decide ((a : Int) ≤ (j : Int) ∧ (j : Int) < (k : Int) ∧ (k : Int) - (a : Int) < t) = false := decide_eq_false (by omega)
    simp only [this, Bool.or_false]
  · rw [hitS_snoc, hitS_past t ps a j h (by omega), Bool.false_or, getD_of_lv (c := 48) (hl j h1 h2)]
    by_cases hk : (k : Int) - (a : Int) < t
    · rw [if_pos hk, if_pos (by simp only [decide_eq_true_eq]; omega)]
    · rw [if_neg hk, if_neg (by simp only [decide_eq_true_eq]; omega)]

/-- what holds behind k ticks of a wave that begins with the level 1 -/
def FillI (u : ByteArray) (t : Int) (k : Nat) : Prop :=
  ∃ (a : Nat) (ds us : List Int), (runsF (chgsL u.data.toList k)).2.1 = (a : Int) ∧ a < k ∧ edgesL 49 u.data.toList k = 0 :: us ∧
    edgesL 48 u.data.toList k = ds ++ (if prL u.data.toList k = 48 then [(a : Int)] else []) ∧ ds.length = us.length ∧
    partsT 48 t (runsF (chgsL u.data.toList k)).1 = fillP t u.data.toList a (ds.zip us) ∧ (∀ p ∈ ds.zip us, p.2 ≤ (a : Int)) ∧
    ∀ j, a ≤ j → j < k → lvL u.data.toList j = prL u.data.toList k
theorem fillI (u : ByteArray) (t : Int) (hall : u.data.toList.all lvlB = true) (h0 : 0 < u.size) (h49 : (u[0].toNat : Int) = 49) : ∀ k, k + 1 ≤ u.size → FillI u t (k + 1) := by
  intro k
  induction k with
  | zero =>
    intro _
    have hc : ¬ (u[0].toNat : Int) = prL u.data.toList 0 := by rw [h49]; simp [prL]
    refine ⟨0, [], [], ?_, by omega, ?_, ?_, rfl, ?_, by simp, ?_⟩
    · rw [chgsL_hit u 0 h0 hc]; simp [chgsL, runsF, runStep]
    · rw [edgesL_hit 49 u 0 h0 h49 (by simp [prL])]; simp [edgesL]
    · rw [edgesL_miss 48 u 0 h0 (by omega), prL_succ u 0 h0, h49]; simp [edgesL]
    · rw [chgsL_hit u 0 h0 hc]; simp [chgsL, runsF, runStep, partsT, fillP]
    · intro j h1 h2
      obtain rfl : j = 0 := by omega
      rw [prL_succ u 0 h0, lvL_get u 0 h0]
  | succ k ih =>
    intro hk
    have hlt : k + 1 < u.size := by omega
    have hlv : lvlB u[k + 1] = true := List.all_eq_true.1 hall u[k + 1] (by simp [ByteArray.getElem_eq_getElem_data])
    have hl : (u[k + 1].toNat : Int) = 48 ∨ (u[k + 1].toNat : Int) = 49 := by simpa [lvlB] using hlv
    have hlvk : lvlB u[k] = true := List.all_eq_true.1 hall u[k] (by simp [ByteArray.getElem_eq_getElem_data])
    have hp : prL u.data.toList (k + 1) = 48 ∨ prL u.data.toList (k + 1) = 49 := by rw [prL_succ u k (by omega)]; simpa [lvlB] using hlvk
    obtain ⟨a, ds, us, h1, hak, h2, h3, h4, h5, h6, h7⟩ := ih (by omega)
    obtain ⟨i1, i2, i3, i4⟩ := runs_inv u (k + 1) (by omega)
    by_cases hc : (u[k + 1].toNat : Int) = prL u.data.toList (k + 1)
    · unfold FillI
      rw [chgsL_miss u (k + 1) hlt hc, prL_succ u (k + 1) hlt]
      rw [edgesL_miss 49 u (k + 1) hlt (by omega), edgesL_miss 48 u (k + 1) hlt (by omega)]
      refine ⟨a, ds, us, h1, by omega, h2, by rw [hc]; exact h3, h4, h5, h6, fun j j1 j2 => ?_⟩
      by_cases e : j = k + 1
      · subst e; exact lvL_get u _ hlt
      · rw [hc]; exact h7 j j1 (by omega)
    · unfold FillI
      rw [chgsL_hit u (k + 1) hlt hc, prL_succ u (k + 1) hlt, runsF_snoc]
      have hst : (a : Int) < ((k + 1 : Nat) : Int) := by omega
      have e1 : (((k + 1 : Nat) : Int) - (a : Int)).toNat = k + 1 - a := by omega
      have hj : ∀ j, k + 1 ≤ j → j < k + 1 + 1 → lvL u.data.toList j = (u[k + 1].toNat : Int) := fun j j1 j2 => by
        obtain rfl : j = k + 1 := by omega
        exact lvL_get u _ hlt
      rcases hp with hp | hp
      · have e9 : (u[k + 1].toNat : Int) = 49 := by omega
        rw [edgesL_hit 49 u (k + 1) hlt e9 (by omega), edgesL_miss 48 u (k + 1) hlt (by omega), h2, h3, if_pos hp, e9]
        refine ⟨k + 1, ds ++ [(a : Int)], us ++ [((k + 1 : Nat) : Int)], rfl, by omega, rfl, by simp, by simp [h4], ?_, ?_, by rw [e9] at hj; exact hj⟩
        · simp only [runStep]
          rw [h1, if_pos hst, partsT_snoc, h5, List.zip_append h4]
          simp only [List.zip_cons_cons, List.zip_nil_right]
          rw [fill_one t _ a (k + 1) (by omega) _ h6 (fun j j1 j2 => by rw [h7 j j1 j2, hp])]
          congr 1
          rw [e1]
          congr 1
          simp only [outLev, i1, hp]
          by_cases hkt : ((k + 1 : Nat) : Int) - (a : Int) < t
          · rw [if_pos ⟨trivial, hkt⟩, if_pos hkt]; rfl
          · rw [if_neg (fun h => hkt h.2), if_neg hkt]; rfl
        · rw [List.zip_append h4]
          intro p hp'
          rcases List.mem_append.1 hp' with hp' | hp'
          · have := h6 p hp'; omega
          · simp at hp'; subst hp'; exact Int.le_refl _
      · have e8 : (u[k + 1].toNat : Int) = 48 := by omega
        rw [edgesL_miss 49 u (k + 1) hlt (by omega), edgesL_hit 48 u (k + 1) hlt e8 (by omega), h2, h3, if_neg (by omega), e8]
        refine ⟨k + 1, ds, us, rfl, by omega, rfl, by simp, h4, ?_, fun p hp' => by have := h6 p hp'; omega, by rw [e8] at hj; exact hj⟩
        simp only [runStep]
        rw [h1, if_pos hst, partsT_snoc, h5, fill_rest t _ 49 a (k + 1) (by omega) _ h6 (fun j j1 j2 => by rw [h7 j j1 j2, hp]; rfl)]
        congr 1
        rw [e1]
        congr 1
        simp only [outLev, i1, hp]
        simp
theorem fill_end (u : ByteArray) (t : Int) (hall : u.data.toList.all lvlB = true) (h0 : 0 < u.size) (h49 : (u[0].toNat : Int) = 49) (hlast : prL u.data.toList u.size = 49) :
    partsT 48 t (runsL u) = fillP t u.data.toList u.size ((edgesL 48 u.data.toList u.size).zip (edgesL 49 u.data.toList u.size).tail) ∧ (edgesL 48 u.data.toList u.size).length = (edgesL 49 u.data.toList u.size).tail.length ∧ 0 < (edgesL 49 u.data.toList u.size).length := by
  obtain ⟨k, hk⟩ : ∃ k, u.size = k + 1 := ⟨u.size - 1, by omega⟩
  have hI := fillI u t hall h0 h49 k (by omega)
  rw [← hk] at hI
  obtain ⟨a, ds, us, h1, hak, h2, h3, h4, h5, h6, h7⟩ := hI
  obtain ⟨i1, i2, i3, i4⟩ := runs_inv u u.size (Nat.le_refl _)
  rw [if_neg (by omega), List.append_nil] at h3
  rw [h2, h3]
  refine ⟨?_, by simpa using h4, by simp⟩
  unfold runsL
  rw [h1, if_pos (by omega), partsT_snoc, h5, List.tail_cons, fill_rest t _ 49 a u.size (by omega) _ h6 (fun j j1 j2 => by rw [h7 j j1 j2, hlast]; rfl)]
  congr 1
  rw [show ((u.size : Int) - (a : Int)).toNat = u.size - a by omega]
  congr 1
  simp only [outLev, i1, hlast]
  simp

-- a wave with parts of the level 0 ahead and behind
section
variable {b T e : List UInt8}
theorem lv_b (hb : ∀ x ∈ b, x = 48) (i : Nat) (hi : i < b.length) : lvL (b ++ (T ++ e)) i = 48 := by
  unfold lvL
  rw [List.getD_eq_getElem?_getD, List.getElem?_append_left hi, List.getElem?_eq_getElem hi, Option.getD_some, hb _ (List.getElem_mem hi)]; rfl
theorem lv_T (i : Nat) (hi : i < T.length) : lvL (b ++ (T ++ e)) (b.length + i) = lvL T i := by
  unfold lvL
  rw [List.getD_eq_getElem?_getD, List.getElem?_append_right (by omega), Nat.add_sub_cancel_left, List.getElem?_append_left hi, ← List.getD_eq_getElem?_getD]
theorem lv_e (he : ∀ x ∈ e, x = 48) (i : Nat) (hi : i < e.length) : lvL (b ++ (T ++ e)) (b.length + T.length + i) = 48 := by
  unfold lvL
  rw [List.getD_eq_getElem?_getD, List.getElem?_append_right (by omega), List.getElem?_append_right (by omega), show b.length + T.length + i - b.length - T.length = i by omega, List.getElem?_eq_getElem hi, Option.getD_some, he _ (List.getElem_mem hi)]; rfl
theorem pr_b (hb : ∀ x ∈ b, x = 48) (i : Nat) (hi : i ≤ b.length) : prL (b ++ (T ++ e)) i = 48 := by
  unfold prL
  split
  · rfl
  · exact lv_b hb _ (by omega)
theorem pr_T (hb : ∀ x ∈ b, x = 48) (i : Nat) (hi : i < T.length) : prL (b ++ (T ++ e)) (b.length + i) = prL T i := by
  cases i with
  | zero => rw [Nat.add_zero, pr_b hb _ (Nat.le_refl _)]; rfl
  | succ i =>
    unfold prL
    rw [if_neg (by omega), if_neg (by omega), show b.length + (i + 1) - 1 = b.length + i by omega, Nat.add_sub_cancel]
    exact lv_T i (by omega)
theorem edges_at (to : Int) (hb : ∀ x ∈ b, x = 48) (hto : to = 48 ∨ to = 49) : edgesL to (b ++ (T ++ e)) (b.length + T.length) = (edgesL to T T.length).map (fun x => x + (b.length : Int)) := by
  unfold edgesL
  rw [List.range_add, List.filter_append, List.map_append]
  have h1 : (List.range b.length).filter (fun i => lvL (b ++ (T ++ e)) i == to && prL (b ++ (T ++ e)) i != to) = [] := by
    rw [List.filter_eq_nil_iff]
    intro i hi
    rw [List.mem_range] at hi
    rw [lv_b hb i hi, pr_b hb i (by omega)]
    rcases hto with rfl | rfl <;> decide
  rw [h1, List.filter_map, List.map_map, List.map_map, List.map_nil, List.nil_append]
  have h2 : (List.range T.length).filter ((fun i => lvL (b ++ (T ++ e)) i == to && prL (b ++ (T ++ e)) i != to) ∘ fun x => b.length + x) = (List.range T.length).filter (fun i => lvL T i == to && prL T i != to) := by
    apply List.filter_congr
    intro i hi
    rw [List.mem_range] at hi
    simp only [Function.comp]
    rw [lv_T i hi, pr_T hb i hi]
  rw [h2]
  apply List.map_congr_left
  intro i _
  simp only [Function.comp]
  omega
theorem edges_end (to : Int) (he : ∀ x ∈ e, x = 48) (hT : 0 < T.length) (hl : prL T T.length = 49) (hto : to = 48 ∨ to = 49) : edgesL to (b ++ (T ++ e)) (b.length + T.length + e.length) = edgesL to (b ++ (T ++ e)) (b.length + T.length) ++ (if to = 48 ∧ 0 < e.length then [((b.length + T.length : Nat) : Int)] else []) := by
  have hp : ∀ i, i < e.length → prL (b ++ (T ++ e)) (b.length + T.length + i) = if i = 0 then 49 else 48 := by
    intro i hi
    unfold prL
    rw [if_neg (by omega)]
    cases i with
    | zero =>
      rw [if_pos rfl, show b.length + T.length + 0 - 1 = b.length + (T.length - 1) by omega, lv_T _ (by omega)]
      unfold prL at hl
      rw [if_neg (by omega)] at hl
      exact hl
    | succ i =>
      rw [if_neg (by omega), show b.length + T.length + (i + 1) - 1 = b.length + T.length + i by omega]
      exact lv_e he i (by omega)
  unfold edgesL
  rw [List.range_add, List.filter_append, List.map_append]
  congr 1
  rw [List.filter_map, List.map_map]
  cases hq : e.length with
  | zero => rcases hto with rfl | rfl <;> simp
  | succ q =>
    rw [List.range_succ_eq_map, List.filter_cons]
    have h0 : ((fun i => lvL (b ++ (T ++ e)) i == to && prL (b ++ (T ++ e)) i != to) ∘ fun x => b.length + T.length + x) 0 = decide (to = 48) := by
      simp only [Function.comp]
      rw [lv_e he 0 (by omega), hp 0 (by omega)]
      rcases hto with rfl | rfl <;> decide
    have h1 : ((List.range q).map Nat.succ).filter ((fun i => lvL (b ++ (T ++ e)) i == to && prL (b ++ (T ++ e)) i != to) ∘ fun x => b.length + T.length + x) = [] := by
      rw [List.filter_eq_nil_iff]
      intro i hi
      rw [List.mem_map] at hi
      obtain ⟨j, hj, rfl⟩ := hi
      rw [List.mem_range] at hj
      simp only [Function.comp]
      rw [lv_e he _ (by omega), hp _ (by omega), if_neg (by omega)]
      rcases hto with rfl | rfl <;> decide
    rw [h0, h1]
    rcases hto with rfl | rfl <;> simp
/-- the gaps between the pulses of the whole are those of the part between -/
theorem fill_all (t : Int) (u : ByteArray) (hu : u.data.toList = T) (hb : ∀ x ∈ b, x = 48) (he : ∀ x ∈ e, x = 48) (hall : T.all lvlB = true) (h0 : 0 < u.size) (h49 : (u[0].toNat : Int) = 49) (hlast : prL T T.length = 49) (n : Nat) (hn : n = b.length + T.length + e.length)
    (us ds : List Int) (hus : us = edgesL 49 (b ++ (T ++ e)) n) (hds : ds = edgesL 48 (b ++ (T ++ e)) n) :
    fillP t (b ++ (T ++ e)) n ((if ds.length < us.length then ds ++ [(n : Int)] else ds).zip us.tail) = b ++ (partsT 48 t (runsL u) ++ e) ∧ 0 < us.length := by
  have hsz : u.size = T.length := by rw [← hu, size_toList]
  obtain ⟨f1, f2, f3⟩ := fill_end u t (by rw [hu]; exact hall) h0 h49 (by rw [hu, hsz]; exact hlast)
  rw [hu, hsz] at f1 f2 f3
  have hT : 0 < T.length := by omega
  have hus2 : us = (edgesL 49 T T.length).map (fun x => x + (b.length : Int)) := by
    rw [hus, hn, edges_end 49 he hT hlast (.inr rfl), edges_at 49 hb (.inr rfl), if_neg (show ¬ ((49 : Int) = 48 ∧ 0 < e.length) from fun q => absurd q.1 (by decide)), List.append_nil]
  have hds2 : ds = (edgesL 48 T T.length).map (fun x => x + (b.length : Int)) ++ (if 0 < e.length then [((b.length + T.length : Nat) : Int)] else []) := by
    rw [hds, hn, edges_end 48 he hT hlast (.inl rfl), edges_at 48 hb (.inl rfl)]
    congr 1
    by_cases h : 0 < e.length
    · rw [if_pos ⟨rfl, h⟩, if_pos h]
    · rw [if_neg (fun q => h q.2), if_neg h]
  have hes : (if ds.length < us.length then ds ++ [(n : Int)] else ds) = (edgesL 48 T T.length).map (fun x => x + (b.length : Int)) ++ [((b.length + T.length : Nat) : Int)] := by
    rw [List.length_tail] at f2
    by_cases h : 0 < e.length
    · rw [if_pos h] at hds2
      rw [if_neg (by rw [hds2, hus2, List.length_append, List.length_map, List.length_map]; simp only [List.length_singleton]; omega), hds2]
    · rw [if_neg h, List.append_nil] at hds2
      rw [if_pos (by rw [hds2, hus2, List.length_map, List.length_map]; omega), hds2, hn]
      congr 3
      omega
  refine ⟨?_, by rw [hus2]; simpa using f3⟩
  rw [hes, hus2, f1, ← List.map_tail]
  have hz : (((edgesL 48 T T.length).map (fun x => x + (b.length : Int)) ++ [((b.length + T.length : Nat) : Int)]).zip ((edgesL 49 T T.length).tail.map (fun x => x + (b.length : Int)))) = ((edgesL 48 T T.length).zip (edgesL 49 T T.length).tail).map (fun p => (p.1 + (b.length : Int), p.2 + (b.length : Int))) := by
    have : ((edgesL 49 T T.length).tail.map (fun x => x + (b.length : Int))) = ((edgesL 49 T T.length).tail.map (fun x => x + (b.length : Int))) ++ [] := by simp
    rw [this, List.zip_append (by simp [f2]), List.zip_nil_right, List.append_nil, List.zip_map]
    rfl
  rw [hz]
  obtain ⟨ps, hps⟩ : ∃ ps, (edgesL 48 T T.length).zip (edgesL 49 T T.length).tail = ps := ⟨_, rfl⟩
  rw [hps]
  have hpb : ∀ p ∈ ps, 0 ≤ p.1 ∧ p.2 ≤ (T.length : Int) := by
    intro p hp
    rw [← hps] at hp
    obtain ⟨q1, q2⟩ := p
    have m1 := (List.of_mem_zip hp).1
    have m2 := List.mem_of_mem_tail (List.of_mem_zip hp).2
    unfold edgesL at m1 m2
    simp only [List.mem_map, List.mem_filter, List.mem_range] at m1 m2
    obtain ⟨i1, ⟨_, _⟩, rfl⟩ := m1
    obtain ⟨i2, ⟨_, _⟩, rfl⟩ := m2
    exact ⟨by dsimp only; omega, by dsimp only; omega⟩
  have hsh : ∀ j : Int, hitS t (ps.map (fun p => (p.1 + (b.length : Int), p.2 + (b.length : Int)))) j = hitS t ps (j - (b.length : Int)) := by
    intro j
    unfold hitS
    rw [List.any_map]
    congr 1
    funext p
    simp only [Function.comp]
    rw [decide_eq_decide]
    omega
  have hout : ∀ j : Int, (j < 0 ∨ (T.length : Int) ≤ j) → hitS t ps j = false := by
    intro j hj
    unfold hitS
    rw [List.any_eq_false]
    intro p hp
    have := hpb p hp
    simp only [decide_eq_true_eq]
    omega
  apply List.ext_getElem
  · simp [fillP, hn]; omega
  · intro i i1 i2
    have hi : i < n := by simpa [fillP] using i1
    simp only [fillP, List.getElem_map, List.getElem_range]
    rw [hsh]
    by_cases c1 : i < b.length
    · rw [hout _ (.inl (by omega)), List.getElem_append_left c1, List.getD_eq_getElem?_getD, List.getElem?_append_left c1, List.getElem?_eq_getElem c1]; rfl
    · rw [List.getElem_append_right (by omega)]
      have fl : (List.map (fun j : Nat => if hitS t ps (j : Int) then (49 : UInt8) else T.getD j 0) (List.range T.length)).length = T.length := by simp
      by_cases c2 : i - b.length < T.length
      · rw [List.getElem_append_left (by rw [fl]; exact c2)]
        simp only [List.getElem_map, List.getElem_range]
        rw [show (i : Int) - (b.length : Int) = ((i - b.length : Nat) : Int) by omega]
        congr 1
        rw [List.getD_eq_getElem?_getD, List.getElem?_append_right (by omega), List.getElem?_append_left c2, List.getD_eq_getElem?_getD]
      · rw [List.getElem_append_right (by rw [fl]; omega)]
        rw [hout _ (.inr (by omega)), List.getD_eq_getElem?_getD, List.getElem?_append_right (by omega), List.getElem?_append_right (by omega)]
        simp only [Bool.false_eq_true, if_false]
        rw [List.getElem?_eq_getElem (by omega), Option.getD_some]
        simp only [fl]
end
end Go.Proofs.YtafecdmcbpnniabDoor
namespace Go.Proofs.YtafecdmcbpnniabDoor
open Go.RowKit
set_option linter.unusedVariables false

theorem dw_head (p : UInt8 → Bool) : ∀ (l : List UInt8) (c : UInt8) (t : List UInt8), l.dropWhile p = c :: t → p c = false := by
  intro l
  induction l with
  | nil => intro c t h; simp at h
  | cons x l ih =>
    intro c t h
    rw [List.dropWhile_cons] at h
    split at h
    · exact ih c t h
    · rename_i hx
      obtain ⟨rfl, -⟩ := List.cons.inj h
      simpa using hx
theorem tw_all (p : UInt8 → Bool) : ∀ (l : List UInt8), ∀ x ∈ l.takeWhile p, p x = true := by
  intro l
  induction l with
  | nil => intro x h; simp at h
  | cons y l ih =>
    intro x h
    rw [List.takeWhile_cons] at h
    split at h
    · rcases List.mem_cons.1 h with rfl | h
      · assumption
      · exact ih x h
    · simp at h
theorem trim_split (l : List UInt8) (hl : l.all lvlB = true) : ∃ b e, l = b ++ (Lib.trimB l 48 ++ e) ∧ (∀ x ∈ b, x = 48) ∧ (∀ x ∈ e, x = 48) ∧
    (Lib.trimB l 48 = [] ∨ ((∃ t, Lib.trimB l 48 = 49 :: t) ∧ (∃ t, Lib.trimB l 48 = t ++ [49]))) := by
  have lev : ∀ x ∈ l, x = 48 ∨ x = 49 := by
    intro x hx
    have h := List.all_eq_true.1 hl x hx
    have h2 : (x.toNat : Int) = 48 ∨ (x.toNat : Int) = 49 := by simpa [lvlB] using h
    rcases h2 with h2 | h2
    · exact .inl (UInt8.toNat_inj.1 (show x.toNat = 48 by omega))
    · exact .inr (UInt8.toNat_inj.1 (show x.toNat = 49 by omega))
  obtain ⟨r, hr⟩ : ∃ r, Lib.trimRightB l 48 = r := ⟨_, rfl⟩
  have h1 : l = r ++ (l.reverse.takeWhile (· == 48)).reverse := by
    rw [← hr]; unfold Lib.trimRightB
    rw [← List.reverse_append, List.takeWhile_append_dropWhile, List.reverse_reverse]
  have hT : Lib.trimB l 48 = r.dropWhile (· == 48) := by unfold Lib.trimB Lib.trimLeftB; rw [hr]
  have h2 : r = r.takeWhile (· == 48) ++ r.dropWhile (· == 48) := (List.takeWhile_append_dropWhile).symm
  refine ⟨r.takeWhile (· == 48), (l.reverse.takeWhile (· == 48)).reverse, ?_, fun x hx => ?_, fun x hx => ?_, ?_⟩
  · rw [hT, ← List.append_assoc, ← h2]; exact h1
  · have := tw_all (· == 48) r x hx; simpa using this
  · have := tw_all (· == 48) l.reverse x (List.mem_reverse.1 hx); simpa using this
  · rw [hT]
    cases hd : r.dropWhile (· == 48) with
    | nil => exact .inl rfl
    | cons c t =>
      right
      have hc := dw_head _ r c t hd
      have hmem : c ∈ l := by rw [h1, h2, hd]; simp
      have c49 : c = 49 := by
        rcases lev c hmem with h | h
        · rw [h] at hc; simp at hc
        · exact h
      subst c49
      refine ⟨⟨t, rfl⟩, ?_⟩
      rcases List.eq_nil_or_concat (49 :: t) with h | ⟨t', x, h⟩
      · cases h
      · rw [List.concat_eq_append] at h
        rw [h]
        refine ⟨t', ?_⟩
        have hx : x = 49 := by
          have hrr : r.reverse = l.reverse.dropWhile (· == 48) := by rw [← hr]; unfold Lib.trimRightB; simp
          have h3 : r = (r.takeWhile (· == 48) ++ t') ++ [x] := by
            rw [List.append_assoc, ← h, ← hd]; exact h2
          have h4 : l.reverse.dropWhile (· == 48) = x :: (r.takeWhile (· == 48) ++ t').reverse := by
            rw [← hrr]
            have := congrArg List.reverse h3
            simpa using this
          have hx0 := dw_head _ _ _ _ h4
          have hmx : x ∈ l := by rw [h1, h3]; simp
          rcases lev x hmx with h | h
          · rw [h] at hx0; simp at hx0
          · exact h
        rw [hx]
theorem cut_split (b T e t : List UInt8) (hT : T = 49 :: t) (hb : ∀ x ∈ b, x = 48) : Lib.cut (b ++ (T ++ e)) T = (b, e, true) := by
  have hi : Lib.index (b ++ (T ++ e)) T = (b.length : Int) := by
    refine Lib.index_first (by simp) ?_ (fun j hj => ?_)
    · unfold Lib.occAt
      rw [List.drop_left]
      exact List.isPrefixOf_iff_prefix.2 (List.prefix_append _ _)
    · cases h : Lib.occAt (b ++ (T ++ e)) T j with
      | false => rfl
      | true =>
        have := Lib.occAt_head hT h
        rw [List.getElem?_append_left hj, List.getElem?_eq_getElem hj, hb _ (List.getElem_mem hj)] at this
        cases this
  unfold Lib.cut
  rw [hi, if_pos (by omega)]
  simp only [Int.toNat_natCast]
  rw [List.take_left, show b.length + T.length = b.length + T.length from rfl, ← List.drop_drop, List.drop_left, List.drop_left]
theorem cut_none (l : List UInt8) : Lib.cut l [] = ([], l, true) := by
  have hi : Lib.index l [] = 0 := by cases l <;> rfl
  unfold Lib.cut
  rw [hi]
  simp
/-- what is put together is the wave with its short gaps filled -/
theorem fill_parts (s : ByteArray) (t : Int) (hall : s.data.toList.all lvlB = true) (us ds : List Int) (hus : us = edgesL 49 s.data.toList s.size) (hds : ds = edgesL 48 s.data.toList s.size) :
    ∃ (u : ByteArray) (B E : ByteArray), u = ⟨(Lib.trimB s.data.toList 48).toArray⟩ ∧ u.size ≤ s.size ∧ u.data.toList.all lvlB = true ∧
      (Lib.cut s.data.toList u.data.toList).1 = B.data.toList ∧ (Lib.cut s.data.toList u.data.toList).2.1 = E.data.toList ∧ (Lib.cut s.data.toList u.data.toList).2.2 = true ∧
      B.size + u.size + E.size = s.size ∧
      B.data.toList ++ (partsT 48 t (runsL u) ++ E.data.toList) = fillP t s.data.toList s.size ((endsL (s.size : Int) us ds).zip us.tail) := by
  obtain ⟨b, e, hl, hb, he, ht⟩ := trim_split s.data.toList hall
  have hsl : s.size = b.length + (Lib.trimB s.data.toList 48).length + e.length := by
    have := congrArg List.length hl
    rw [size_toList, List.length_append, List.length_append] at this
    omega
  have hall2 : (Lib.trimB s.data.toList 48).all lvlB = true := by
    rw [hl, List.all_append, List.all_append] at hall
    simp only [Bool.and_eq_true] at hall
    exact hall.2.1
  obtain ⟨T, hT⟩ : ∃ T, Lib.trimB s.data.toList 48 = T := ⟨_, rfl⟩
  rw [hT] at hl ht hsl hall2 ⊢
  have hul : (⟨T.toArray⟩ : ByteArray).data.toList = T := by simp
  have hus3 : (⟨T.toArray⟩ : ByteArray).size = T.length := by rw [← size_toList, hul]
  rcases ht with ht | ⟨⟨t1, ht1⟩, ⟨t2, ht2⟩⟩
  · subst ht
    refine ⟨⟨([] : List UInt8).toArray⟩, ⟨#[]⟩, s, rfl, Nat.zero_le _, rfl, ?_, ?_, ?_, ?_, ?_⟩
    · rw [hul, cut_none]
    · rw [hul, cut_none]
    · rw [hul, cut_none]
    · show 0 + 0 + s.size = s.size; omega
    · have hz : ∀ x ∈ s.data.toList, x = 48 := by rw [hl]; intro x hx; simp at hx; exact hx.elim (hb x) (he x)
      have h0 : us = [] := by
        rw [hus]; unfold edgesL
        rw [List.map_eq_nil_iff, List.filter_eq_nil_iff]
        intro i hi
        rw [List.mem_range] at hi
        rw [lvL_get s i hi, show s[i] = 48 from hz _ (by simp [ByteArray.getElem_eq_getElem_data])]
        rw [show ((((48 : UInt8).toNat : Nat) : Int) == 49) = false from by decide]
        simp
      rw [h0]
      have hr : runsL (⟨([] : List UInt8).toArray⟩ : ByteArray) = [] := rfl
      rw [hr]
      show ([] : List UInt8) ++ ([] ++ s.data.toList) = _
      rw [List.nil_append, List.nil_append]
      simp only [List.tail_nil, List.zip_nil_right]
      unfold fillP
      apply List.ext_getElem
      · simp
      · intro i i1 i2
        simp only [List.getElem_map, List.getElem_range, hitS, List.any_nil, Bool.false_eq_true, if_false]
        rw [List.getD_eq_getElem?_getD, List.getElem?_eq_getElem i1]; rfl
  · have hcut := cut_split b T e t1 ht1 hb
    rw [← hl] at hcut
    have hTl : 0 < T.length := by rw [ht1]; simp
    refine ⟨⟨T.toArray⟩, ⟨b.toArray⟩, ⟨e.toArray⟩, rfl, by rw [hus3]; omega, by rw [hul]; exact hall2, ?_, ?_, ?_, ?_, ?_⟩
    · rw [hul, hcut]
    · rw [hul, hcut]
    · rw [hul, hcut]
    · rw [hus3, show (⟨b.toArray⟩ : ByteArray).size = b.length from by rw [← size_toList], show (⟨e.toArray⟩ : ByteArray).size = e.length from by rw [← size_toList]]; omega
    · have h49 : ∀ h : 0 < (⟨T.toArray⟩ : ByteArray).size, ((⟨T.toArray⟩ : ByteArray)[0].toNat : Int) = 49 := by
        intro h
        rw [← lvL_get _ 0 h, hul, ht1]; rfl
      have hlast : prL T T.length = 49 := by
        unfold prL
        rw [if_neg (by omega)]
        unfold lvL
        rw [ht2]
        simp [List.getD_eq_getElem?_getD]
      have hf := (fill_all (b := b) (T := T) (e := e) t ⟨T.toArray⟩ hul hb he hall2 (by rw [hus3]; exact hTl) (h49 (by rw [hus3]; exact hTl)) hlast s.size hsl us ds (by rw [hus, ← hl]) (by rw [hds, ← hl])).1
      rw [← hl] at hf
      unfold endsL
      rw [hf]
end Go.Proofs.YtafecdmcbpnniabDoor
