/- A diagram out of a text: mathematics. -/
import Derived.Test.YtemjohkieehojaaDoorPieM
import Derived.Test.YtemjohkieehojaaDoorDT
namespace Go.Proofs.YtemjohkieehojaaDoor
open Go.Lib
set_option linter.unusedVariables false
set_option linter.unusedSimpArgs false
abbrev BigV : Nat := 1000000000000000
theorem itoa_posD (n : Int) : itoa n ≠ [] := by
  intro h
  by_cases hn : n < 0
  · rw [itoa_ng hn] at h; cases h
  · rw [itoa_nn (by omega)] at h
    have := dec_len_pos n.natAbs
    rw [h] at this; simp at this
theorem itoa_freeD (n : Int) (c : UInt8) (h1 : c ≠ 45) (h2 : c.toNat < 48) : pFree c (itoa n) := by
  have hd : ∀ b ∈ decDigits n.natAbs, b ≠ c := by
    intro b hb e
    have := dig_dec n.natAbs n.natAbs (Nat.le_refl _) b hb
    rw [e] at this; omega
  intro b hb
  by_cases hn : n < 0
  · rw [itoa_ng hn] at hb
    rcases List.mem_cons.1 hb with rfl | hb
    · exact fun e => h1 e.symm
    · exact hd b hb
  · rw [itoa_nn (by omega)] at hb
    exact hd b hb
theorem rd_self {p : List UInt8} {n : Int} (h : rd BigV p = some n) : p = itoa n := (rd_some h).2.symm
theorem rd_mark {p : List UInt8} {c : UInt8} (h1 : c ≠ 45) (h2 : c.toNat < 48) (hc : c ∈ p) : rd BigV p = none := by
  cases hr : rd BigV p with
  | none => rfl
  | some n =>
    have := rd_self hr
    rw [this] at hc
    exact absurd rfl (itoa_freeD n c h1 h2 c hc)
theorem rd_empty : rd BigV [] = none := by
  cases hr : rd BigV [] with
  | none => rfl
  | some n => exact absurd (rd_self hr).symm (itoa_posD n)
/-- texts between the bytes c -/
def jP (c : UInt8) : List (List UInt8) → List UInt8
  | [] => []
  | [t] => t
  | t :: u :: r => t ++ c :: jP c (u :: r)
theorem jP_pcs (c : UInt8) : ∀ T, jP c (pcs c T) = T
  | [] => rfl
  | b :: r => by
    have ih := jP_pcs c r
    unfold pcs
    split
    · rename_i hb
      cases hp : pcs c r with
      | nil => exact absurd hp (pcs_ne c r)
      | cons q qs => rw [hp] at ih; rw [jP, ih, hb]; rfl
    · cases hp : pcs c r with
      | nil => exact absurd hp (pcs_ne c r)
      | cons q qs =>
        rw [hp] at ih
        cases qs with
        | nil => simp only [jP] at ih ⊢; rw [ih]
        | cons u us => simp only [jP] at ih ⊢; rw [List.cons_append, ih]
theorem pcs_jP (c : UInt8) : ∀ (L : List (List UInt8)), L ≠ [] → (∀ p ∈ L, pFree c p) → pcs c (jP c L) = L
  | [], h, _ => absurd rfl h
  | [t], _, hf => pcs_end c t (hf t (by simp))
  | t :: u :: r, _, hf => by
    rw [jP, pcs_app c t _ (hf t (by simp)), pcs_jP c (u :: r) (by simp) (fun p hp => hf p (by simp at hp ⊢; exact .inr hp))]
theorem jP_snoc (c : UInt8) : ∀ (D : List (List UInt8)) (t : List UInt8), D ≠ [] → jP c (D ++ [t]) = jP c D ++ [c] ++ t
  | [], t, h => absurd rfl h
  | [u], t, _ => by simp [jP]
  | u :: v :: r, t, _ => by
    have ih := jP_snoc c (v :: r) t (by simp)
    rw [List.cons_append, List.cons_append, jP, ← List.cons_append, ih, jP]
    simp
theorem pcs_free (c : UInt8) : ∀ (T p : List UInt8), p ∈ pcs c T → pFree c p
  | [], p, h => by simp [pcs] at h; subst h; intro b hb; simp at hb
  | b :: r, p, h => by
    have ih := pcs_free c r
    unfold pcs at h
    split at h
    · rcases List.mem_cons.1 h with rfl | h
      · intro x hx; simp at hx
      · exact ih p h
    · rename_i hb
      cases hr : pcs c r with
      | nil => exact absurd hr (pcs_ne c r)
      | cons q qs =>
        rw [hr] at h ih
        rcases List.mem_cons.1 h with rfl | h
        · intro x hx
          rcases List.mem_cons.1 hx with rfl | hx
          · exact hb
          · exact ih q (by simp) x hx
        · exact ih p (by simp [h])
/-- a bound's text -/
abbrev T3 : Type := Int × Int × Int
def bd3 (t : T3) : List UInt8 := bdL t.1 t.2.1 t.2.2
def fl3 (L : List T3) : List Int := (L.map (fun t => [t.1, t.2.1, t.2.2])).flatten
theorem fl3_len (L : List T3) : (fl3 L).length = L.length * 3 := by
  induction L with
  | nil => rfl
  | cons t L ih => simp [fl3] at ih ⊢; omega
theorem fl3_cons (t : T3) (L : List T3) : fl3 (t :: L) = t.1 :: t.2.1 :: t.2.2 :: fl3 L := by simp [fl3]
theorem fl3_snoc (L : List T3) (t : T3) : fl3 (L ++ [t]) = fl3 L ++ [t.1, t.2.1, t.2.2] := by simp [fl3]
theorem fl3_get : ∀ (L : List T3) (k : Nat) (h : k < L.length), (fl3 L).getD (k * 3) 0 = L[k].1 ∧ (fl3 L).getD (k * 3 + 1) 0 = L[k].2.1 ∧ (fl3 L).getD (k * 3 + 2) 0 = L[k].2.2
  | [], k, h => by simp at h
  | t :: L, 0, h => by rw [fl3_cons]; exact ⟨rfl, rfl, rfl⟩
  | t :: L, k + 1, h => by
    have ih := fl3_get L k (by simpa using h)
    rw [fl3_cons, show (k + 1) * 3 = k * 3 + 3 by omega]
    simpa using ih
theorem bdF_3 (L : List T3) (k : Nat) (h : k < L.length) : bdF (fl3 L) k = bd3 L[k] := by
  obtain ⟨h1, h2, h3⟩ := fl3_get L k h
  unfold bdF bd3
  rw [h1, h2, h3]
theorem dtL_jP (e : Int) (L : List T3) : ∀ k, k ≤ L.length → dtL e (fl3 L) k = jP 44 (itoa e :: (L.take k).map bd3)
  | 0, _ => rfl
  | k + 1, h => by
    rw [dtL, dtL_jP e L k (by omega), bdF_3 L k (by omega), List.take_succ_eq_append_getElem (by omega), List.map_append, ← List.cons_append, List.map_singleton, jP_snoc 44 _ _ (by simp)]
theorem bd3_pcs (t : T3) : pcs 46 (bd3 t) = [itoa t.1, itoa t.2.1, itoa t.2.2] := by
  have h : bd3 t = jP 46 [itoa t.1, itoa t.2.1, itoa t.2.2] := by simp [bd3, bdL, jP]
  rw [h]
  refine pcs_jP 46 _ (by simp) (fun p hp => ?_)
  simp at hp
  rcases hp with rfl | rfl | rfl <;> exact itoa_freeD _ _ (by decide) (by decide)
theorem bd3_free (t : T3) : pFree 44 (bd3 t) := by
  unfold bd3 bdL
  have h := fun n => itoa_freeD n 44 (by decide) (by decide)
  have h46 : pFree 44 [46] := by intro b hb; simp at hb; rw [hb]; decide
  exact pFree_app (pFree_app (pFree_app (pFree_app (h _) h46) (h _)) h46) (h _)
/-- the numbers of a bound's text, as the program reads it -/
def dotL (P : List (List UInt8)) : Option T3 := match P with
  | [a, b, c] => match rd BigV a, rd BigV b, rd BigV c with
    | some x, some y, some z => some (x, y, z)
    | _, _, _ => none
  | _ => none
def dotO (p : List UInt8) : Option T3 := dotL (pcs 46 p)
def d3 (p : List UInt8) : T3 := (dotO p).getD (0, 0, 0)
/-- and as the model does -/
def nm (p : List UInt8) : Int := (rd BigV p).getD (-1000000)
def t3 (p : List UInt8) : T3 := (nm ((pcs 46 p).getD 0 []), nm ((pcs 46 p).getD 1 []), nm ((pcs 46 p).getD 2 []))
theorem dotO_some {p : List UInt8} {t : T3} (h : dotO p = some t) : t3 p = t ∧ d3 p = t ∧ p = bd3 t := by
  unfold dotO dotL at h
  split at h
  · rename_i a b c hp
    split at h
    · rename_i x y z hx hy hz
      simp at h
      subst h
      refine ⟨?_, ?_, ?_⟩
      · unfold t3 nm; rw [hp]; simp [hx, hy, hz]
      · unfold d3 dotO dotL; rw [hp]; simp [hx, hy, hz]
      · have hj := jP_pcs 46 p
        rw [hp] at hj
        rw [← hj, rd_self hx, rd_self hy, rd_self hz]
        simp [jP, bd3, bdL]
    · simp at h
  · simp at h
theorem dotO_bd {t : T3} (h1 : t.1.natAbs ≤ BigV) (h2 : t.2.1.natAbs ≤ BigV) (h3 : t.2.2.natAbs ≤ BigV) : dotO (bd3 t) = some t := by
  unfold dotO dotL
  rw [bd3_pcs]
  simp only
  rw [rd_itoa BigV (by decide) _ h1, rd_itoa BigV (by decide) _ h2, rd_itoa BigV (by decide) _ h3]
theorem dotO_mark {p : List UInt8} (h : 44 ∈ p) : dotO p = none := by
  cases hd : dotO p with
  | none => rfl
  | some t =>
    obtain ⟨-, -, hp⟩ := dotO_some hd
    rw [hp] at h
    exact absurd rfl (bd3_free t 44 h)
def dgC (h : List UInt8) (r : List (List UInt8)) : Prop := (rd BigV h).isSome = true ∧ (∀ p ∈ r, (dotO p).isSome = true) ∧ diaB ((rd BigV h).getD 0) r.length (fl3 (r.map d3)) = true
instance (h : List UInt8) (r : List (List UInt8)) : Decidable (dgC h r) := by unfold dgC; exact inferInstance
def mdC (T : List UInt8) (h : List UInt8) (r : List (List UInt8)) : Prop := diaB (nm h) r.length (fl3 (r.map t3)) = true ∧ dtL (nm h) (fl3 (r.map t3)) r.length = T
theorem dia3 {e : Int} {L : List T3} (h : diaB e L.length (fl3 L) = true) : (1 ≤ e ∧ e ≤ 10) ∧ L.length ≤ 24 ∧ ∀ t ∈ L, BOk e t.1 t.2.1 t.2.2 := by
  have h0 := h
  unfold diaB at h
  simp only [Bool.and_eq_true, decide_eq_true_eq] at h
  obtain ⟨⟨h1, h2⟩, h3⟩ := h
  refine ⟨h1, h2, fun t ht => ?_⟩
  obtain ⟨k, hk, rfl⟩ := List.mem_iff_getElem.1 ht
  have h4 := List.all_eq_true.1 h3 k (List.mem_range.2 hk)
  unfold bokK at h4
  obtain ⟨g1, g2, g3⟩ := fl3_get L k hk
  rw [g1, g2, g3] at h4
  exact of_decide_eq_true h4
theorem dg_md {T h : List UInt8} {r : List (List UInt8)} (hp : pcs 44 T = h :: r) : mdC T h r ↔ dgC h r := by
  constructor
  · rintro ⟨h1, h2⟩
    have hl : (r.map t3).length = r.length := by simp
    rw [← hl] at h1 h2
    obtain ⟨k1, k2, k3⟩ := dia3 h1
    rw [dtL_jP _ _ _ (Nat.le_refl _), List.take_length] at h2
    have h3 : pcs 44 T = itoa (nm h) :: (r.map t3).map bd3 := by
      rw [← h2]
      refine pcs_jP 44 _ (by simp) (fun p hp => ?_)
      rcases List.mem_cons.1 hp with rfl | hp
      · exact itoa_freeD _ _ (by decide) (by decide)
      · obtain ⟨t, -, rfl⟩ := List.mem_map.1 hp
        exact bd3_free t
    rw [hp] at h3
    obtain ⟨e1, e2⟩ := List.cons.inj h3
    have hh : rd BigV h = some (nm h) := by
      conv => lhs; rw [e1]
      exact rd_itoa BigV (by decide) _ (by show _ ≤ 1000000000000000; omega)
    have hr : ∀ p ∈ r, dotO p = some (t3 p) := by
      intro p hpr
      obtain ⟨k, hk, rfl⟩ := List.mem_iff_getElem.1 hpr
      have e3 : r[k] = bd3 (t3 r[k]) := by
        have : r[k]? = ((r.map t3).map bd3)[k]? := by rw [← e2]
        rw [List.getElem?_eq_getElem hk] at this
        simpa [List.getElem?_eq_getElem hk] using this
      have hb := k3 (t3 r[k]) (List.mem_map.2 ⟨r[k], hpr, rfl⟩)
      obtain ⟨-, q1, q2, q3, q4, q5, q6⟩ := hb
      have := dotO_bd (t := t3 r[k]) (by show _ ≤ 1000000000000000; omega) (by show _ ≤ 1000000000000000; omega) (by show _ ≤ 1000000000000000; omega)
      rwa [← e3] at this
    refine ⟨by rw [hh]; rfl, fun p hpr => by rw [hr p hpr]; rfl, ?_⟩
    have hm : r.map d3 = r.map t3 := List.map_congr_left (fun p hpr => (dotO_some (hr p hpr)).2.1)
    rw [hh, hm, ← hl]; exact h1
  · rintro ⟨h1, h2, h3⟩
    obtain ⟨e, he⟩ := Option.isSome_iff_exists.1 h1
    have hn : nm h = e := by unfold nm; rw [he]; rfl
    have hm : r.map t3 = r.map d3 := List.map_congr_left (fun p hpr => by
      obtain ⟨t, ht⟩ := Option.isSome_iff_exists.1 (h2 p hpr)
      obtain ⟨a1, a2, -⟩ := dotO_some ht
      rw [a1, a2])
    rw [he] at h3
    refine ⟨by rw [hn, hm]; exact h3, ?_⟩
    have hl : r.length = (r.map d3).length := by simp
    rw [hn, hm, hl, dtL_jP _ _ _ (Nat.le_refl _), List.take_length]
    have e2 : (r.map d3).map bd3 = r := by
      rw [List.map_map]
      conv => rhs; rw [← List.map_id r]
      exact List.map_congr_left (fun p hpr => by
        obtain ⟨t, ht⟩ := Option.isSome_iff_exists.1 (h2 p hpr)
        obtain ⟨-, a2, a3⟩ := dotO_some ht
        simp only [Function.comp, id, a2]
        exact a3.symm)
    rw [e2, ← rd_self he, ← hp, jP_pcs]
/-- what a diagram is, told by a text -/
def dgA (T : List UInt8) : Option (Int × List T3) := match pcs 44 T with
  | [] => none
  | h :: r => if dgC h r then some ((rd BigV h).getD 0, r.map d3) else none
theorem bd3_short {e : Int} {t : T3} (h1 : 1 ≤ e ∧ e ≤ 10) (h : BOk e t.1 t.2.1 t.2.2) : (bd3 t).length ≤ 17 := by
  obtain ⟨-, q1, q2, q3, q4, q5, q6⟩ := h
  have small : ∀ n : Int, -1000 ≤ n → n ≤ 1000 → (itoa n).length ≤ 5 := by
    intro n a1 a2
    have hd : ∀ m : Nat, m ≤ 1000 → (decDigits m).length ≤ 4 := fun m hm => dec_len 3 m (by show _ < 10000; omega)
    by_cases hn : n < 0
    · rw [itoa_ng hn]; have := hd n.natAbs (by omega); simp; omega
    · rw [itoa_nn (by omega)]; have := hd n.natAbs (by omega); omega
  have a := small t.1 (by omega) (by omega)
  have b := small t.2.1 (by omega) (by omega)
  have c := small t.2.2 (by omega) (by omega)
  simp only [bd3, bdL, List.length_append, List.length_cons, List.length_nil]; omega
theorem dg_len {T h : List UInt8} {r : List (List UInt8)} (hp : pcs 44 T = h :: r) (hc : dgC h r) : T.length ≤ 500 := by
  obtain ⟨h1, h2⟩ := (dg_md hp).2 hc
  have hl : (r.map t3).length = r.length := by simp
  rw [← hl] at h1 h2
  obtain ⟨k1, k2, k3⟩ := dia3 h1
  have hb : ∀ k, k ≤ (r.map t3).length → (dtL (nm h) (fl3 (r.map t3)) k).length ≤ 4 + 18 * k := by
    intro k
    induction k with
    | zero =>
      intro _
      rw [dtL, itoa_nn (by omega)]
      have := dec_len 3 (nm h).natAbs (by show _ < 10000; omega)
      omega
    | succ k ih =>
      intro hk
      have i1 := ih (by omega)
      have i2 := bd3_short k1 (k3 _ (List.getElem_mem (show k < (r.map t3).length by omega)))
      rw [dtL, bdF_3 _ k (by omega)]
      simp only [List.length_append, List.length_cons, List.length_nil]; omega
  have := hb _ (Nat.le_refl _)
  rw [h2] at this
  omega
/-- at most k cuts -/
def spl (c : UInt8) : Nat → List UInt8 → List (List UInt8)
  | 0, s => [s]
  | k + 1, s => if pcK c s < s.length then s.take (pcK c s) :: spl c k (s.drop (pcK c s + 1)) else [s]
theorem spl_all (c : UInt8) : ∀ (k : Nat) (s : List UInt8), (pcs c s).length ≤ k + 1 → spl c k s = pcs c s
  | 0, s, h => by
    by_cases hk : pcK c s < s.length
    · rw [pcs_hit c s hk] at h
      have := pcs_ne c (s.drop (pcK c s + 1))
      cases hp : pcs c (s.drop (pcK c s + 1)) with
      | nil => exact absurd hp this
      | cons _ _ => rw [hp] at h; simp at h
    · rw [pcs_miss c s hk]; rfl
  | k + 1, s, h => by
    by_cases hk : pcK c s < s.length
    · rw [pcs_hit c s hk] at h ⊢
      rw [spl, if_pos hk, spl_all c k _ (by simpa using h)]
    · rw [spl, if_neg hk, pcs_miss c s hk]
theorem spl_cut (c : UInt8) : ∀ (k : Nat) (s : List UInt8), k + 1 < (pcs c s).length → ∃ D l, spl c k s = D ++ [l] ∧ D.length = k ∧ c ∈ l
  | 0, s, h => by
    by_cases hk : pcK c s < s.length
    · exact ⟨[], s, rfl, rfl, by rw [← pcK_at c s hk]; exact List.getElem_mem hk⟩
    · rw [pcs_miss c s hk] at h; simp at h
  | k + 1, s, h => by
    by_cases hk : pcK c s < s.length
    · rw [pcs_hit c s hk] at h
      obtain ⟨D, l, h1, h2, h3⟩ := spl_cut c k _ (by simpa using h)
      exact ⟨s.take (pcK c s) :: D, l, by rw [spl, if_pos hk, h1]; rfl, by simp [h2], h3⟩
    · rw [pcs_miss c s hk] at h; simp at h
theorem spl_len (c : UInt8) : ∀ (k : Nat) (s : List UInt8), 1 ≤ (spl c k s).length ∧ (spl c k s).length ≤ k + 1
  | 0, s => by simp [spl]
  | k + 1, s => by
    have := spl_len c k (s.drop (pcK c s + 1))
    rw [spl]
    split
    · simp; omega
    · simp
theorem spl_mem (c : UInt8) : ∀ (k : Nat) (s p : List UInt8), p ∈ spl c k s → p.length ≤ s.length
  | 0, s, p, h => by simp [spl] at h; subst h; exact Nat.le_refl _
  | k + 1, s, p, h => by
    rw [spl] at h
    split at h
    · rcases List.mem_cons.1 h with rfl | h
      · simp; omega
      · have := spl_mem c k _ p h; simp at this; omega
    · simp at h; subst h; exact Nat.le_refl _
/-- what the program's numbers of a bound are: out of at most three texts -/
theorem dot_spl (p : List UInt8) : dotL (spl 46 2 p) = dotO p := by
  by_cases h : (pcs 46 p).length ≤ 3
  · unfold dotO; rw [spl_all 46 2 p h]
  · obtain ⟨D, l, h1, h2, h3⟩ := spl_cut 46 2 p (by omega)
    have hr : rd BigV l = none := rd_mark (c := 46) (by decide) (by decide) h3
    have e1 : dotL (spl 46 2 p) = none := by
      rw [h1]
      match D, h2 with
      | [a, b], _ =>
        unfold dotL
        simp only [List.cons_append, List.nil_append, hr]
        cases rd BigV a <;> cases rd BigV b <;> rfl
    have e2 : dotO p = none := by
      unfold dotO dotL
      split
      · rename_i a b c hp; rw [hp] at h; simp at h
      · rfl
    rw [e1, e2]
def allO (r : List (List UInt8)) : Bool := r.all (fun p => (dotO p).isSome)
/-- the program's answer out of at most 25 texts -/
theorem dg_spl (T : List UInt8) {h : List UInt8} {r : List (List UInt8)} (hs : spl 44 24 T = h :: r) : dgA T = if (rd BigV h).isSome = true ∧ allO r = true ∧ diaB ((rd BigV h).getD 0) r.length (fl3 (r.map d3)) = true then some ((rd BigV h).getD 0, r.map d3) else none := by
  by_cases hl : (pcs 44 T).length ≤ 25
  · rw [spl_all 44 24 T hl] at hs
    unfold dgA
    rw [hs]
    simp only
    have : dgC h r ↔ ((rd BigV h).isSome = true ∧ allO r = true ∧ diaB ((rd BigV h).getD 0) r.length (fl3 (r.map d3)) = true) := by
      unfold dgC allO
      rw [List.all_eq_true]
    by_cases hc : dgC h r
    · rw [if_pos hc, if_pos (this.1 hc)]
    · rw [if_neg hc, if_neg (fun x => hc (this.2 x))]
  · obtain ⟨D, l, h1, h2, h3⟩ := spl_cut 44 24 T (by omega)
    have e1 : ¬ ((rd BigV h).isSome = true ∧ allO r = true ∧ diaB ((rd BigV h).getD 0) r.length (fl3 (r.map d3)) = true) := by
      rintro ⟨-, ha, -⟩
      rw [hs] at h1
      cases D with
      | nil => simp at h2
      | cons d ds =>
        obtain ⟨-, e⟩ := List.cons.inj h1
        unfold allO at ha
        rw [List.all_eq_true] at ha
        have := ha l (by rw [e]; simp)
        rw [dotO_mark h3] at this
        cases this
    rw [if_neg e1]
    unfold dgA
    cases hp : pcs 44 T with
    | nil => rfl
    | cons h' r' =>
      simp only
      rw [if_neg]
      rintro ⟨-, -, hd⟩
      rw [hp] at hl
      have hl' : (r'.map d3).length = r'.length := by simp
      rw [← hl'] at hd
      have := (dia3 hd).2.1
      simp at this hl; omega
end Go.Proofs.YtemjohkieehojaaDoor
