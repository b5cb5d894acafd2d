/- A wave without what is ahead of its first pulse and behind its last one; plain lists alone. -/
import Derived.Test.YtkipgeecibimoaaDoorFillM
namespace Go.Proofs.YtkipgeecibimoaaDoor
open Go.RowKit
set_option linter.unusedVariables false

theorem dw_head (p : UInt8 → Bool) : ∀ (l : List UInt8) (c : UInt8) (t : List UInt8), l.dropWhile p = c :: t → p c = false := by
  intro l
  induction l with
  | nil => intro c t h; simp at h
  | cons x l ih =>
    intro c t h
    rw [List.dropWhile_cons] at h
    split at h
    · exact ih c t h
    · rename_i hx
      obtain ⟨rfl, -⟩ := List.cons.inj h
      simpa using hx
theorem tw_all (p : UInt8 → Bool) : ∀ (l : List UInt8), ∀ x ∈ l.takeWhile p, p x = true := by
  intro l
  induction l with
  | nil => intro x h; simp at h
  | cons y l ih =>
    intro x h
    rw [List.takeWhile_cons] at h
    split at h
    · rcases List.mem_cons.1 h with rfl | h
      · assumption
      · exact ih x h
    · simp at h
theorem trim_split (l : List UInt8) (hl : l.all lvlB = true) : ∃ b e, l = b ++ (Lib.trimB l 48 ++ e) ∧ (∀ x ∈ b, x = 48) ∧ (∀ x ∈ e, x = 48) ∧
    (Lib.trimB l 48 = [] ∨ ((∃ t, Lib.trimB l 48 = 49 :: t) ∧ (∃ t, Lib.trimB l 48 = t ++ [49]))) := by
  have lev : ∀ x ∈ l, x = 48 ∨ x = 49 := by
    intro x hx
    have h := List.all_eq_true.1 hl x hx
    have h2 : (x.toNat : Int) = 48 ∨ (x.toNat : Int) = 49 := by simpa [lvlB] using h
    rcases h2 with h2 | h2
    · exact .inl (UInt8.toNat_inj.1 (show x.toNat = 48 by omega))
    · exact .inr (UInt8.toNat_inj.1 (show x.toNat = 49 by omega))
  obtain ⟨r, hr⟩ : ∃ r, Lib.trimRightB l 48 = r := ⟨_, rfl⟩
  have h1 : l = r ++ (l.reverse.takeWhile (· == 48)).reverse := by
    rw [← hr]; unfold Lib.trimRightB
    rw [← List.reverse_append, List.takeWhile_append_dropWhile, List.reverse_reverse]
  have hT : Lib.trimB l 48 = r.dropWhile (· == 48) := by unfold Lib.trimB Lib.trimLeftB; rw [hr]
  have h2 : r = r.takeWhile (· == 48) ++ r.dropWhile (· == 48) := (List.takeWhile_append_dropWhile).symm
  refine ⟨r.takeWhile (· == 48), (l.reverse.takeWhile (· == 48)).reverse, ?_, fun x hx => ?_, fun x hx => ?_, ?_⟩
  · rw [hT, ← List.append_assoc, ← h2]; exact h1
  · have := tw_all (· == 48) r x hx; simpa using this
  · have := tw_all (· == 48) l.reverse x (List.mem_reverse.1 hx); simpa using this
  · rw [hT]
    cases hd : r.dropWhile (· == 48) with
    | nil => exact .inl rfl
    | cons c t =>
      right
      have hc := dw_head _ r c t hd
      have hmem : c ∈ l := by rw [h1, h2, hd]; simp
      have c49 : c = 49 := by
        rcases lev c hmem with h | h
        · rw [h] at hc; simp at hc
        · exact h
      subst c49
      refine ⟨⟨t, rfl⟩, ?_⟩
      rcases List.eq_nil_or_concat (49 :: t) with h | ⟨t', x, h⟩
      · cases h
      · rw [List.concat_eq_append] at h
        rw [h]
        refine ⟨t', ?_⟩
        have hx : x = 49 := by
          have hrr : r.reverse = l.reverse.dropWhile (· == 48) := by rw [← hr]; unfold Lib.trimRightB; simp
          have h3 : r = (r.takeWhile (· == 48) ++ t') ++ [x] := by
            rw [List.append_assoc, ← h, ← hd]; exact h2
          have h4 : l.reverse.dropWhile (· == 48) = x :: (r.takeWhile (· == 48) ++ t').reverse := by
            rw [← hrr]
            have := congrArg List.reverse h3
            simpa using this
          have hx0 := dw_head _ _ _ _ h4
          have hmx : x ∈ l := by rw [h1, h3]; simp
          rcases lev x hmx with h | h
          · rw [h] at hx0; simp at hx0
          · exact h
        rw [hx]
theorem cut_split (b T e t : List UInt8) (hT : T = 49 :: t) (hb : ∀ x ∈ b, x = 48) : Lib.cut (b ++ (T ++ e)) T = (b, e, true) := by
  have hi : Lib.index (b ++ (T ++ e)) T = (b.length : Int) := by
    refine Lib.index_first (by simp) ?_ (fun j hj => ?_)
    · unfold Lib.occAt
      rw [List.drop_left]
      exact List.isPrefixOf_iff_prefix.2 (List.prefix_append _ _)
    · cases h : Lib.occAt (b ++ (T ++ e)) T j with
      | false => rfl
      | true =>
        have := Lib.occAt_head hT h
        rw [List.getElem?_append_left hj, List.getElem?_eq_getElem hj, hb _ (List.getElem_mem hj)] at this
        cases this
  unfold Lib.cut
  rw [hi, if_pos (by omega)]
  simp only [Int.toNat_natCast]
  rw [List.take_left, show b.length + T.length = b.length + T.length from rfl, ← List.drop_drop, List.drop_left, List.drop_left]
theorem cut_none (l : List UInt8) : Lib.cut l [] = ([], l, true) := by
  have hi : Lib.index l [] = 0 := by cases l <;> rfl
  unfold Lib.cut
  rw [hi]
  simp
/-- what is put together is the wave with its short gaps filled -/
theorem fill_parts (s : ByteArray) (t : Int) (hall : s.data.toList.all lvlB = true) (us ds : List Int) (hus : us = edgesL 49 s.data.toList s.size) (hds : ds = edgesL 48 s.data.toList s.size) :
    ∃ (u : ByteArray) (B E : ByteArray), u = ⟨(Lib.trimB s.data.toList 48).toArray⟩ ∧ u.size ≤ s.size ∧ u.data.toList.all lvlB = true ∧
      (Lib.cut s.data.toList u.data.toList).1 = B.data.toList ∧ (Lib.cut s.data.toList u.data.toList).2.1 = E.data.toList ∧ (Lib.cut s.data.toList u.data.toList).2.2 = true ∧
      B.size + u.size + E.size = s.size ∧
      B.data.toList ++ (partsT 48 t (runsL u) ++ E.data.toList) = fillP t s.data.toList s.size ((endsL (s.size : Int) us ds).zip us.tail) := by
  obtain ⟨b, e, hl, hb, he, ht⟩ := trim_split s.data.toList hall
  have hsl : s.size = b.length + (Lib.trimB s.data.toList 48).length + e.length := by
    have := congrArg List.length hl
    rw [size_toList, List.length_append, List.length_append] at this
    omega
  have hall2 : (Lib.trimB s.data.toList 48).all lvlB = true := by
    rw [hl, List.all_append, List.all_append] at hall
    simp only [Bool.and_eq_true] at hall
    exact hall.2.1
  obtain ⟨T, hT⟩ : ∃ T, Lib.trimB s.data.toList 48 = T := ⟨_, rfl⟩
  rw [hT] at hl ht hsl hall2 ⊢
  have hul : (⟨T.toArray⟩ : ByteArray).data.toList = T := by simp
  have hus3 : (⟨T.toArray⟩ : ByteArray).size = T.length := by rw [← size_toList, hul]
  rcases ht with ht | ⟨⟨t1, ht1⟩, ⟨t2, ht2⟩⟩
  · subst ht
    refine ⟨⟨([] : List UInt8).toArray⟩, ⟨#[]⟩, s, rfl, Nat.zero_le _, rfl, ?_, ?_, ?_, ?_, ?_⟩
    · rw [hul, cut_none]
    · rw [hul, cut_none]
    · rw [hul, cut_none]
    · show 0 + 0 + s.size = s.size; omega
    · have hz : ∀ x ∈ s.data.toList, x = 48 := by rw [hl]; intro x hx; simp at hx; exact hx.elim (hb x) (he x)
      have h0 : us = [] := by
        rw [hus]; unfold edgesL
        rw [List.map_eq_nil_iff, List.filter_eq_nil_iff]
        intro i hi
        rw [List.mem_range] at hi
        rw [lvL_get s i hi, show s[i] = 48 from hz _ (by simp [ByteArray.getElem_eq_getElem_data])]
        rw [show ((((48 : UInt8).toNat : Nat) : Int) == 49) = false from by decide]
        simp
      rw [h0]
      have hr : runsL (⟨([] : List UInt8).toArray⟩ : ByteArray) = [] := rfl
      rw [hr]
      show ([] : List UInt8) ++ ([] ++ s.data.toList) = _
      rw [List.nil_append, List.nil_append]
      simp only [List.tail_nil, List.zip_nil_right]
      unfold fillP
      apply List.ext_getElem
      · simp
      · intro i i1 i2
        simp only [List.getElem_map, List.getElem_range, hitS, List.any_nil, Bool.false_eq_true, if_false]
        rw [List.getD_eq_getElem?_getD, List.getElem?_eq_getElem i1]; rfl
  · have hcut := cut_split b T e t1 ht1 hb
    rw [← hl] at hcut
    have hTl : 0 < T.length := by rw [ht1]; simp
    refine ⟨⟨T.toArray⟩, ⟨b.toArray⟩, ⟨e.toArray⟩, rfl, by rw [hus3]; omega, by rw [hul]; exact hall2, ?_, ?_, ?_, ?_, ?_⟩
    · rw [hul, hcut]
    · rw [hul, hcut]
    · rw [hul, hcut]
    · rw [hus3, show (⟨b.toArray⟩ : ByteArray).size = b.length from by rw [← size_toList], show (⟨e.toArray⟩ : ByteArray).size = e.length from by rw [← size_toList]]; omega
    · have h49 : ∀ h : 0 < (⟨T.toArray⟩ : ByteArray).size, ((⟨T.toArray⟩ : ByteArray)[0].toNat : Int) = 49 := by
        intro h
        rw [← lvL_get _ 0 h, hul, ht1]; rfl
      have hlast : prL T T.length = 49 := by
        unfold prL
        rw [if_neg (by omega)]
        unfold lvL
        rw [ht2]
        simp [List.getD_eq_getElem?_getD]
      have hf := (fill_all (b := b) (T := T) (e := e) t ⟨T.toArray⟩ hul hb he hall2 (by rw [hus3]; exact hTl) (h49 (by rw [hus3]; exact hTl)) hlast s.size hsl us ds (by rw [hus, ← hl]) (by rw [hds, ← hl])).1
      rw [← hl] at hf
      unfold endsL
      rw [hf]
end Go.Proofs.YtkipgeecibimoaaDoor
