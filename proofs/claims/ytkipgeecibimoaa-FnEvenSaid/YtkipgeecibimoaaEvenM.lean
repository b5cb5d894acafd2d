/- Even patterns, turned and with the other levels: plain mathematics. -/
import Derived.Test.YtkipgeecibimoaaEven
import Derived.Test.YtkipgeecibimoaaUneven
import Derived.Test.YtkipgeecibimoaaLvMath
import Derived.Test.YtkipgeecibimoaaWinM
import Derived.Test.YtkipgeecibimoaaNotSpec
namespace Go.Proofs.Ytkipgeecibimoaa
open Go.RowKit
set_option linter.unusedVariables false
set_option linter.unusedSimpArgs false

theorem cntN_addE (m : Nat → Bool) (a b : Nat) : ∀ c, cntN m a (b + c) = cntN m a b + cntN m (a + b) c := by
  intro c
  induction c with
  | zero => rfl
  | succ c ih => rw [← Nat.add_assoc, cntN, ih, cntN, Nat.add_assoc a b c]; omega
theorem cntN_shift (m : Nat → Bool) (t i : Nat) : ∀ z, cntN (fun j => m (j + t)) i z = cntN m (i + t) z := by
  intro z
  induction z with
  | zero => rfl
  | succ z ih => rw [cntN, ih, cntN, show i + z + t = i + t + z by omega]
theorem cntN_not (m : Nat → Bool) (i : Nat) : ∀ z, cntN (fun j => !m j) i z + cntN m i z = z := by
  intro z
  induction z with
  | zero => rfl
  | succ z ih =>
    rw [cntN, cntN]
    cases m (i + z) <;> simp <;> omega
theorem cntN_ext (m m' : Nat → Bool) (i : Nat) (h : ∀ j, m j = m' j) (z : Nat) : cntN m i z = cntN m' i z := by rw [show m = m' from funext h]
theorem bit_getD (s : ByteArray) (k : Nat) : bit s k = (s.data.toList.getD k 0 == 49) := by
  unfold bit
  rw [Bool.eq_iff_iff]
  simp only [beq_iff_eq]
  constructor
  · intro h; exact UInt8.toNat_inj.1 (show (s.data.toList.getD k 0).toNat = 49 by omega)
  · intro h; rw [h]; rfl
theorem cnt_list (L : List UInt8) (b : Nat → Bool) (hb : ∀ j, j < L.length → b j = (L.getD j 0 == 49)) (i : Nat) : ∀ z, i + z ≤ L.length → ((L.drop i).take z).count 49 = cntN b i z := by
  intro z
  induction z with
  | zero => intro _; simp [cntN]
  | succ z ih =>
    intro h
    have h1 : z < (L.drop i).length := by rw [List.length_drop]; omega
    rw [List.take_succ_eq_append_getElem h1, List.count_append, ih (by omega), cntN, List.getElem_drop, hb (i + z) (by omega), List.getD_eq_getElem?_getD, List.getElem?_eq_getElem (by omega)]
    congr 1
    simp only [Option.getD_some]
    by_cases e : L[i + z] = 49
    · rw [e]; rfl
    · rw [if_neg (by simpa using e)]
      simp [e]
/-- the level at a place that goes round -/
def bR (s : ByteArray) (j : Nat) : Bool := bit s (j % s.size)
theorem bR_two (s : ByteArray) (j : Nat) (h : j < (s.data.toList ++ s.data.toList).length) : bR s j = ((s.data.toList ++ s.data.toList).getD j 0 == 49) := by
  rw [List.length_append, size_toList] at h
  unfold bR
  rw [bit_getD]
  by_cases hj : j < s.size
  · rw [Nat.mod_eq_of_lt hj, List.getD_eq_getElem?_getD, List.getD_eq_getElem?_getD, List.getElem?_append_left (by rw [size_toList]; exact hj)]
  · have e : j % s.size = j - s.size := by rw [Nat.mod_eq_sub_mod (by omega), Nat.mod_eq_of_lt (by omega)]
    rw [e, List.getD_eq_getElem?_getD, List.getD_eq_getElem?_getD, List.getElem?_append_right (by rw [size_toList]; omega), size_toList]
theorem cU_cnt (s : ByteArray) (z i : Nat) (hz : z ≤ s.size) (hi : i < s.size) : cU s z i = cntN (bR s) i z := by
  unfold cU onesC
  have e : ((s ++ s).extract i (i + z)).data.toList = ((s.data.toList ++ s.data.toList).drop i).take z := by
    rw [ByteArray.data_extract, Array.toList_extract, ByteArray.data_append, Array.toList_append]
    simp [List.extract]
  rw [e]
  exact cnt_list _ (bR s) (fun j hj => bR_two s j hj) i z (by rw [List.length_append, size_toList]; omega)
theorem bR_period (s : ByteArray) (j : Nat) : bR s (j + s.size) = bR s j := by unfold bR; rw [Nat.add_mod_right]
theorem cnt_round (s : ByteArray) (i : Nat) : cntN (bR s) i s.size = cntN (bR s) 0 s.size := by
  have h1 := cntN_addE (bR s) 0 i s.size
  have h2 := cntN_addE (bR s) 0 s.size i
  have h3 : cntN (bR s) (0 + s.size) i = cntN (bR s) 0 i := by
    rw [← cntN_shift]; exact cntN_ext _ _ _ (bR_period s) _
  rw [Nat.zero_add] at h1
  rw [h3, Nat.add_comm s.size i] at h2
  omega

-- what is uneven
theorem le_mn (c : Nat → Nat) (a x : Nat) (ha : x ≤ a) : ∀ k, (∀ i, i < k → x ≤ c i) → x ≤ mnF c a k := by
  intro k
  induction k with
  | zero => intro _; exact ha
  | succ k ih => intro h; rw [mnF]; have := ih (fun i hi => h i (by omega)); have := h k (by omega); omega
theorem mn_at (c : Nat → Nat) (a : Nat) : ∀ k i, i < k → mnF c a k ≤ c i := by
  intro k
  induction k with
  | zero => intro i h; omega
  | succ k ih =>
    intro i h
    rw [mnF]
    by_cases e : i = k
    · subst e; omega
    · have := ih i (by omega); omega
theorem mx_at (c : Nat → Nat) : ∀ k i, i < k → c i ≤ mxF c k := by
  intro k
  induction k with
  | zero => intro i h; omega
  | succ k ih =>
    intro i h
    rw [mxF]
    by_cases e : i = k
    · subst e; omega
    · have := ih i (by omega); omega
theorem un_le_d (C : Nat → Nat → Nat) (f : Nat → Nat) (n d : Nat) : ∀ z, (∀ j, j < z → ∀ i, i < n → C j i ≤ f j) → (∀ j, j < z → ∀ i i', i < n → i' < n → C j i ≤ C j i' + d) → unF C f n z ≤ d := by
  intro z
  induction z with
  | zero => intro _ _; rw [unF]; omega
  | succ z ih =>
    intro hf hd
    rw [unF]
    have h1 := ih (fun j hj => hf j (by omega)) (fun j hj => hd j (by omega))
    have h2 : mxF (C z) n ≤ mnF (C z) (f z) n + d := by
      refine mx_le _ _ _ (fun i hi => ?_)
      have h3 : C z i - d ≤ mnF (C z) (f z) n := by
        refine le_mn _ _ _ ?_ _ (fun i' hi' => ?_)
        · have := hf z (by omega) i hi; omega
        · have := hd z (by omega) i i' hi hi'; omega
      omega
    omega
theorem un_ge (C : Nat → Nat → Nat) (f : Nat → Nat) (n : Nat) : ∀ z j, j < z → ∀ i i', i < n → i' < n → C j i ≤ C j i' + unF C f n z := by
  intro z
  induction z with
  | zero => intro j h; omega
  | succ z ih =>
    intro j hj i i' hi hi'
    rw [unF]
    by_cases e : j = z
    · subst e
      have h1 := mx_at (C j) n i hi
      have h2 := mn_at (C j) (f j) n i' hi'
      omega
    · have := ih j (by omega) i i' hi hi'; omega
def unS (s : ByteArray) : Nat := unF (cU s) (fun _ => s.size) s.size s.size
theorem unS_le (s : ByteArray) (d : Nat) (h : ∀ j, j < s.size → ∀ i i', i < s.size → i' < s.size → cntN (bR s) i j ≤ cntN (bR s) i' j + d) : unS s ≤ d := by
  refine un_le_d _ _ _ _ _ (fun j hj i hi => ?_) (fun j hj i i' hi hi' => ?_)
  · have := cU_le s j i (by omega) hi; omega
  · rw [cU_cnt s j i (by omega) hi, cU_cnt s j i' (by omega) hi']; exact h j hj i i' hi hi'
theorem unS_ge (s : ByteArray) (j i i' : Nat) (hj : j < s.size) (hi : i < s.size) (hi' : i' < s.size) : cntN (bR s) i j ≤ cntN (bR s) i' j + unS s := by
  rw [← cU_cnt s j i (by omega) hi, ← cU_cnt s j i' (by omega) hi']
  exact un_ge _ _ _ _ j hj i i' hi hi'

-- the pattern of an accumulator
theorem acc_bit (s n : Nat) (hn : 0 < n) (hs : s ≤ n) : ∀ T p t, p < n → t < T → ((accL s n p T).getD t 0 = 49 ↔ (p + t * s) / n < (p + (t + 1) * s) / n) := by
  intro T
  induction T with
  | zero => intro p t _ h; omega
  | succ T ih =>
    intro p t hp ht
    rw [accL]
    cases t with
    | zero =>
      rw [Nat.zero_mul, Nat.add_zero, Nat.div_eq_of_lt hp, Nat.zero_add, Nat.one_mul]
      by_cases h : n ≤ p + s
      · rw [if_pos h]
        exact ⟨fun _ => Nat.div_pos h hn, fun _ => rfl⟩
      · rw [if_neg h, Nat.div_eq_of_lt (by omega)]
        exact ⟨fun q => by rw [List.getD_cons_zero] at q; exact absurd q (by decide), fun q => by omega⟩
    | succ t =>
      have e1 : (t + 1) * s = t * s + s := Nat.succ_mul t s
      have e2 : (t + 1 + 1) * s = t * s + s + s := by rw [Nat.succ_mul, e1]
      by_cases h : n ≤ p + s
      · rw [if_pos h, List.getD_cons_succ, ih (p + s - n) t (by omega) (by omega), e2, e1]
        obtain ⟨r, hr⟩ : ∃ r, p + s = r + n := ⟨p + s - n, by omega⟩
        rw [show p + s - n = r by omega, show p + (t * s + s) = (r + t * s) + n by omega, show p + (t * s + s + s) = (r + (t * s + s)) + n by omega, Nat.add_div_right _ hn, Nat.add_div_right _ hn]
        omega
      · rw [if_neg h, List.getD_cons_succ, ih (p + s) t (by omega) (by omega), e2, e1, show p + s + t * s = p + (t * s + s) by omega, show p + s + (t * s + s) = p + (t * s + s + s) by omega]
theorem div_two (x y n : Nat) (hn : 0 < n) : x / n + y / n ≤ (x + y) / n ∧ (x + y) / n ≤ x / n + y / n + 1 := by
  have hx := Nat.div_add_mod x n
  have hy := Nat.div_add_mod y n
  have h1 := Nat.mod_lt x hn
  have h2 := Nat.mod_lt y hn
  constructor
  · rw [Nat.le_div_iff_mul_le hn, Nat.add_mul, Nat.mul_comm (x / n), Nat.mul_comm (y / n)]; omega
  · have : (x + y) / n < x / n + y / n + 2 := by
      rw [Nat.div_lt_iff_lt_mul hn, Nat.add_mul, Nat.add_mul, Nat.mul_comm (x / n), Nat.mul_comm (y / n)]; omega
    omega
theorem even_step (A : ByteArray) (s n : Nat) (hn : 0 < n) (hs : s ≤ n) (hA : A = ⟨(accL s n 0 n).toArray⟩) (hsz : A.size = n) (j : Nat) : (j + 1) * s / n = j * s / n + (if bR A j then 1 else 0) := by
  obtain ⟨q, r, hr, hj⟩ : ∃ q r, r < n ∧ j = n * q + r := ⟨j / n, j % n, Nat.mod_lt j hn, (Nat.div_add_mod j n).symm⟩
  have hb : bR A j = true ↔ r * s / n < (r + 1) * s / n := by
    unfold bR
    rw [hsz, hj, Nat.mul_add_mod, Nat.mod_eq_of_lt hr, bit_getD, beq_iff_eq, hA]
    have := acc_bit s n hn hs n 0 r hn hr
    simpa using this
  have e1 : j * s = r * s + n * (q * s) := by rw [hj, Nat.add_mul, Nat.mul_assoc]; omega
  have e2 : (j + 1) * s = (r + 1) * s + n * (q * s) := by rw [Nat.succ_mul, e1, Nat.succ_mul]; omega
  rw [e1, e2, Nat.add_mul_div_left _ _ hn, Nat.add_mul_div_left _ _ hn]
  have e3 : (r + 1) * s = r * s + s := Nat.succ_mul r s
  have h1 := div_two (r * s) s n hn
  rw [← e3] at h1
  have h2 : s / n ≤ 1 := by
    rw [Nat.div_le_iff_le_mul hn]; omega
  have h3 : s = n → (r + 1) * s / n = r * s / n + 1 := fun q => by rw [e3]; subst q; rw [Nat.add_div_right _ hn]
  have h4 : s < n → s / n = 0 := fun q => Nat.div_eq_of_lt q
  generalize (r + 1) * s / n = X at *
  generalize r * s / n = Y at *
  generalize s / n = Z at *
  generalize q * s = M at *
  by_cases h : bR A j = true
  · have h5 := hb.1 h
    rw [if_pos h]
    rcases Nat.lt_or_ge s n with h6 | h6
    · have := h4 h6; omega
    · have := h3 (by omega); omega
  · have h5 : ¬ Y < X := fun q => h (hb.2 q)
    rw [if_neg h]
    omega
theorem even_cnt (A : ByteArray) (s n : Nat) (hn : 0 < n) (hs : s ≤ n) (hA : A = ⟨(accL s n 0 n).toArray⟩) (hsz : A.size = n) (T : Nat) : cntN (bR A) 0 T = T * s / n := by
  induction T with
  | zero => simp [cntN]
  | succ T ih => rw [cntN, Nat.zero_add, ih, even_step A s n hn hs hA hsz T]
theorem even_win (A : ByteArray) (s n : Nat) (hn : 0 < n) (hs : s ≤ n) (hA : A = ⟨(accL s n 0 n).toArray⟩) (hsz : A.size = n) (i z : Nat) : z * s / n ≤ cntN (bR A) i z ∧ cntN (bR A) i z ≤ z * s / n + 1 := by
  have h1 := cntN_addE (bR A) 0 i z
  rw [even_cnt A s n hn hs hA hsz, even_cnt A s n hn hs hA hsz, Nat.zero_add, Nat.add_mul] at h1
  have h2 := div_two (i * s) (z * s) n hn
  omega
/-- the pattern, turned, and with the other levels -/
theorem even_three (A U O : ByteArray) (s n t : Nat) (hn : 0 < n) (hs : s ≤ n) (ht : t < n) (hA : A = ⟨(accL s n 0 n).toArray⟩) (hsz : A.size = n)
    (hU : U.data.toList = A.data.toList.drop t ++ A.data.toList.take t) (hO : O.data.toList = notL U.data.toList) (hw : waveB A.data.toList = true) :
    U.size = n ∧ O.size = n ∧ unS A ≤ 1 ∧ unS U ≤ 1 ∧ unS O ≤ 1 ∧ onesC A = s := by
  have hUs : U.size = n := by rw [← size_toList, hU, List.length_append, List.length_drop, List.length_take, size_toList]; omega
  have hOs : O.size = n := by rw [← size_toList, hO]; unfold notL; rw [List.length_map, size_toList]; exact hUs
  have hbU : ∀ j, bR U j = bR A (j + t) := by
    intro j
    unfold bR
    rw [hUs, hsz, ← Nat.mod_add_mod j n t]
    have hj := Nat.mod_lt j hn
    generalize j % n = r at *
    rw [bit_getD, bit_getD, hU]
    congr 1
    by_cases hr : r + t < n
    · rw [Nat.mod_eq_of_lt hr, List.getD_eq_getElem?_getD, List.getElem?_append_left (by rw [List.length_drop, size_toList]; omega), List.getElem?_drop, List.getD_eq_getElem?_getD, Nat.add_comm t r]
    · rw [Nat.mod_eq_sub_mod (by omega), Nat.mod_eq_of_lt (by omega), List.getD_eq_getElem?_getD, List.getElem?_append_right (by rw [List.length_drop, size_toList]; omega), List.length_drop, size_toList, hsz, List.getElem?_take_of_lt (by omega), List.getD_eq_getElem?_getD, show r - (n - t) = r + t - n by omega]
  have hUw : ∀ x ∈ U.data.toList, x = 48 ∨ x = 49 := by
    intro x hx
    rw [hU] at hx
    have hx2 : x ∈ A.data.toList := by
      rcases List.mem_append.1 hx with h | h
      · exact List.mem_of_mem_drop h
      · exact List.mem_of_mem_take h
    unfold waveB at hw
    simp only [Bool.and_eq_true] at hw
    have h := List.all_eq_true.1 hw.1 x hx2
    have h2 : (x.toNat : Int) = 48 ∨ (x.toNat : Int) = 49 := by simpa [lvlB] using h
    rcases h2 with h2 | h2
    · exact .inl (UInt8.toNat_inj.1 (show x.toNat = 48 by omega))
    · exact .inr (UInt8.toNat_inj.1 (show x.toNat = 49 by omega))
  have hbO : ∀ j, bR O j = !bR U j := by
    intro j
    unfold bR
    rw [hUs, hOs]
    have hj := Nat.mod_lt j hn
    generalize j % n = r at *
    have hr : r < U.data.toList.length := by rw [size_toList]; omega
    rw [bit_getD, bit_getD, hO]
    unfold notL
    rw [List.getD_eq_getElem?_getD, List.getElem?_map, List.getD_eq_getElem?_getD, List.getElem?_eq_getElem hr]
    simp only [Option.map_some, Option.getD_some]
    rcases hUw _ (List.getElem_mem hr) with h | h <;> rw [h] <;> decide
  have hw1 := fun i z => even_win A s n hn hs hA hsz i z
  have hw2 : ∀ i z, z * s / n ≤ cntN (bR U) i z ∧ cntN (bR U) i z ≤ z * s / n + 1 := by
    intro i z
    rw [cntN_ext _ _ i hbU z, cntN_shift]
    exact hw1 (i + t) z
  have hw3 : ∀ i z, cntN (bR O) i z + cntN (bR U) i z = z := by
    intro i z
    rw [cntN_ext _ _ i hbO z]
    exact cntN_not (bR U) i z
  refine ⟨hUs, hOs, unS_le A 1 (fun j _ i i' _ _ => ?_), unS_le U 1 (fun j _ i i' _ _ => ?_), unS_le O 1 (fun j _ i i' _ _ => ?_), ?_⟩
  · have := hw1 i j; have := hw1 i' j; omega
  · have := hw2 i j; have := hw2 i' j; omega
  · have := hw2 i j; have := hw2 i' j; have := hw3 i j; have := hw3 i' j; omega
  · have h := even_cnt A s n hn hs hA hsz n
    rw [Nat.mul_div_cancel_left _ hn] at h
    have h2 := cnt_list A.data.toList (bit A) (fun j _ => bit_getD A j) 0 n (by rw [size_toList]; omega)
    rw [List.drop_zero, List.take_of_length_le (by rw [size_toList]; omega)] at h2
    unfold onesC
    rw [h2, ← h]
    have : ∀ T, T ≤ n → cntN (bit A) 0 T = cntN (bR A) 0 T := by
      intro T
      induction T with
      | zero => intro _; rfl
      | succ T ih =>
        intro hT
        rw [cntN, cntN, ih (by omega)]
        unfold bR
        rw [hsz, Nat.zero_add, Nat.mod_eq_of_lt (by omega)]
    exact this n (Nat.le_refl _)
end Go.Proofs.Ytkipgeecibimoaa
