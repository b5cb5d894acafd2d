/- What the law of the filters asks, tick by tick. Plain lists alone. -/
import Derived.Test.YtafecdmcbpnniabDoorFltM
import Derived.Test.YtafecdmcbpnniabDoorPulW
import Derived.Test.YtafecdmcbpnniabDoorGapWords
import Derived.Test.YtafecdmcbpnniabDoorFillT
/- Rising and falling edges take turns; the short pulses of a filtered wave and the gaps of a filled one. Plain lists alone. -/
namespace Go.Proofs.YtafecdmcbpnniabDoor
set_option linter.unusedVariables false
set_option linter.unusedSimpArgs false

theorem getD_left {α : Type} (l r : List α) (i : Nat) (d : α) (h : i < l.length) : (l ++ r).getD i d = l.getD i d := by
  rw [List.getD_eq_getElem?_getD, List.getD_eq_getElem?_getD, List.getElem?_append_left h]
theorem getD_last {α : Type} (l : List α) (x : α) (i : Nat) (d : α) (h : i = l.length) : (l ++ [x]).getD i d = x := by
  subst h
  rw [List.getD_eq_getElem?_getD, List.getElem?_append_right (Nat.le_refl _)]; simp
theorem getD_in {α : Type} (l : List α) (i : Nat) (d : α) (h : i < l.length) : l.getD i d ∈ l := by
  rw [List.getD_eq_getElem?_getD, List.getElem?_eq_getElem h]; exact List.getElem_mem h
theorem edges_order (s : ByteArray) (hall : s.data.toList.all lvlB = true) : ∀ k, k ≤ s.size →
    (∀ i, i < (edgesL 48 s.data.toList k).length → (edgesL 49 s.data.toList k).getD i 0 < (edgesL 48 s.data.toList k).getD i 0) ∧
    (∀ i, i + 1 < (edgesL 49 s.data.toList k).length → (edgesL 48 s.data.toList k).getD i 0 < (edgesL 49 s.data.toList k).getD (i + 1) 0) := by
  intro k
  induction k with
  | zero => intro _; exact ⟨fun i h => by simp [edgesL] at h, fun i h => by simp [edgesL] at h⟩
  | succ k ih =>
    intro hk
    obtain ⟨o1, o2⟩ := ih (by omega)
    have hlt : k < s.size := by omega
    have hlv : lvlB s[k] = true := List.all_eq_true.1 hall s[k] (by simp [ByteArray.getElem_eq_getElem_data])
    have hl : (s[k].toNat : Int) = 48 ∨ (s[k].toNat : Int) = 49 := by simpa [lvlB] using hlv
    have bu := fun i h => edgesL_getD 49 s.data.toList k i h
    have bd := fun i h => edgesL_getD 48 s.data.toList k i h
    rcases edges_turn s hall k (by omega) with ⟨hp, hq⟩ | ⟨hp, hq⟩ <;> rcases hl with h | h
    · rw [edgesL_miss 49 s k hlt (.inl (by omega)), edgesL_miss 48 s k hlt (.inr hp)]; exact ⟨o1, o2⟩
    · rw [edgesL_hit 49 s k hlt h (by omega), edgesL_miss 48 s k hlt (.inl (by omega))]
      refine ⟨fun i hi => by rw [getD_left _ _ _ _ (by omega)]; exact o1 i hi, fun i hi => ?_⟩
      rw [List.length_append, List.length_singleton] at hi
      by_cases e : i + 1 < (edgesL 49 s.data.toList k).length
      · rw [getD_left _ _ _ _ e]; exact o2 i e
      · rw [getD_last _ _ _ _ (by omega)]; exact (bd i (by omega)).2
    · rw [edgesL_miss 49 s k hlt (.inl (by omega)), edgesL_hit 48 s k hlt h (by omega)]
      refine ⟨fun i hi => ?_, fun i hi => by rw [getD_left _ _ _ _ (by omega)]; exact o2 i hi⟩
      rw [List.length_append, List.length_singleton] at hi
      by_cases e : i < (edgesL 48 s.data.toList k).length
      · rw [getD_left _ _ _ _ e]; exact o1 i e
      · rw [getD_last _ _ _ _ (by omega)]; exact (bu i (by omega)).2
    · rw [edgesL_miss 49 s k hlt (.inr hp), edgesL_miss 48 s k hlt (.inl (by omega))]; exact ⟨o1, o2⟩
theorem downs_few (s : ByteArray) (hall : s.data.toList.all lvlB = true) : (edgesL 48 s.data.toList s.size).length ≤ (edgesL 49 s.data.toList s.size).length := by
  rcases edges_turn s hall s.size (Nat.le_refl _) with ⟨_, h⟩ | ⟨_, h⟩ <;> omega
theorem shL_none (c : Int) (us ds : List Int) (h : ∀ i, i < ds.length → c ≤ ds.getD i 0 - us.getD i 0) : ∀ k, shL c us ds k = [] := by
  intro k
  induction k with
  | zero => rfl
  | succ k ih =>
    unfold shL
    rw [if_neg (fun q => by have := h k q.1; omega)]
    exact ih
/-- a debounced wave has no pulses that are too short -/
theorem deb_short (s D : ByteArray) (T : Nat) (hT : 1 ≤ T) (hall : D.data.toList.all lvlB = true) (hl : ∀ j, j < D.size → lvL D.data.toList j = if filt (decDeb T) (bit s) T (j + 1) then 49 else 48) (k : Nat) :
    shL (T : Int) (edgesL 49 D.data.toList D.size) (edgesL 48 D.data.toList D.size) k = [] :=
  shL_none _ _ _ (fun i hi => deb_gap hT hl (getD_in _ i 0 (Nat.lt_of_lt_of_le hi (downs_few D hall))) (getD_in _ i 0 hi) ((edges_order D hall D.size (Nat.le_refl _)).1 i hi)) k
theorem str_short (s D : ByteArray) (T : Nat) (hT : 1 ≤ T) (hall : D.data.toList.all lvlB = true) (hl : ∀ j, j < D.size → lvL D.data.toList j = if filt decStr (bit s) T (j + 1) then 49 else 48) (k : Nat) :
    shL (T : Int) (edgesL 49 D.data.toList D.size) (edgesL 48 D.data.toList D.size) k = [] :=
  shL_none _ _ _ (fun i hi => str_gap hT hl (getD_in _ i 0 (Nat.lt_of_lt_of_le hi (downs_few D hall))) (getD_in _ i 0 hi) ((edges_order D hall D.size (Nat.le_refl _)).1 i hi)) k
/-- the gaps of a filled wave -/
theorem fill_gaps (D u : ByteArray) (b e : List UInt8) (t : Int) (hb : ∀ x ∈ b, x = 48) (he : ∀ x ∈ e, x = 48) (hu : u.data.toList.all lvlB = true) (hall : D.data.toList.all lvlB = true) (hD : D.data.toList = b ++ (partsT 48 t (runsL u) ++ e)) :
    ∀ x ∈ gapsL (edgesL 49 D.data.toList D.size) (edgesL 48 D.data.toList D.size) ((edgesL 49 D.data.toList D.size).length - 1), t ≤ x := by
  intro x hx
  unfold gapsL at hx
  obtain ⟨i, hi, rfl⟩ := List.mem_map.1 hx
  have hi := List.mem_range.1 hi
  have hm := downs_many D hall
  have ho := (edges_order D hall D.size (Nat.le_refl _)).2 i (by omega)
  have h1 := getD_in (edgesL 48 D.data.toList D.size) i 0 (by omega)
  have h2 := getD_in (edgesL 49 D.data.toList D.size) (i + 1) 0 (by omega)
  rw [hD] at h1 h2 ho ⊢
  exact fill_gap b e u t hb he hu D.size _ _ h1 h2 ho
end Go.Proofs.YtafecdmcbpnniabDoor
namespace Go.Proofs.YtafecdmcbpnniabDoor
set_option linter.unusedVariables false
set_option linter.unusedSimpArgs false

theorem fill_form (s : ByteArray) (t : Int) (hall : s.data.toList.all lvlB = true) :
    ∃ (u : ByteArray) (b e : List UInt8), u.data.toList.all lvlB = true ∧ (∀ x ∈ b, x = 48) ∧ (∀ x ∈ e, x = 48) ∧ b.length + u.size + e.length = s.size ∧
      fillP t s.data.toList s.size ((endsL (s.size : Int) (edgesL 49 s.data.toList s.size) (edgesL 48 s.data.toList s.size)).zip (edgesL 49 s.data.toList s.size).tail) = b ++ (partsT 48 t (runsL u) ++ e) := by
  obtain ⟨u, B, E, hu, hul, hua, hB, hE, hO, hsum, hfill⟩ := fill_parts s t hall _ _ rfl rfl
  obtain ⟨b, e, hl, hb, he, ht⟩ := trim_split s.data.toList hall
  have hu2 : u.data.toList = Lib.trimB s.data.toList 48 := by rw [hu]
  obtain ⟨T', hT'⟩ : ∃ T', Lib.trimB s.data.toList 48 = T' := ⟨_, rfl⟩
  rw [hT'] at hl ht hu2
  refine ⟨u, B.data.toList, E.data.toList, hua, ?_, ?_, by rw [size_toList, size_toList]; exact hsum, hfill.symm⟩
  · rw [← hB, hu2]
    rcases ht with ht | ⟨⟨t1, ht1⟩, _⟩
    · rw [ht, cut_none]; intro x hx; cases hx
    · rw [hl, cut_split b _ e t1 ht1 hb]; exact hb
  · rw [← hE, hu2]
    rcases ht with ht | ⟨⟨t1, ht1⟩, _⟩
    · rw [ht, cut_none]
      intro x hx
      rw [hl, ht] at hx
      rcases List.mem_append.1 hx with h | h
      · exact hb x h
      · rcases List.mem_append.1 h with h | h
        · cases h
        · exact he x h
    · rw [hl, cut_split b _ e t1 ht1 hb]; exact he
theorem partsT_lv (c t : Int) (Y : List (Int × Int)) : (partsT c t Y).all lvlB = true := by
  rw [List.all_eq_true]
  intro x hx
  unfold partsT at hx
  obtain ⟨l, hl, hxl⟩ := List.mem_flatten.1 hx
  obtain ⟨y, hy, rfl⟩ := List.mem_map.1 hl
  have := (List.mem_replicate.1 hxl).2
  rw [this]
  unfold outLev
  split <;> split <;> decide
theorem all_48 (b : List UInt8) (hb : ∀ x ∈ b, x = 48) : b.all lvlB = true := by
  rw [List.all_eq_true]; intro x hx; rw [hb x hx]; decide
theorem out_lv (f : Nat → Bool) (n j : Nat) (hj : j < n) : lvL (outS f n).data.toList j = if f j then 49 else 48 := by
  rw [outS_list]
  unfold lvL outL
  rw [List.getD_eq_getElem?_getD, List.getElem?_map, List.getElem?_range hj]
  simp only [Option.map_some, Option.getD_some]
  unfold lvU
  cases f j <;> rfl
theorem bit_lv (s : ByteArray) (j : Nat) : bit s j = (lvL s.data.toList j == 49) := rfl
theorem mk_size (l : List UInt8) : (⟨l.toArray⟩ : ByteArray).size = l.length := by rw [← size_toList]
theorem wave_of (s : ByteArray) (h1 : s.size ≤ 400) (h2 : s.data.toList.all lvlB = true) : waveB s.data.toList = true := by
  unfold waveB
  rw [Bool.and_eq_true, decide_eq_true_eq, size_toList]
  exact ⟨h2, by omega⟩
/-- all that the law asks of the four waves -/
structure FiltF (s C G P Q : ByteArray) (T : Nat) : Prop where
  cs : C.size = s.size
  gs : G.size = s.size
  ps : P.size = s.size
  qs : Q.size = s.size
  cw : waveB C.data.toList = true
  gw : waveB G.data.toList = true
  pw : waveB P.data.toList = true
  qw : waveB Q.data.toList = true
  csh : ∀ k, shL (T : Int) (edgesL 49 C.data.toList C.size) (edgesL 48 C.data.toList C.size) k = []
  gsh : ∀ k, shL (T : Int) (edgesL 49 G.data.toList G.size) (edgesL 48 G.data.toList G.size) k = []
  pg : ∀ x ∈ runsL P, x.1 = 49 → (T : Int) ≤ x.2
  qg : ∀ x ∈ gapsL (edgesL 49 Q.data.toList Q.size) (edgesL 48 Q.data.toList Q.size) ((edgesL 49 Q.data.toList Q.size).length - 1), (T : Int) ≤ x
  first : ∀ k, k < s.size → lvL C.data.toList k = 49 → T ≤ k + 1
  keepG : ∀ k, k < s.size → lvL s.data.toList k = 49 → lvL G.data.toList k = 49
  keepQ : ∀ k, k < s.size → lvL s.data.toList k = 49 → lvL Q.data.toList k = 49
  keepP : ∀ k, k < s.size → lvL P.data.toList k = 49 → lvL s.data.toList k = 49
  same : ∀ k q, k < s.size → T ≤ q → q ≤ k + 1 → (∀ i, k + 1 ≤ i + q → i ≤ k → lvL s.data.toList i = lvL s.data.toList k) → lvL C.data.toList k = lvL s.data.toList k
theorem filt_facts (s : ByteArray) (T : Nat) (hT : 1 ≤ T) (hn : s.size ≤ 400) (hall : s.data.toList.all lvlB = true) :
    FiltF s (outS (fltL (decDeb T) T s) s.size) (outS (fltL decStr T s) s.size) ⟨(partsT 49 (T : Int) (runsL s)).toArray⟩
      ⟨(fillP (T : Int) s.data.toList s.size ((endsL (s.size : Int) (edgesL 49 s.data.toList s.size) (edgesL 48 s.data.toList s.size)).zip (edgesL 49 s.data.toList s.size).tail)).toArray⟩ T := by
  have c1 := outS_size (fltL (decDeb T) T s) s.size
  have g1 := outS_size (fltL decStr T s) s.size
  have cw := outS_wave (fltL (decDeb T) T s) s.size hn
  have gw := outS_wave (fltL decStr T s) s.size hn
  have al : ∀ l : List UInt8, waveB l = true → l.all lvlB = true := fun l h => by unfold waveB at h; simp only [Bool.and_eq_true] at h; exact h.1
  have cl := fun j hj => out_lv (fltL (decDeb T) T s) s.size j hj
  have gl := fun j hj => out_lv (fltL decStr T s) s.size j hj
  have lv2 : ∀ k, k < s.size → lvL s.data.toList k = 48 ∨ lvL s.data.toList k = 49 := fun k hk => by
    have := List.all_eq_true.1 hall s[k] (by simp [ByteArray.getElem_eq_getElem_data])
    rw [lvL_get s k hk]; simpa [lvlB] using this
  obtain ⟨u, b, e, hua, hb, he, hsum, hf⟩ := fill_form s (T : Int) hall
  obtain ⟨X, hX⟩ : ∃ X, fillP (T : Int) s.data.toList s.size ((endsL (s.size : Int) (edgesL 49 s.data.toList s.size) (edgesL 48 s.data.toList s.size)).zip (edgesL 49 s.data.toList s.size).tail) = X := ⟨_, rfl⟩
  have hXl : X.length = s.size := by rw [← hX]; simp [fillP]
  have hX49 : ∀ k, k < s.size → lvL s.data.toList k = 49 → lvL X k = 49 := fun k hk h => by
    rw [← hX]
    unfold lvL at h ⊢
    unfold fillP
    rw [List.getD_eq_getElem?_getD, List.getElem?_map, List.getElem?_range hk]
    simp only [Option.map_some, Option.getD_some]
    split
    · rfl
    · exact h
  rw [hX] at hf ⊢
  have hXa : X.all lvlB = true := by rw [hf, List.all_append, List.all_append, all_48 b hb, partsT_lv, all_48 e he]; rfl
  have hps : (⟨(partsT 49 (T : Int) (runsL s)).toArray⟩ : ByteArray).size = s.size := by rw [mk_size, partsT_size s 49 _ hall]
  have hqs : (⟨X.toArray⟩ : ByteArray).size = s.size := by rw [mk_size, hXl]
  refine ⟨c1, g1, hps, hqs, cw, gw, wave_of _ (by omega) (partsT_lv _ _ _), wave_of _ (by omega) hXa, fun k => ?_, fun k => ?_, drop_ge s T 49 (.inr rfl) hall _ rfl, fill_gaps _ u b e (T : Int) hb he hua hXa hf, fun k hk h => ?_, fun k hk h => ?_, hX49, fun k hk h => ?_, fun k q hk hq hq2 h => ?_⟩
  · exact deb_short s _ T hT (al _ cw) (fun j hj => cl j (by omega)) k
  · exact str_short s _ T hT (al _ gw) (fun j hj => gl j (by omega)) k
  · rw [cl k hk] at h
    cases hx : fltL (decDeb T) T s k with
    | true => exact deb_first k hx
    | false => rw [hx] at h; exact absurd h (by decide)
  · rw [gl k hk]
    have : fltL decStr T s k = true := str_keep hT (by rw [bit_lv, h]; rfl)
    rw [this]; rfl
  · exact drop_keep s T hall k hk h
  · rw [cl k hk]
    have : fltL (decDeb T) T s k = bit s k := deb_same hT (by omega) (fun i h1 h2 => by rw [bit_lv, bit_lv, h i (by omega) h2])
    rw [this, bit_lv]
    rcases lv2 k hk with h | h <;> rw [h] <;> rfl
end Go.Proofs.YtafecdmcbpnniabDoor
