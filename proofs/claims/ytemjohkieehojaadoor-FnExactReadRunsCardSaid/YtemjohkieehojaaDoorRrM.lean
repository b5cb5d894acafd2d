/- The wave of a text of runs: mathematics. -/
import Derived.Test.YtemjohkieehojaaDoorPieM
import Derived.Test.YtemjohkieehojaaDoorRunM
namespace Go.Proofs.YtemjohkieehojaaDoor
open Go.Lib
set_option linter.unusedVariables false
set_option linter.unusedSimpArgs false
theorem snoc_ind {α : Type} {P : List α → Prop} (h0 : P []) (h1 : ∀ l x, P l → P (l ++ [x])) : ∀ l, P l := by
  intro l
  have h : ∀ r : List α, P r.reverse := by
    intro r
    induction r with
    | nil => exact h0
    | cons x r ih => rw [List.reverse_cons]; exact h1 _ _ ih
  have := h l.reverse
  rwa [List.reverse_reverse] at this
/-- a piece: its level and its length -/
def pr (t : List UInt8) : Option (UInt8 × Int) := match t with
  | a :: b :: d => if (a = 48 ∨ a = 49) ∧ b = 120 then (rd 1000000000000000 d).map (fun n => (a, n)) else none
  | _ => none
def fl (ps : List (UInt8 × Int)) : List UInt8 := (ps.map fun x => List.replicate x.2.toNat x.1).flatten
theorem fl_snoc (ps : List (UInt8 × Int)) (x : UInt8 × Int) : fl (ps ++ [x]) = fl ps ++ List.replicate x.2.toNat x.1 := by simp [fl]
def stP (o : Option (List (UInt8 × Int))) (t : List UInt8) : Option (List (UInt8 × Int)) := match o with
  | none => none
  | some acc => match pr t with
    | none => none
    | some x => if 1 ≤ x.2 ∧ x.2 ≤ 400 - ((fl acc).length : Int) then some (acc ++ [x]) else none
def rrP (D : List (List UInt8)) : Option (List (UInt8 × Int)) := D.foldl stP (some [])
theorem rrP_snoc (D : List (List UInt8)) (t : List UInt8) : rrP (D ++ [t]) = stP (rrP D) t := by unfold rrP; rw [List.foldl_append]; rfl
theorem stP_none : ∀ (R : List (List UInt8)), R.foldl stP none = none
  | [] => rfl
  | t :: R => by rw [List.foldl_cons]; exact stP_none R
theorem rrP_bad {D R : List (List UInt8)} {acc : List (UInt8 × Int)} {t : List UInt8} (h : rrP D = some acc) (hp : stP (some acc) t = none) : rrP ((D ++ [t]) ++ R) = none := by
  unfold rrP
  rw [List.foldl_append]
  have := rrP_snoc D t
  rw [h, hp] at this
  unfold rrP at this
  rw [this]; exact stP_none R
/-- no two neighbours have one level -/
def alt : List (UInt8 × Int) → Bool
  | [] => true
  | [_] => true
  | x :: y :: r => decide (x.1 ≠ y.1) && alt (y :: r)
def lastL (ps : List (UInt8 × Int)) : Option UInt8 := ps.getLast?.map (·.1)
theorem lastL_snoc (ps : List (UInt8 × Int)) (x : UInt8 × Int) : lastL (ps ++ [x]) = some x.1 := by simp [lastL]
theorem alt_snoc : ∀ (ps : List (UInt8 × Int)) (x : UInt8 × Int), alt (ps ++ [x]) = (alt ps && decide (lastL ps ≠ some x.1))
  | [], x => by simp [alt, lastL]
  | [y], x => by simp [alt, lastL]
  | y :: z :: r, x => by
    have ih := alt_snoc (z :: r) x
    rw [List.cons_append, List.cons_append, alt, ← List.cons_append, ih, alt, Bool.and_assoc]
    congr 2
theorem alt_app : ∀ (ps qs : List (UInt8 × Int)), alt (ps ++ qs) = true → alt ps = true
  | [], qs, _ => rfl
  | [y], qs, _ => rfl
  | y :: z :: r, qs, h => by
    rw [List.cons_append, List.cons_append, alt, Bool.and_eq_true] at h
    rw [alt, Bool.and_eq_true]
    exact ⟨h.1, alt_app (z :: r) qs h.2⟩
/-- the wave with a text of runs -/
def rrA (T : List UInt8) : Option (List UInt8) := match rrP (pcs 32 T) with
  | none => none
  | some ps => if alt ps = true then some (fl ps) else none
def Okp (ps : List (UInt8 × Int)) : Prop := ∀ x ∈ ps, (x.1 = 48 ∨ x.1 = 49) ∧ 1 ≤ x.2
theorem pr_some {t : List UInt8} {x : UInt8 × Int} (h : pr t = some x) : t = [x.1, 120] ++ itoa x.2 ∧ (x.1 = 48 ∨ x.1 = 49) := by
  unfold pr at h
  split at h
  · rename_i a b d
    split at h
    · rename_i hc
      cases hr : rd 1000000000000000 d with
      | none => rw [hr] at h; simp at h
      | some n =>
        rw [hr] at h
        simp at h
        subst h
        obtain ⟨-, hi⟩ := rd_some hr
        exact ⟨by rw [hi, hc.2]; rfl, hc.1⟩
    · simp at h
  · simp at h
theorem stP_some {acc ps : List (UInt8 × Int)} {t : List UInt8} (h : stP (some acc) t = some ps) : ∃ x, pr t = some x ∧ 1 ≤ x.2 ∧ x.2 ≤ 400 - ((fl acc).length : Int) ∧ ps = acc ++ [x] := by
  unfold stP at h
  simp only at h
  cases hp : pr t with
  | none => rw [hp] at h; simp at h
  | some x =>
    rw [hp] at h
    simp only at h
    split at h
    · rename_i hc
      simp at h
      exact ⟨x, rfl, hc.1, hc.2, h.symm⟩
    · simp at h
theorem rrP_ok : ∀ (D : List (List UInt8)) (acc : List (UInt8 × Int)), rrP D = some acc → Okp acc ∧ (fl acc).length ≤ 400 ∧ acc.length = D.length := by
  refine snoc_ind ?_ ?_
  · intro acc h; simp [rrP] at h; subst h; exact ⟨by intro x hx; simp at hx, by simp [fl], rfl⟩
  · intro D t ih acc h
    rw [rrP_snoc] at h
    cases hD : rrP D with
    | none => rw [hD] at h; simp [stP] at h
    | some a =>
      rw [hD] at h
      obtain ⟨h1, h2, h3⟩ := ih a hD
      obtain ⟨x, hx, k1, k2, rfl⟩ := stP_some h
      refine ⟨?_, ?_, by simp [h3]⟩
      · intro y hy
        rcases List.mem_append.1 hy with q | q
        · exact h1 y q
        · simp at q; subst q; exact ⟨(pr_some hx).2, k1⟩
      · rw [fl_snoc, List.length_append, List.length_replicate]; omega
theorem fl_last : ∀ (ps : List (UInt8 × Int)), Okp ps → (fl ps).getLast? = lastL ps := by
  refine snoc_ind (by intro _; rfl) ?_
  intro ps x _ h
  have hx := (h x (by simp)).2
  rw [fl_snoc, lastL_snoc]
  obtain ⟨k, hk⟩ : ∃ k, x.2.toNat = k + 1 := ⟨x.2.toNat - 1, by omega⟩
  rw [hk, List.replicate_succ', ← List.append_assoc, List.getLast?_concat]
theorem fl_empty (ps : List (UInt8 × Int)) (h : Okp ps) : fl ps = [] ↔ ps = [] := by
  rcases List.eq_nil_or_concat ps with rfl | ⟨qs, x, rfl⟩
  · simp [fl]
  · rw [List.concat_eq_append] at h ⊢
    have hx := (h x (by simp)).2
    rw [fl_snoc]
    simp
    intro _; omega
theorem fl_wave (ps : List (UInt8 × Int)) (h : Okp ps) : ∀ b ∈ fl ps, b = 48 ∨ b = 49 := by
  intro b hb
  unfold fl at hb
  rw [List.mem_flatten] at hb
  obtain ⟨l, hl, hbl⟩ := hb
  rw [List.mem_map] at hl
  obtain ⟨x, hx, rfl⟩ := hl
  rw [(List.mem_replicate.1 hbl).2]
  exact (h x hx).1
/-- texts between the bytes c -/
def jnP (c : UInt8) : List (List UInt8) → List UInt8
  | [] => []
  | [t] => t
  | t :: u :: r => t ++ c :: jnP c (u :: r)
theorem jnP_pcs (c : UInt8) : ∀ T, jnP c (pcs c T) = T
  | [] => rfl
  | b :: r => by
    have ih := jnP_pcs c r
    unfold pcs
    split
    · rename_i hb
      cases hp : pcs c r with
      | nil => exact absurd hp (pcs_ne c r)
      | cons q qs => rw [hp] at ih; rw [jnP, ih, hb]; rfl
    · cases hp : pcs c r with
      | nil => exact absurd hp (pcs_ne c r)
      | cons q qs =>
        rw [hp] at ih
        cases qs with
        | nil => simp only [jnP] at ih ⊢; rw [ih]
        | cons u us => simp only [jnP] at ih ⊢; rw [List.cons_append, ih]
theorem jnP_snoc (c : UInt8) : ∀ (D : List (List UInt8)) (t : List UInt8), D ≠ [] → jnP c (D ++ [t]) = jnP c D ++ ([c] ++ t)
  | [], t, h => absurd rfl h
  | [u], t, _ => by simp [jnP]
  | u :: v :: r, t, _ => by
    have ih := jnP_snoc c (v :: r) t (by simp)
    rw [List.cons_append, List.cons_append, jnP, ← List.cons_append, ih, jnP]
    simp
/-- the text of parts -/
def tx (ps : List (UInt8 × Int)) : List UInt8 := ps.foldl (fun a x => a ++ (sepR a ++ ([x.1, 120] ++ itoa x.2))) []
theorem tx_snoc (ps : List (UInt8 × Int)) (x : UInt8 × Int) : tx (ps ++ [x]) = tx ps ++ (sepR (tx ps) ++ ([x.1, 120] ++ itoa x.2)) := by simp [tx]
theorem tx_empty (ps : List (UInt8 × Int)) : (tx ps).isEmpty = ps.isEmpty := by
  rcases List.eq_nil_or_concat ps with rfl | ⟨qs, x, rfl⟩
  · rfl
  · rw [List.concat_eq_append, tx_snoc]
    have e1 : (tx qs ++ (sepR (tx qs) ++ ([x.1, 120] ++ itoa x.2))).isEmpty = false := by
      cases h : (tx qs ++ (sepR (tx qs) ++ ([x.1, 120] ++ itoa x.2))) with
      | nil => simp at h
      | cons _ _ => rfl
    have e2 : (qs ++ [x]).isEmpty = false := by
      cases h : qs ++ [x] with
      | nil => simp at h
      | cons _ _ => rfl
    rw [e1, e2]
theorem tx_jn : ∀ (D : List (List UInt8)) (acc : List (UInt8 × Int)), rrP D = some acc → tx acc = jnP 32 D := by
  refine snoc_ind ?_ ?_
  · intro acc h; simp [rrP] at h; subst h; rfl
  · intro D t ih acc h
    have hl := (rrP_ok _ _ h).2.2
    rw [rrP_snoc] at h
    cases hD : rrP D with
    | none => rw [hD] at h; simp [stP] at h
    | some a =>
      rw [hD] at h
      obtain ⟨x, hx, -, -, rfl⟩ := stP_some h
      have hi := ih a hD
      have hla := (rrP_ok _ _ hD).2.2
      rw [tx_snoc, ← (pr_some hx).1]
      cases D with
      | nil =>
        obtain rfl : a = [] := by simpa using hla
        simp [tx, sepR, jnP]
      | cons d ds =>
        rw [jnP_snoc 32 _ _ (by simp), hi]
        have he : (jnP 32 (d :: ds)).isEmpty = false := by
          rw [← hi, tx_empty]
          cases a with
          | nil => simp at hla
          | cons _ _ => rfl
        unfold sepR
        rw [he]; rfl
theorem tx_text {T : List UInt8} {ps : List (UInt8 × Int)} (h : rrP (pcs 32 T) = some ps) : tx ps = T := by
  rw [tx_jn _ _ h, jnP_pcs]
theorem itoa_free32 {n : Int} (h : 0 ≤ n) : (itoa n).count 32 = 0 := by
  rw [List.count_eq_zero, itoa_nn h]
  intro hb
  have := dig_dec n.natAbs n.natAbs (Nat.le_refl _) 32 hb
  have e : (32 : UInt8).toNat = 32 := rfl
  omega
theorem tx_count : ∀ (ps : List (UInt8 × Int)), Okp ps → (tx ps).count 32 = ps.length - 1 := by
  refine snoc_ind (by intro _; rfl) ?_
  intro ps x ih h
  have h1 : Okp ps := fun y hy => h y (by simp [hy])
  have hx := h x (by simp)
  have hc : ([x.1, 120] : List UInt8).count 32 = 0 := by
    rcases hx.1 with e | e <;> rw [e] <;> rfl
  rw [tx_snoc, List.count_append, List.count_append, List.count_append, ih h1, hc, itoa_free32 (by omega)]
  cases ps with
  | nil => simp [tx, sepR]
  | cons y ys =>
    have he := tx_empty (y :: ys)
    unfold sepR
    rw [he]
    simp
/-- neighbours of one level joined -/
def mst (a : List (UInt8 × Int) × (UInt8 × Int)) (x : UInt8 × Int) : List (UInt8 × Int) × (UInt8 × Int) :=
  if x.1 = a.2.1 then (a.1, (a.2.1, a.2.2 + x.2)) else (a.1 ++ [a.2], x)
def mgF (x : UInt8 × Int) (r : List (UInt8 × Int)) : List (UInt8 × Int) × (UInt8 × Int) := r.foldl mst ([], x)
theorem mgF_snoc (x : UInt8 × Int) (r : List (UInt8 × Int)) (y : UInt8 × Int) : mgF x (r ++ [y]) = mst (mgF x r) y := by unfold mgF; rw [List.foldl_append]; rfl
theorem mgF_alt (x : UInt8 × Int) : ∀ r, alt (x :: r) = true → (mgF x r).1 ++ [(mgF x r).2] = x :: r := by
  refine snoc_ind (by intro _; rfl) ?_
  intro r y ih h
  rw [← List.cons_append, alt_snoc, Bool.and_eq_true] at h
  have i1 := ih h.1
  rw [mgF_snoc]
  have hl : lastL (x :: r) = some (mgF x r).2.1 := by rw [← i1, lastL_snoc]
  have hne : ¬ y.1 = (mgF x r).2.1 := by
    intro e
    have := h.2
    rw [hl, e] at this
    simp at this
  unfold mst
  rw [if_neg hne]
  simp only
  rw [i1, List.cons_append]
theorem mgF_len (x : UInt8 × Int) : ∀ r, (mgF x r).1.length ≤ r.length ∧ ((mgF x r).1.length = r.length → alt (x :: r) = true) := by
  refine snoc_ind ⟨Nat.le_refl _, fun _ => rfl⟩ ?_
  intro r y ih
  rw [mgF_snoc]
  unfold mst
  split
  · refine ⟨by simp; omega, fun h => ?_⟩
    simp at h; omega
  · rename_i hne
    refine ⟨by simp; omega, fun h => ?_⟩
    have ha := ih.2 (by simp at h; omega)
    have i1 := mgF_alt x r ha
    rw [← List.cons_append, alt_snoc, Bool.and_eq_true]
    refine ⟨ha, decide_eq_true ?_⟩
    rw [← i1, lastL_snoc]
    intro e
    exact hne (Option.some.inj e).symm
theorem mgF_ok (x : UInt8 × Int) : ∀ r, Okp (x :: r) → Okp ((mgF x r).1 ++ [(mgF x r).2]) := by
  refine snoc_ind (fun h => h) ?_
  intro r y ih h
  have h1 := ih (fun z hz => h z (by simp at hz ⊢; rcases hz with q | q; exact .inl q; exact .inr (.inl q)))
  have hy := h y (by simp)
  rw [mgF_snoc]
  unfold mst
  have hc := h1 (mgF x r).2 (by simp)
  split
  · intro z hz
    rcases List.mem_append.1 hz with q | q
    · exact h1 z (by simp [q])
    · simp at q; subst q; exact ⟨hc.1, by simp only; omega⟩
  · intro z hz
    rcases List.mem_append.1 hz with q | q
    · exact h1 z q
    · simp at q; subst q; exact hy
theorem tx_iff {x : UInt8 × Int} {r : List (UInt8 × Int)} (h : Okp (x :: r)) : tx ((mgF x r).1 ++ [(mgF x r).2]) = tx (x :: r) ↔ alt (x :: r) = true := by
  constructor
  · intro e
    have c1 := tx_count _ (mgF_ok x r h)
    have c2 := tx_count _ h
    rw [e, c2] at c1
    simp at c1
    exact (mgF_len x r).2 c1.symm
  · intro ha
    rw [mgF_alt x r ha]
theorem go_same {s : ByteArray} {a : Nat} {L : List UInt8} (hall : s.data.toList.all lvlB = true) : ∀ (k i : Nat), RunSt s i a L → 1 ≤ i → (hk : i + k ≤ s.size) → (∀ t (h1 : i ≤ t) (h2 : t < i + k) (ha : a < s.size), (s[t]'(by omega)).toNat = s[a].toNat) → RunSt s (i + k) a L
  | 0, i, h, _, _, _ => h
  | k + 1, i, h, hi, hk, hs => by
    obtain ⟨h1, ⟨ha, -, -, hsame, -⟩, -⟩ := h.next hall hi (by omega)
    have h2 := hsame (by omega) (hs i (Nat.le_refl _) (by omega) ha)
    have h3 := go_same hall k (i + 1) h2 (by omega) (by omega) (fun t q1 q2 q3 => hs t (by omega) (by omega) q3)
    rwa [show i + 1 + k = i + (k + 1) by omega] at h3
theorem fl_app (a b : List (UInt8 × Int)) : fl (a ++ b) = fl a ++ fl b := by simp [fl]
theorem fl_get {s : ByteArray} {A : List UInt8} {y : UInt8 × Int} {B : List UInt8} (h : s.data.toList = A ++ (List.replicate y.2.toNat y.1 ++ B)) (t : Nat) (h1 : A.length ≤ t) (h2 : t < A.length + y.2.toNat) : ∃ hs : t < s.size, s[t] = y.1 := by
  have hz : s.size = A.length + (y.2.toNat + B.length) := by rw [← size_toList, h]; simp
  have hs : t < s.size := by omega
  refine ⟨hs, ?_⟩
  have e : s[t] = s.data.toList[t]'(by rw [size_toList]; exact hs) := rfl
  rw [e]
  simp only [h]
  rw [List.getElem_append_right h1, List.getElem_append_left (by simp; omega), List.getElem_replicate]
theorem mg_run (s : ByteArray) (hall : s.data.toList.all lvlB = true) (x : UInt8 × Int) : ∀ (r : List (UInt8 × Int)), ∀ post, s.data.toList = fl ((x :: r) ++ post) → Okp (x :: r) →
    RunSt s (fl (x :: r)).length (fl (mgF x r).1).length (tx (mgF x r).1) ∧ (∃ ha : (fl (mgF x r).1).length < s.size, s[(fl (mgF x r).1).length] = (mgF x r).2.1) ∧ ((fl (x :: r)).length : Int) = (fl (mgF x r).1).length + (mgF x r).2.2 ∧ 1 ≤ (fl (x :: r)).length := by
  refine snoc_ind ?_ ?_
  · intro post h hok
    have hx := (hok x (by simp)).2
    have hf : fl [x] = List.replicate x.2.toNat x.1 := by simp [fl]
    rw [fl_app, hf] at h
    have hg := fl_get (A := []) (y := x) (B := fl post) (by rw [h]; rfl)
    obtain ⟨h0, e0⟩ := hg 0 (Nat.le_refl _) (by simp; omega)
    have hl : (fl [x]).length = x.2.toNat := by rw [hf]; simp
    have hz : s.size = x.2.toNat + (fl post).length := by rw [← size_toList, h]; simp
    refine ⟨?_, ⟨h0, e0⟩, by rw [hl]; show _ = ((fl []).length : Int) + x.2; simp [fl]; omega, by rw [hl]; omega⟩
    rw [hl]
    have := go_same hall (x.2.toNat - 1) 1 (RunSt.start s h0) (Nat.le_refl _) (by omega) (fun t q1 q2 q3 => by
      obtain ⟨q4, q5⟩ := hg t (Nat.zero_le _) (by simp; omega)
      show (s[t]).toNat = (s[0]).toNat
      rw [q5, e0])
    rwa [show 1 + (x.2.toNat - 1) = x.2.toNat by omega] at this
  · intro r y ih post h hok
    have hy := hok y (by simp)
    have hok1 : Okp (x :: r) := fun z hz => hok z (by simp at hz ⊢; rcases hz with q | q; exact .inl q; exact .inr (.inl q))
    obtain ⟨i1, ⟨ha, i2⟩, i3, i4⟩ := ih (y :: post) (by rw [h]; congr 1; simp) hok1
    rw [← List.cons_append, fl_app, fl_app, List.append_assoc, show fl [y] = List.replicate y.2.toNat y.1 by simp [fl]] at h
    have hg := fl_get h
    have hz : s.size = (fl (x :: r)).length + (y.2.toNat + (fl post).length) := by rw [← size_toList, h]; simp
    have hlen : (fl (x :: (r ++ [y]))).length = (fl (x :: r)).length + y.2.toNat := by rw [← List.cons_append, fl_snoc]; simp
    rw [hlen, mgF_snoc]
    by_cases hc : y.1 = (mgF x r).2.1
    · have hm : mst (mgF x r) y = ((mgF x r).1, ((mgF x r).2.1, (mgF x r).2.2 + y.2)) := by unfold mst; rw [if_pos hc]
      rw [hm]
      refine ⟨go_same hall _ _ i1 i4 (by omega) (fun t q1 q2 q3 => ?_), ⟨ha, i2⟩, by simp only; omega, by omega⟩
      obtain ⟨q4, q5⟩ := hg t q1 q2
      rw [q5, i2, hc]
    · have hm : mst (mgF x r) y = ((mgF x r).1 ++ [(mgF x r).2], y) := by unfold mst; rw [if_neg hc]
      rw [hm]
      have q0 : 0 < y.2.toNat := by omega
      have q1 : (fl (x :: r)).length ≤ s.size := by omega
      have q2 : (fl (x :: r)).length + 1 + (y.2.toNat - 1) ≤ s.size := by omega
      have q3 : (((fl (x :: r)).length + y.2.toNat : Nat) : Int) = ((fl (x :: r)).length : Int) + y.2 := by omega
      have q4 : (fl (x :: r)).length + 1 + (y.2.toNat - 1) = (fl (x :: r)).length + y.2.toNat := by omega
      have q5 : 1 ≤ (fl (x :: r)).length + y.2.toNat := by omega
      have q6 : ((fl (x :: r)).length : Int) - ((fl (mgF x r).1).length : Int) = (mgF x r).2.2 := by omega
      have hfl : (fl ((mgF x r).1 ++ [(mgF x r).2])).length = (fl (x :: r)).length := by
        rw [fl_snoc, List.length_append, List.length_replicate]
        have := mgF_ok x r hok1 (mgF x r).2 (by simp)
        omega
      have htx : tx ((mgF x r).1 ++ [(mgF x r).2]) = tx (mgF x r).1 ++ (sepR (tx (mgF x r).1) ++ ([s[(fl (mgF x r).1).length], 120] ++ itoa (((fl (x :: r)).length : Int) - ((fl (mgF x r).1).length : Int)))) := by
        rw [tx_snoc, i2, q6]
      have hlev : ∀ (t : Nat) (h1 : (fl (x :: r)).length ≤ t) (h2 : t < (fl (x :: r)).length + y.2.toNat) (hs : t < s.size), s[t] = y.1 := fun t h1 h2 hs => (hg t h1 h2).2
      have hend : ∃ ha : (fl ((mgF x r).1 ++ [(mgF x r).2])).length < s.size, s[(fl ((mgF x r).1 ++ [(mgF x r).2])).length] = y.1 := hg _ (Nat.le_of_eq hfl.symm) (by rw [hfl]; omega)
      obtain ⟨-, ⟨ha', -, -, -, hdiff⟩, -⟩ := i1.next hall i4 q1
      have hd := hdiff (fun q e => hc (by rw [← hlev _ (Nat.le_refl _) (by omega) q, ← i2]; exact UInt8.toNat_inj.1 e))
      rw [← htx] at hd
      have hru := go_same hall (y.2.toNat - 1) ((fl (x :: r)).length + 1) hd (Nat.le_add_left 1 _) q2 (fun t k1 k2 k3 => by
        rw [hlev t (Nat.le_of_succ_le k1) (by rw [← q4]; exact k2) (Nat.lt_of_lt_of_le k2 q2), hlev _ (Nat.le_refl _) (Nat.lt_add_of_pos_right q0) k3])
      rw [q4] at hru
      show RunSt s _ (fl ((mgF x r).1 ++ [(mgF x r).2])).length (tx ((mgF x r).1 ++ [(mgF x r).2])) ∧ (∃ ha : (fl ((mgF x r).1 ++ [(mgF x r).2])).length < s.size, s[(fl ((mgF x r).1 ++ [(mgF x r).2])).length] = y.1) ∧ (_ : Int) = ((fl ((mgF x r).1 ++ [(mgF x r).2])).length : Int) + y.2 ∧ _
      refine ⟨by rw [hfl]; exact hru, hend, by rw [hfl]; exact q3, q5⟩
theorem run_mg (x : UInt8 × Int) (r : List (UInt8 × Int)) (hok : Okp (x :: r)) (s : ByteArray) (hs : s.data.toList = fl (x :: r)) (hall : s.data.toList.all lvlB = true) : runT (runsL s) = tx ((mgF x r).1 ++ [(mgF x r).2]) := by
  obtain ⟨i1, ⟨ha, i2⟩, i3, i4⟩ := mg_run s hall x r [] (by rw [hs, List.append_nil]) hok
  have hz : (fl (x :: r)).length = s.size := by rw [← size_toList, hs]
  rw [hz] at i1 i3 i4
  obtain ⟨-, ⟨ha', -, -, -, hdiff⟩, -⟩ := i1.next hall i4 (Nat.le_refl _)
  have hd := hdiff (fun q e => absurd q (by omega))
  rcases hd with ⟨q, -⟩ | ⟨-, hL⟩
  · omega
  · rw [← hL, tx_snoc, i2, show ((s.size : Nat) : Int) - ((fl (mgF x r).1).length : Int) = (mgF x r).2.2 by omega]
/-- the text of the runs of a wave that a text tells is that text just where no neighbours have one level -/
theorem run_text {T : List UInt8} {ps : List (UInt8 × Int)} (h : rrP (pcs 32 T) = some ps) (s : ByteArray) (hs : s.data.toList = fl ps) : runT (runsL s) = T ↔ alt ps = true := by
  obtain ⟨hok, -, hl⟩ := rrP_ok _ _ h
  cases ps with
  | nil =>
    have := pcs_ne 32 T
    cases hp : pcs 32 T with
    | nil => exact absurd hp this
    | cons _ _ => rw [hp] at hl; simp at hl
  | cons x r =>
    have hall : s.data.toList.all lvlB = true := by
      rw [List.all_eq_true]
      intro b hb
      rw [hs] at hb
      rcases fl_wave _ hok b hb with e | e <;> rw [e] <;> rfl
    rw [run_mg x r hok s hs hall, ← tx_text h]
    exact tx_iff hok
end Go.Proofs.YtemjohkieehojaaDoor
