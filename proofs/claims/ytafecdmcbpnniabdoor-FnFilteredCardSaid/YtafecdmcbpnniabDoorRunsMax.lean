/- The parts of a wave are of one level each and as long as can be: plain lists alone. -/
import Derived.Test.YtafecdmcbpnniabDoorDropM2
namespace Go.Proofs.YtafecdmcbpnniabDoor
set_option linter.unusedVariables false
set_option linter.unusedSimpArgs false

def sumR (Y : List (Int × Int)) : Int := (Y.map (·.2)).sum
theorem sumR_nil : sumR [] = 0 := rfl
theorem sumR_snoc (Y : List (Int × Int)) (x : Int × Int) : sumR (Y ++ [x]) = sumR Y + x.2 := by simp [sumR]
/-- the part x behind the parts pre is of one level, and behind it the level is another -/
def PartOk (l : List UInt8) (a : Int) (pre : List (Int × Int)) (x : Int × Int) : Prop :=
  0 < x.2 ∧ 0 ≤ sumR pre ∧ sumR pre + x.2 ≤ a ∧ (∀ j : Nat, sumR pre ≤ (j : Int) → (j : Int) < sumR pre + x.2 → lvL l j = x.1)
theorem snoc_split {Y pre post : List (Int × Int)} {x z : Int × Int} (h : Y ++ [z] = pre ++ x :: post) : (Y = pre ∧ z = x ∧ post = []) ∨ ∃ q, Y = pre ++ x :: q := by
  rcases List.eq_nil_or_concat post with rfl | ⟨q, y, rfl⟩
  · obtain ⟨h1, h2⟩ := List.append_inj' h rfl
    exact .inl ⟨h1, by simpa using h2, rfl⟩
  · right
    rw [List.concat_eq_append, show pre ++ x :: (q ++ [y]) = (pre ++ x :: q) ++ [y] by simp] at h
    exact ⟨q, (List.append_inj' h rfl).1⟩
theorem runs_max (s : ByteArray) : ∀ k, k ≤ s.size →
    sumR (runsF (chgsL s.data.toList k)).1 = (runsF (chgsL s.data.toList k)).2.1 ∧
    (∀ pre x post, (runsF (chgsL s.data.toList k)).1 = pre ++ x :: post → PartOk s.data.toList (runsF (chgsL s.data.toList k)).2.1 pre x ∧ lvL s.data.toList (sumR pre + x.2).toNat ≠ x.1) ∧
    (∀ j : Nat, (runsF (chgsL s.data.toList k)).2.1 ≤ (j : Int) → j < k → lvL s.data.toList j = prL s.data.toList k) := by
  intro k
  induction k with
  | zero =>
    intro _
    refine ⟨by simp [chgsL, runsF, sumR], fun pre x post h => ?_, fun j _ hj => by omega⟩
    simp [chgsL, runsF] at h
  | succ k ih =>
    intro hk
    obtain ⟨i1, i2, i3⟩ := ih (by omega)
    obtain ⟨r1, r2, r3, r4⟩ := runs_inv s k (by omega)
    rw [prL_succ s k (by omega)]
    have hlk := lvL_get s k (by omega)
    by_cases hc : (s[k].toNat : Int) = prL s.data.toList k
    · rw [chgsL_miss s k (by omega) hc]
      refine ⟨i1, i2, fun j h1 h2 => ?_⟩
      by_cases e : j = k
      · subst e; exact hlk
      · rw [i3 j h1 (by omega), hc]
    · rw [chgsL_hit s k (by omega) hc, runsF_snoc]
      simp only [runStep]
      have h3 : ∀ j : Nat, (k : Int) ≤ (j : Int) → j < k + 1 → lvL s.data.toList j = (s[k].toNat : Int) := fun j h1 h2 => by
        obtain rfl : j = k := by omega
        exact hlk
      rcases Nat.eq_zero_or_pos k with h0 | h0
      · subst h0
        have : ¬ (runsF (chgsL s.data.toList 0)).2.1 < ((0 : Nat) : Int) := by omega
        rw [if_neg this]
        refine ⟨by simp [chgsL, runsF, sumR], fun pre x post h => ?_, h3⟩
        simp [chgsL, runsF] at h
      · rw [if_pos (r4 h0)]
        refine ⟨by rw [sumR_snoc, i1]; omega, fun pre x post h => ?_, h3⟩
        rcases snoc_split h with ⟨rfl, rfl, -⟩ | ⟨q, hq⟩
        · dsimp only
          rw [i1]
          refine ⟨⟨by have := r4 h0; dsimp only; omega, by omega, by dsimp only; omega, fun j h1 h2 => ?_⟩, ?_⟩
          · dsimp only at h2
            rw [r1]
            exact i3 j (by omega) (by omega)
          · rw [r1, show ((runsF (chgsL s.data.toList k)).2.1 + ((k : Int) - (runsF (chgsL s.data.toList k)).2.1)).toNat = k by omega, hlk]
            exact hc
        · obtain ⟨⟨p1, p2, p3, p4⟩, p5⟩ := i2 pre x q hq
          exact ⟨⟨p1, p2, by omega, p4⟩, p5⟩
/-- a part of a wave: its place, its level, and that the ticks beside it are of another level -/
theorem runsL_max (s : ByteArray) (pre post : List (Int × Int)) (x : Int × Int) (h : runsL s = pre ++ x :: post) :
    PartOk s.data.toList (s.size : Int) pre x ∧ (sumR pre + x.2 < (s.size : Int) → lvL s.data.toList (sumR pre + x.2).toNat ≠ x.1) := by
  obtain ⟨i1, i2, i3⟩ := runs_max s s.size (Nat.le_refl _)
  obtain ⟨r1, r2, r3, r4⟩ := runs_inv s s.size (Nat.le_refl _)
  unfold runsL at h
  by_cases hlt : (runsF (chgsL s.data.toList s.size)).2.1 < (s.size : Int)
  · rw [if_pos hlt] at h
    rcases snoc_split h with ⟨rfl, rfl, -⟩ | ⟨q, hq⟩
    · dsimp only
      refine ⟨⟨by dsimp only; omega, by omega, by dsimp only; omega, fun j h1 h2 => ?_⟩, fun h5 => by (try dsimp only at h5); omega⟩
      dsimp only at h2
      rw [r1]
      exact i3 j (by omega) (by omega)
    · obtain ⟨⟨p1, p2, p3, p4⟩, p5⟩ := i2 pre x q hq
      exact ⟨⟨p1, p2, by omega, p4⟩, fun _ => p5⟩
  · rw [if_neg hlt] at h
    obtain ⟨⟨p1, p2, p3, p4⟩, p5⟩ := i2 pre x post h
    exact ⟨⟨p1, p2, by omega, p4⟩, fun _ => p5⟩
/-- the tick ahead of a part is of another level -/
theorem runsL_ahead (s : ByteArray) (pre post : List (Int × Int)) (x : Int × Int) (h : runsL s = pre ++ x :: post) (hp : 0 < sumR pre) : lvL s.data.toList (sumR pre - 1).toNat ≠ x.1 := by
  obtain ⟨⟨p1, p2, p3, p4⟩, -⟩ := runsL_max s pre post x h
  rcases List.eq_nil_or_concat pre with rfl | ⟨q, y, rfl⟩
  · rw [sumR_nil] at hp; omega
  · rw [List.concat_eq_append] at h p2 p3 p4 hp ⊢
    rw [sumR_snoc] at p2 p3 p4 hp ⊢
    obtain ⟨⟨q1, q2, q3, q4⟩, q5⟩ := runsL_max s q (x :: post) y (by rw [h]; simp)
    have e1 := q4 (sumR q + y.2 - 1).toNat (by omega) (by omega)
    have e2 := p4 (sumR q + y.2).toNat (by omega) (by omega)
    have e3 := q5 (by omega)
    rw [e1]
    rw [e2] at e3
    exact fun e => e3 e.symm
/-- where each tick of level c lies in a window of T ticks of that level, each part of that level lasts at least T ticks -/
theorem parts_ge (s : ByteArray) (T c : Int)
    (h : ∀ j : Nat, j < s.size → lvL s.data.toList j = c → ∃ a : Int, 0 ≤ a ∧ a ≤ (j : Int) ∧ (j : Int) < a + T ∧ a + T ≤ (s.size : Int) ∧ ∀ i : Nat, a ≤ (i : Int) → (i : Int) < a + T → lvL s.data.toList i = c) :
    ∀ x ∈ runsL s, x.1 = c → T ≤ x.2 := by
  intro x hx hc
  obtain ⟨pre, post, hsp⟩ := List.append_of_mem hx
  obtain ⟨⟨p1, p2, p3, p4⟩, p5⟩ := runsL_max s pre post x hsp
  obtain ⟨a, a1, a2, a3, a4, a5⟩ := h (sumR pre).toNat (by omega) (by rw [p4 _ (by omega) (by omega), hc])
  have hleft : ¬ a < sumR pre := fun hlt => by
    have := runsL_ahead s pre post x hsp (by omega)
    exact this (by rw [a5 _ (by omega) (by omega), hc])
  rcases Int.lt_or_le x.2 T with hlt | hge
  · exfalso
    have := p5 (by omega)
    exact this (by rw [a5 _ (by omega) (by omega), hc])
  · exact hge
theorem partsT_lenI (c t : Int) : ∀ (Y : List (Int × Int)), (∀ x ∈ Y, 0 ≤ x.2) → ((partsT c t Y).length : Int) = sumR Y := by
  intro Y
  induction Y with
  | nil => intro _; rfl
  | cons y t ih =>
    intro h
    have h1 := h y (by simp)
    have h2 := ih (fun x hx => h x (by simp [hx]))
    simp only [partsT, sumR, List.map_cons, List.flatten_cons, List.length_append, List.length_replicate, List.sum_cons] at h2 ⊢
    omega
/-- the text in a part -/
theorem partsT_val (c t : Int) (pre post : List (Int × Int)) (x : Int × Int) (hn : ∀ y ∈ pre, 0 ≤ y.2) (j : Nat) (h1 : sumR pre ≤ (j : Int)) (h2 : (j : Int) < sumR pre + x.2) :
    lvL (partsT c t (pre ++ x :: post)) j = ((outLev c t x).toNat : Int) := by
  have hl := partsT_lenI c t pre hn
  have e : partsT c t (pre ++ x :: post) = partsT c t pre ++ (List.replicate x.2.toNat (outLev c t x) ++ partsT c t post) := by simp [partsT]
  unfold lvL
  rw [e, List.getD_eq_getElem?_getD, List.getElem?_append_right (by omega), List.getElem?_append_left (by simp; omega), List.getElem?_replicate, if_pos (by omega)]
  rfl
/-- each tick lies in a part -/
theorem parts_split : ∀ (Y : List (Int × Int)) (j : Int), (∀ x ∈ Y, 0 ≤ x.2) → 0 ≤ j → j < sumR Y → ∃ pre x post, Y = pre ++ x :: post ∧ sumR pre ≤ j ∧ j < sumR pre + x.2 := by
  intro Y
  induction Y with
  | nil => intro j _ h0 h; rw [sumR_nil] at h; omega
  | cons y t ih =>
    intro j hp h0 h
    by_cases hlt : j < y.2
    · exact ⟨[], y, t, rfl, by rw [sumR_nil]; omega, by rw [sumR_nil]; omega⟩
    · have hs : sumR (y :: t) = y.2 + sumR t := by simp [sumR]
      obtain ⟨pre, x, post, e, h1, h2⟩ := ih (j - y.2) (fun x hx => hp x (by simp [hx])) (by omega) (by omega)
      have hs2 : sumR (y :: pre) = y.2 + sumR pre := by simp [sumR]
      exact ⟨y :: pre, x, post, by rw [e]; rfl, by omega, by omega⟩
theorem outLev_on (c t : Int) (x : Int × Int) (hc : c = 48 ∨ c = 49) (h : ((outLev c t x).toNat : Int) = c) (hx : x.1 = 48 ∨ x.1 = 49) : x.1 = c ∧ t ≤ x.2 := by
  unfold outLev at h
  have a1 : ((49 : UInt8).toNat : Int) = 49 := rfl
  have a2 : ((48 : UInt8).toNat : Int) = 48 := rfl
  rcases hc with rfl | rfl <;> rcases hx with e | e <;> rw [e] at h ⊢ <;> by_cases hlt : x.2 < t <;> simp [hlt] at h ⊢ <;> omega
/-- where the parts of level c that last less than T ticks are turned over, those that stay last at least T ticks -/
theorem drop_ge (s : ByteArray) (T c : Int) (hc : c = 48 ∨ c = 49) (hall : s.data.toList.all lvlB = true) (D : ByteArray) (hD : D = ⟨(partsT c T (runsL s)).toArray⟩) :
    ∀ x ∈ runsL D, x.1 = c → T ≤ x.2 := by
  have hok := runsL_ok s hall
  have hpos : ∀ x ∈ runsL s, 0 ≤ x.2 := fun x hx => by have := (hok x hx).2.1; omega
  have hl : D.data.toList = partsT c T (runsL s) := by rw [hD]
  have hsz : (D.size : Int) = sumR (runsL s) := by rw [← partsT_lenI c T _ hpos, ← hl, size_toList]
  by_cases hT : T ≤ 0
  · intro x hx _
    obtain ⟨pre, post, hsp⟩ := List.append_of_mem hx
    have := (runsL_max D pre post x hsp).1.1
    omega
  refine parts_ge D T c fun j hj hjc => ?_
  obtain ⟨pre, x, post, e, h1, h2⟩ := parts_split (runsL s) j hpos (by omega) (by omega)
  have hpre : ∀ y ∈ pre, 0 ≤ y.2 := fun y hy => hpos y (by rw [e]; simp [hy])
  have hx := hok x (by rw [e]; simp)
  rw [hl, e, partsT_val c T pre post x hpre j h1 h2] at hjc
  obtain ⟨e1, e2⟩ := outLev_on c T x hc hjc hx.1
  have hs3 : sumR (runsL s) = sumR pre + x.2 + sumR post := by rw [e]; simp [sumR]; omega
  have hpost : 0 ≤ sumR post := by
    have := partsT_lenI c T post (fun y hy => hpos y (by rw [e]; simp [hy]))
    omega
  have hpre0 : 0 ≤ sumR pre := by
    have := partsT_lenI c T pre hpre
    omega
  refine ⟨sumR pre + min ((j : Int) - sumR pre) (x.2 - T), by omega, by omega, by omega, by omega, fun i h3 h4 => ?_⟩
  rw [hl, e, partsT_val c T pre post x hpre i (by omega) (by omega)]
  exact hjc
theorem edge_mem {to : Int} {l : List UInt8} {n : Nat} {x : Int} (h : x ∈ edgesL to l n) : ∃ i : Nat, x = (i : Int) ∧ i < n ∧ lvL l i = to ∧ prL l i ≠ to := by
  unfold edgesL at h
  obtain ⟨i, hi, rfl⟩ := List.mem_map.1 h
  obtain ⟨h1, h2⟩ := List.mem_filter.1 hi
  simp only [Bool.and_eq_true, beq_iff_eq, bne_iff_ne, ne_eq] at h2
  exact ⟨i, rfl, List.mem_range.1 h1, h2.1, h2.2⟩
/-- a falling edge that lies in a window of T ticks off, and a rising edge behind it, are at least T ticks apart -/
theorem edge_gap {l : List UInt8} {n : Nat} {T d u : Int} (hd : d ∈ edgesL 48 l n) (hu : u ∈ edgesL 49 l n) (hlt : d < u)
    (h : ∃ a : Int, 0 ≤ a ∧ a ≤ d ∧ d < a + T ∧ ∀ i : Nat, a ≤ (i : Int) → (i : Int) < a + T → lvL l i = 48) : T ≤ u - d := by
  obtain ⟨i, rfl, i1, i2, i3⟩ := edge_mem hd
  obtain ⟨k, rfl, k1, k2, k3⟩ := edge_mem hu
  obtain ⟨a, a0, a1, a2, a3⟩ := h
  have hi : 0 < i := by
    rcases Nat.eq_zero_or_pos i with e | e
    · subst e; exact absurd (prL_zero l) i3
    · exact e
  have hp : prL l i = lvL l (i - 1) := by unfold prL; rw [if_neg (by omega)]
  have ha : a = (i : Int) := by
    rcases Int.lt_or_le a (i : Int) with e | e
    · exact absurd (by rw [hp]; exact a3 (i - 1) (by omega) (by omega)) i3
    · omega
  rcases Int.lt_or_le ((k : Int) - (i : Int)) T with e | e
  · exfalso
    have := a3 k (by omega) (by omega)
    rw [k2] at this
    exact absurd this (by decide)
  · exact e
theorem lvL_left (a b : List UInt8) (i : Nat) (h : i < a.length) : lvL (a ++ b) i = lvL a i := by
  unfold lvL
  rw [List.getD_eq_getElem?_getD, List.getD_eq_getElem?_getD, List.getElem?_append_left h]
theorem lvL_right (a b : List UInt8) (i : Nat) : lvL (a ++ b) (a.length + i) = lvL b i := by
  unfold lvL
  rw [List.getD_eq_getElem?_getD, List.getD_eq_getElem?_getD, List.getElem?_append_right (by omega), Nat.add_sub_cancel_left]
theorem lvL_all (a : List UInt8) (c : UInt8) (h : ∀ x ∈ a, x = c) (i : Nat) (hi : i < a.length) : lvL a i = (c.toNat : Int) := by
  unfold lvL
  rw [List.getD_eq_getElem?_getD, List.getElem?_eq_getElem hi, Option.getD_some, h _ (List.getElem_mem hi)]
theorem lvL_past (a : List UInt8) (i : Nat) (hi : a.length ≤ i) : lvL a i = 0 := by
  unfold lvL
  rw [List.getD_eq_getElem?_getD, List.getElem?_eq_none hi]; rfl
/-- the gaps that FillGaps leaves last at least t ticks -/
theorem fill_gap (b e : List UInt8) (u : ByteArray) (t : Int) (hb : ∀ x ∈ b, x = 48) (he : ∀ x ∈ e, x = 48) (hall : u.data.toList.all lvlB = true) (n : Nat) (d v : Int)
    (hd : d ∈ edgesL 48 (b ++ (partsT 48 t (runsL u) ++ e)) n) (hv : v ∈ edgesL 49 (b ++ (partsT 48 t (runsL u) ++ e)) n) (hlt : d < v) : t ≤ v - d := by
  by_cases ht : t ≤ 0
  · omega
  have hok := runsL_ok u hall
  have hpos : ∀ x ∈ runsL u, 0 ≤ x.2 := fun x hx => by have := (hok x hx).2.1; omega
  have hml := partsT_lenI 48 t _ hpos
  obtain ⟨m, hm⟩ : ∃ m, partsT 48 t (runsL u) = m := ⟨_, rfl⟩
  rw [hm] at hd hv hml
  refine edge_gap hd hv hlt ?_
  obtain ⟨i, rfl, i1, i2, i3⟩ := edge_mem hd
  obtain ⟨k, rfl, k1, k2, k3⟩ := edge_mem hv
  have hi0 : b.length ≤ i := by
    rcases Nat.lt_or_ge i b.length with h | h
    · exfalso
      have hp : prL (b ++ (m ++ e)) i = 48 := by
        unfold prL
        split
        · rfl
        · rw [lvL_left _ _ _ (by omega), lvL_all b 48 hb _ (by omega)]; rfl
      exact i3 hp
    · exact h
  have hk0 : k < b.length + m.length := by
    rcases Nat.lt_or_ge k (b.length + m.length) with h | h
    · exact h
    · exfalso
      obtain ⟨q, rfl⟩ : ∃ q, k = b.length + (m.length + q) := ⟨k - b.length - m.length, by omega⟩
      rw [lvL_right, lvL_right] at k2
      rcases Nat.lt_or_ge q e.length with h2 | h2
      · rw [lvL_all e 48 he q h2] at k2; exact absurd k2 (by decide)
      · rw [lvL_past e q h2] at k2; exact absurd k2 (by decide)
  obtain ⟨j, rfl⟩ : ∃ j, i = b.length + j := ⟨i - b.length, by omega⟩
  have hjm : j < m.length := by omega
  rw [lvL_right, lvL_left _ _ _ hjm] at i2
  obtain ⟨pre, x, post, hsp, h1, h2⟩ := parts_split (runsL u) (j : Int) hpos (by omega) (by omega)
  have hpre : ∀ y ∈ pre, 0 ≤ y.2 := fun y hy => hpos y (by rw [hsp]; simp [hy])
  have hx := hok x (by rw [hsp]; simp)
  rw [← hm, hsp, partsT_val 48 t pre post x hpre j h1 h2] at i2
  obtain ⟨e1, e2⟩ := outLev_on 48 t x (.inl rfl) i2 hx.1
  have hs3 : sumR (runsL u) = sumR pre + x.2 + sumR post := by rw [hsp]; simp [sumR]; omega
  have hpost : 0 ≤ sumR post := by
    have := partsT_lenI 48 t post (fun y hy => hpos y (by rw [hsp]; simp [hy]))
    omega
  have hpre0 : 0 ≤ sumR pre := by
    have := partsT_lenI 48 t pre hpre
    omega
  refine ⟨(b.length : Int) + sumR pre + min ((j : Int) - sumR pre) (x.2 - t), by omega, by omega, by omega, fun q h3 h4 => ?_⟩
  obtain ⟨r, rfl⟩ : ∃ r, q = b.length + r := ⟨q - b.length, by omega⟩
  rw [lvL_right, lvL_left _ _ _ (by omega), ← hm, hsp, partsT_val 48 t pre post x hpre r (by omega) (by omega)]
  exact i2
end Go.Proofs.YtafecdmcbpnniabDoor
