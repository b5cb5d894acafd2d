/- Flows: their form, wires without registers, and whether these make a ring; plain mathematics. -/
import Derived.WalkKit
namespace Go.Proofs.YtmhkeiccemfpeaaDoor
set_option linter.unusedVariables false

def flK (n : Int) (F : List Int) (k : Nat) : Bool := decide (0 ≤ F.getD (k * 3) 0 ∧ F.getD (k * 3) 0 ≤ n - 1) && (decide (0 ≤ F.getD (k * 3 + 1) 0 ∧ F.getD (k * 3 + 1) 0 ≤ n - 1) && decide (0 ≤ F.getD (k * 3 + 2) 0 ∧ F.getD (k * 3 + 2) 0 ≤ 20))
def dlK (x : Int) : Bool := decide (0 ≤ x ∧ x ≤ 100)
def formB (ds : List Int) (nw : Nat) (F : List Int) : Bool := decide (1 ≤ ds.length ∧ ds.length ≤ 8) && (decide (nw ≤ 16) && (ds.all dlK && (List.range nw).all (flK (ds.length : Int) F)))
theorem form_ok {ds : List Int} {nw : Nat} {F : List Int} (h : formB ds nw F = true) : 1 ≤ ds.length ∧ ds.length ≤ 8 ∧ nw ≤ 16 ∧ (∀ k (hk : k < ds.length), 0 ≤ ds[k] ∧ ds[k] ≤ 100) ∧
    ∀ k, k < nw → (0 ≤ F.getD (k * 3) 0 ∧ F.getD (k * 3) 0 ≤ (ds.length : Int) - 1) ∧ (0 ≤ F.getD (k * 3 + 1) 0 ∧ F.getD (k * 3 + 1) 0 ≤ (ds.length : Int) - 1) ∧ 0 ≤ F.getD (k * 3 + 2) 0 ∧ F.getD (k * 3 + 2) 0 ≤ 20 := by
  unfold formB at h
  simp only [Bool.and_eq_true, decide_eq_true_eq] at h
  obtain ⟨⟨h1, h2⟩, h3, h4, h5⟩ := h
  refine ⟨h1, h2, h3, fun k hk => ?_, fun k hk => ?_⟩
  · have := List.all_eq_true.1 h4 _ (List.getElem_mem hk)
    simpa [dlK] using this
  · have := List.all_eq_true.1 h5 k (List.mem_range.2 hk)
    unfold flK at this
    simpa using this
/-- a wire without registers leads from u to v -/
def Zw (F : List Int) (nw : Nat) (u v : Int) : Prop := ∃ k, k < nw ∧ F.getD (k * 3) 0 = u ∧ F.getD (k * 3 + 1) 0 = v ∧ F.getD (k * 3 + 2) 0 = 0
inductive ZP (F : List Int) (nw : Nat) : Int → Int → Prop
  | one {u v : Int} : Zw F nw u v → ZP F nw u v
  | snoc {u v x : Int} : ZP F nw u v → Zw F nw v x → ZP F nw u x
def AcycZ (F : List Int) (nw : Nat) (n : Nat) : Prop := ∀ v : Int, 0 ≤ v → v < (n : Int) → ¬ ZP F nw v v
def FlowOk (ds : List Int) (nw : Nat) (F : List Int) : Prop := formB ds nw F = true ∧ AcycZ F nw ds.length
theorem nodup_leF : ∀ (n : Nat) (l : List Int), l.Nodup → (∀ v ∈ l, 0 ≤ v ∧ v < (n : Int)) → l.length ≤ n
  | 0, l, _, h => by
    cases l with
    | nil => simp
    | cons a l => have := h a (by simp); omega
  | n + 1, l, hn, h => by
    have h1 := nodup_leF n (l.erase (n : Int)) (hn.erase _) (fun v hv => by
      have hv2 := (hn.mem_erase_iff).1 hv
      have := h v hv2.2
      have : v ≠ (n : Int) := hv2.1
      omega)
    have h2 := List.length_erase (a := (n : Int)) (l := l)
    split at h2 <;> omega

/-- the search from v: i of the list are looked at, and k wires of the next one -/
structure Bfs (F : List Int) (nw n : Nat) (v : Int) (L S : List Int) (i k : Nat) : Prop where
  head : ∃ T, L = v :: T
  nd : L.Nodup
  rng : ∀ x ∈ L, 0 ≤ x ∧ x < (n : Int)
  seen : ∀ x, x ∈ S ↔ x ∈ L.tail
  slen : S.length ≤ L.tail.length
  path : ∀ x ∈ L.tail, ZP F nw v x
  old : ∀ j x, j < i → L[j]? = some x → ∀ m, m < nw → F.getD (m * 3) 0 = x → F.getD (m * 3 + 2) 0 = 0 → F.getD (m * 3 + 1) 0 ∈ L.tail
  cur : ∀ x, L[i]? = some x → ∀ m, m < k → m < nw → F.getD (m * 3) 0 = x → F.getD (m * 3 + 2) 0 = 0 → F.getD (m * 3 + 1) 0 ∈ L.tail
theorem Bfs.start (F : List Int) (nw n : Nat) (v : Int) (h0 : 0 ≤ v) (h1 : v < (n : Int)) : Bfs F nw n v [v] [] 0 0 :=
  ⟨⟨[], rfl⟩, by simp, fun x hx => by simp at hx; omega, fun x => by simp, by simp, fun x hx => by simp at hx, fun j x h => absurd h (Nat.not_lt_zero _), fun x _ m h => absurd h (Nat.not_lt_zero _)⟩
theorem Bfs.len {F : List Int} {nw n : Nat} {v : Int} {L S : List Int} {i k : Nat} (h : Bfs F nw n v L S i k) : L.length ≤ n ∧ S.length ≤ n ∧ 1 ≤ L.length := by
  have h1 := nodup_leF n L h.nd h.rng
  obtain ⟨T, e⟩ := h.head
  have h2 := h.slen
  rw [e] at h1 h2 ⊢
  simp at h1 h2 ⊢
  omega
theorem Bfs.skip {F : List Int} {nw n : Nat} {v : Int} {L S : List Int} {i k : Nat} (h : Bfs F nw n v L S i k) (x : Int) (hx : L[i]? = some x) (hs : ¬ (F.getD (k * 3) 0 = x ∧ F.getD (k * 3 + 2) 0 = 0)) : Bfs F nw n v L S i (k + 1) :=
  ⟨h.head, h.nd, h.rng, h.seen, h.slen, h.path, h.old, fun y hy m hm hmn h1 h2 => by
    by_cases e : m = k
    · subst e
      rw [hx] at hy
      injection hy with hy
      exact absurd ⟨by rw [hy]; exact h1, h2⟩ hs
    · exact h.cur y hy m (by omega) hmn h1 h2⟩
theorem Bfs.has {F : List Int} {nw n : Nat} {v : Int} {L S : List Int} {i k : Nat} (h : Bfs F nw n v L S i k) (hs : F.getD (k * 3 + 1) 0 ∈ S) : Bfs F nw n v L S i (k + 1) :=
  ⟨h.head, h.nd, h.rng, h.seen, h.slen, h.path, h.old, fun y hy m hm hmn h1 h2 => by
    by_cases e : m = k
    · subst e; exact (h.seen _).1 hs
    · exact h.cur y hy m (by omega) hmn h1 h2⟩
theorem Bfs.zw {F : List Int} {nw n : Nat} {v : Int} {L S : List Int} {i k : Nat} (h : Bfs F nw n v L S i k) (x y : Int) (hk : k < nw) (hx : L[i]? = some x) (h1 : F.getD (k * 3) 0 = x) (h2 : F.getD (k * 3 + 2) 0 = 0) (hy : F.getD (k * 3 + 1) 0 = y) : ZP F nw v y := by
  have hz : Zw F nw x y := ⟨k, hk, h1, hy, h2⟩
  obtain ⟨T, e⟩ := h.head
  cases i with
  | zero =>
    rw [e] at hx
    simp at hx
    subst hx
    exact .one hz
  | succ i =>
    have hm : x ∈ L.tail := by
      rw [e] at hx ⊢
      simp only [List.getElem?_cons_succ, List.tail_cons] at hx ⊢
      exact List.mem_of_getElem? hx
    exact .snoc (h.path x hm) hz
theorem Bfs.add {F : List Int} {nw n : Nat} {v : Int} {L S S' : List Int} {i k : Nat} (h : Bfs F nw n v L S i k) (x y : Int) (hk : k < nw) (hx : L[i]? = some x) (h1 : F.getD (k * 3) 0 = x) (h2 : F.getD (k * 3 + 2) 0 = 0) (hy : F.getD (k * 3 + 1) 0 = y)
    (hv : y ≠ v) (hr : 0 ≤ y ∧ y < (n : Int)) (hn : y ∉ S) (hS : ∀ z, z ∈ S' ↔ z ∈ S ∨ z = y) (hl : S'.length ≤ S.length + 1) : Bfs F nw n v (L ++ [y]) S' i (k + 1) := by
  have hp := h.zw x y hk hx h1 h2 hy
  obtain ⟨T, e⟩ := h.head
  have ht : (L ++ [y]).tail = L.tail ++ [y] := by rw [e]; rfl
  have hil : i < L.length := (List.getElem?_eq_some_iff.1 hx).1
  have hnL : y ∉ L := fun hm => by
    rw [e] at hm
    rcases List.mem_cons.1 hm with h3 | h3
    · exact hv h3
    · exact hn ((h.seen y).2 (by rw [e]; exact h3))
  refine ⟨⟨T ++ [y], by rw [e]; rfl⟩, ?_, fun z hz => ?_, fun z => ?_, ?_, fun z hz => ?_, fun j z hj hz m hm q1 q2 => ?_, fun z hz m hm hmn q1 q2 => ?_⟩
  · rw [List.nodup_append]
    exact ⟨h.nd, by simp, fun a ha b hb => by simp at hb; rw [hb]; exact fun e => hnL (e ▸ ha)⟩
  · rcases List.mem_append.1 hz with h3 | h3
    · exact h.rng z h3
    · simp at h3; rw [h3]; exact hr
  · rw [hS, ht, List.mem_append, h.seen]; simp
  · rw [ht, List.length_append, List.length_singleton]; have := h.slen; omega
  · rw [ht] at hz
    rcases List.mem_append.1 hz with h3 | h3
    · exact h.path z h3
    · simp at h3; rw [h3]; exact hp
  · rw [List.getElem?_append_left (by omega)] at hz
    rw [ht, List.mem_append]
    exact .inl (h.old j z hj hz m hm q1 q2)
  · rw [List.getElem?_append_left hil] at hz
    rw [ht, List.mem_append]
    by_cases em : m = k
    · subst em; right; rw [hy]; simp
    · exact .inl (h.cur z hz m (by omega) hmn q1 q2)
theorem Bfs.next {F : List Int} {nw n : Nat} {v : Int} {L S : List Int} {i : Nat} (h : Bfs F nw n v L S i nw) : Bfs F nw n v L S (i + 1) 0 :=
  ⟨h.head, h.nd, h.rng, h.seen, h.slen, h.path, fun j x hj hx m hm q1 q2 => by
    by_cases e : j = i
    · subst e; exact h.cur x hx m hm hm q1 q2
    · exact h.old j x (by omega) hx m hm q1 q2, fun x _ m hm => absurd hm (Nat.not_lt_zero _)⟩
theorem Bfs.fin {F : List Int} {nw n : Nat} {v : Int} {L S : List Int} {i : Nat} (h : Bfs F nw n v L S i 0) (hi : L.length ≤ i) : ¬ ZP F nw v v := by
  obtain ⟨T, e⟩ := h.head
  have all : ∀ y, ZP F nw v y → y ∈ L.tail := by
    intro y hy
    have key : ∀ x y, x ∈ L → Zw F nw x y → y ∈ L.tail := fun x y hx ⟨k, hk, h1, h2, h3⟩ => by
      obtain ⟨j, hj, hx2⟩ := List.getElem_of_mem hx
      rw [← h2]
      exact h.old j x (by omega) (by rw [List.getElem?_eq_getElem hj, hx2]) k hk h1 h3
    induction hy with
    | one hz => exact key _ _ (by rw [e]; simp) hz
    | snoc _ hz ih => exact key _ _ (by rw [e]; rw [e] at ih; exact List.mem_cons_of_mem _ ih) hz
  intro hv
  have h1 := all v hv
  have h2 := h.nd
  rw [e] at h1 h2
  exact (List.nodup_cons.1 h2).1 h1

/-- the order so far: each vertex behind those to which wires without registers lead from it -/
structure Ord (F : List Int) (nw n : Nat) (O : List Int) : Prop where
  nd : O.Nodup
  rng : ∀ x ∈ O, 0 ≤ x ∧ x < (n : Int)
  bef : ∀ i x, O[i]? = some x → ∀ y, Zw F nw x y → y ∈ O.take i
theorem Ord.start (F : List Int) (nw n : Nat) : Ord F nw n [] := ⟨by simp, fun x hx => by simp at hx, fun i x h => by simp at h⟩
theorem Ord.add {F : List Int} {nw n : Nat} {O : List Int} (h : Ord F nw n O) (v : Int) (hr : 0 ≤ v ∧ v < (n : Int)) (hn : v ∉ O) (hz : ∀ y, Zw F nw v y → y ∈ O) : Ord F nw n (O ++ [v]) := by
  refine ⟨?_, fun x hx => ?_, fun i x hx y hy => ?_⟩
  · rw [List.nodup_append]
    exact ⟨h.nd, by simp, fun a ha b hb => by simp at hb; rw [hb]; exact fun e => hn (e ▸ ha)⟩
  · rcases List.mem_append.1 hx with h3 | h3
    · exact h.rng x h3
    · simp at h3; rw [h3]; exact hr
  · by_cases hi : i < O.length
    · rw [List.getElem?_append_left hi] at hx
      rw [List.take_append_of_le_length (by omega)]
      exact h.bef i x hx y hy
    · rw [List.getElem?_append_right (by omega)] at hx
      have hi2 : i - O.length = 0 := by
        have := (List.getElem?_eq_some_iff.1 hx).1
        simp at this; omega
      rw [hi2] at hx
      simp at hx
      subst hx
      have e : i = O.length := by omega
      rw [e, List.take_append_of_le_length (Nat.le_refl _), List.take_length]
      exact hz y hy
theorem Ord.acyc {F : List Int} {nw n : Nat} {O : List Int} (h : Ord F nw n O) (hl : O.length = n) : AcycZ F nw n := by
  intro v h0 h1 hv
  have hm : v ∈ O := by
    rcases Classical.em (v ∈ O) with hm | hm
    · exact hm
    · have := nodup_leF n (v :: O) (List.nodup_cons.2 ⟨hm, h.nd⟩) (fun x hx => by
        rcases List.mem_cons.1 hx with e | e
        · rw [e]; exact ⟨h0, h1⟩
        · exact h.rng x e)
      simp at this; omega
  have key : ∀ (u y : Int), ZP F nw u y → ∀ i : Nat, O[i]? = some u → ∃ j, j < i ∧ O[j]? = some y := by
    intro u y hz
    have one : ∀ (u y : Int), Zw F nw u y → ∀ i : Nat, O[i]? = some u → ∃ j, j < i ∧ O[j]? = some y := fun u y hz i hi => by
      obtain ⟨j, hj, hj2⟩ := List.getElem_of_mem (h.bef i u hi y hz)
      have hj3 : j < i ∧ j < O.length := by rw [List.length_take] at hj; omega
      refine ⟨j, hj3.1, ?_⟩
      rw [List.getElem?_eq_getElem hj3.2, ← hj2, List.getElem_take]
    induction hz with
    | one hz => exact one _ _ hz
    | snoc _ hz ih =>
      intro i hi
      obtain ⟨j, hj, hj2⟩ := ih i hi
      obtain ⟨j2, hj3, hj4⟩ := one _ _ hz j hj2
      exact ⟨j2, by omega, hj4⟩
  obtain ⟨i, hi, hi2⟩ := List.getElem_of_mem hm
  obtain ⟨j, hj, hj2⟩ := key v v hv i (by rw [List.getElem?_eq_getElem hi, hi2])
  have hjl := (List.getElem?_eq_some_iff.1 hj2).1
  have e := (List.getElem?_eq_some_iff.1 hj2).2
  have := List.pairwise_iff_getElem.1 h.nd j i hjl hi hj
  exact this (by rw [e, hi2])
theorem ord_stuck {F : List Int} {nw n : Nat} {O : List Int} (h : Ord F nw n O) (hl : O.length < n) (hF : ∀ k, k < nw → 0 ≤ F.getD (k * 3 + 1) 0 ∧ F.getD (k * 3 + 1) 0 < (n : Int)) (hs : ∀ u : Nat, u < n → (u : Int) ∈ O ∨ ∃ y, Zw F nw (u : Int) y ∧ y ∉ O) : ¬ AcycZ F nw n := by
  have out : ∃ u : Nat, u < n ∧ (u : Int) ∉ O := by
    rcases Classical.em (∃ u : Nat, u < n ∧ (u : Int) ∉ O) with h1 | h1
    · exact h1
    · exfalso
      have all : ∀ u : Nat, u < n → (u : Int) ∈ O := fun u hu => by
        rcases Classical.em ((u : Int) ∈ O) with h2 | h2
        · exact h2
        · exact absurd ⟨u, hu, h2⟩ h1
      have hn : ((List.range n).map (fun u : Nat => (u : Int))).Nodup := by
        rw [List.nodup_iff_pairwise_ne, List.pairwise_map]
        exact (List.nodup_range (n := n)).imp fun hne e => hne (by omega)
      have hsub : ((List.range n).map (fun u : Nat => (u : Int))).length ≤ O.length := by
        refine List.Nodup.length_le_of_subset hn fun x hx => ?_
        obtain ⟨u, hu, rfl⟩ := List.mem_map.1 hx
        exact all u (List.mem_range.1 hu)
      simp at hsub
      omega
  obtain ⟨u0, hu0, hun⟩ := out
  have paths : ∀ m : Nat, ∃ P : List Int, P.length = m + 1 ∧ (∀ x ∈ P, 0 ≤ x ∧ x < (n : Int) ∧ x ∉ O) ∧ ∀ i j (hi : i < P.length) (hj : j < P.length), i < j → ZP F nw P[i] P[j] := by
    intro m
    induction m with
    | zero => exact ⟨[(u0 : Int)], rfl, fun x hx => by simp at hx; subst hx; exact ⟨by omega, by omega, hun⟩, fun i j hi hj hij => by simp at hi hj; omega⟩
    | succ m ih =>
      obtain ⟨P, hP, hr, hz⟩ := ih
      have hlast : m < P.length := by omega
      obtain ⟨q0, q1, q2⟩ := hr _ (List.getElem_mem hlast)
      obtain ⟨u, hu⟩ : ∃ u : Nat, P[m] = (u : Int) := ⟨P[m].toNat, by omega⟩
      rcases hs u (by omega) with h1 | ⟨y, hy, hyO⟩
      · exact absurd (by rw [hu]; exact h1) q2
      · have hyr : 0 ≤ y ∧ y < (n : Int) := by
          obtain ⟨k, hk, _, h2, _⟩ := hy
          rw [← h2]; exact hF k hk
        refine ⟨P ++ [y], by simp [hP], fun x hx => ?_, fun i j hi hj hij => ?_⟩
        · rcases List.mem_append.1 hx with h3 | h3
          · exact hr x h3
          · simp at h3; subst h3; exact ⟨hyr.1, hyr.2, hyO⟩
        · simp only [List.length_append, List.length_cons, List.length_nil] at hi hj
          by_cases hj2 : j < P.length
          · rw [List.getElem_append_left (by omega), List.getElem_append_left hj2]
            exact hz i j _ _ hij
          · have ej : j = P.length := by omega
            subst ej
            rw [List.getElem_append_left (by omega), List.getElem_append_right (Nat.le_refl _)]
            simp only [Nat.sub_self, List.getElem_cons_zero]
            have hzu : Zw F nw P[m] y := by rw [hu]; exact hy
            by_cases ei : i = m
            · subst ei; exact .one hzu
            · exact .snoc (hz i m (by omega) hlast (by omega)) hzu
  obtain ⟨P, hP, hr, hz⟩ := paths n
  intro hac
  have hnd : P.Nodup := by
    rw [List.nodup_iff_pairwise_ne, List.pairwise_iff_getElem]
    intro i j hi hj hij e
    obtain ⟨q0, q1, -⟩ := hr _ (List.getElem_mem hi)
    exact hac _ q0 q1 (by have := hz i j hi hj hij; rwa [← e] at this)
  have := nodup_leF n P hnd (fun x hx => ⟨(hr x hx).1, (hr x hx).2.1⟩)
  omega
end Go.Proofs.YtmhkeiccemfpeaaDoor
