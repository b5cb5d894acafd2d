/- One event after another: what the rounds of addFrom keep. Plain maths. -/
import Derived.Test.YtkipgeecibimoaaTM
namespace Go.Proofs.Ytkipgeecibimoaa
set_option linter.unusedVariables false

/-- a bound is kept by the sums -/
def KeptB (g : Trails) (u : Nat) (b : Bd) : Prop := b.f = u → ∀ c s, g u = some (c, s) → ∃ c' s', g b.t = some (c', s') ∧ s' ≤ s + b.m
/-- event u is in hand, its first k bounds are followed, the numbers q wait -/
structure Mid (bs : List Bd) (L : Nat → Bd) (n i u k : Nat) (g : Trails) (q : List Int) : Prop where
  ok : TrOk bs n i g
  self : ∃ c s, g i = some (c, s) ∧ s ≤ 0
  qin : ∀ x ∈ q, ∃ v : Nat, x = v ∧ v < n ∧ ∃ y, g v = some y
  nodup : q.Nodup
  done : ∀ v, v < n → v ≠ u → (v : Int) ∉ q → Done bs g v
  hand : u < n ∧ ∃ y, g u = some y
  kept : (u : Int) ∉ q → ∀ j, j < k → KeptB g u (L j)
/-- from event i all is done -/
structure Fin1 (bs : List Bd) (n i : Nat) (g : Trails) : Prop where
  ok : TrOk bs n i g
  self : ∃ c s, g i = some (c, s) ∧ s ≤ 0
  done : ∀ v, v < n → Done bs g v
theorem Mid.start (bs : List Bd) (L : Nat → Bd) (n i : Nat) (hi : i < n) : Mid bs L n i i 0 (setT (fun _ => none) i (0, 0)) [] := by
  refine ⟨TrOk.start bs n i hi, ⟨0, 0, by simp [setT], by omega⟩, fun x hx => by simp at hx, List.nodup_nil, fun v hv hne _ => ?_, ⟨hi, (0, 0), by simp [setT]⟩, fun _ j hj => by omega⟩
  intro c s h
  simp [setT, hne] at h
theorem Mid.skip {bs : List Bd} {L : Nat → Bd} {n i u k : Nat} {g : Trails} {q : List Int} (h : Mid bs L n i u k g q) (hf : (L k).f ≠ u) : Mid bs L n i u (k + 1) g q :=
  ⟨h.ok, h.self, h.qin, h.nodup, h.done, h.hand, fun hu j hj => by
    rcases Nat.lt_succ_iff_lt_or_eq.1 hj with hj | rfl
    · exact h.kept hu j hj
    · exact fun e => absurd e hf⟩
theorem Mid.no {bs : List Bd} {L : Nat → Bd} {n i u k : Nat} {g : Trails} {q : List Int} (h : Mid bs L n i u k g q) {c c0 : Nat} {s y : Int} (hu : g u = some (c, s)) (hy : g (L k).t = some (c0, y)) (hle : y ≤ s + (L k).m) : Mid bs L n i u (k + 1) g q :=
  ⟨h.ok, h.self, h.qin, h.nodup, h.done, h.hand, fun hq j hj => by
    rcases Nat.lt_succ_iff_lt_or_eq.1 hj with hj | rfl
    · exact h.kept hq j hj
    · intro _ c1 s1 h1
      rw [hu] at h1
      obtain ⟨rfl, rfl⟩ : c = c1 ∧ s = s1 := by simpa using h1
      exact ⟨c0, y, hy, hle⟩⟩
theorem Mid.yes {bs : List Bd} {L : Nat → Bd} {n i u k S : Nat} {g : Trails} {q q' : List Int} (hbs : BdsS bs n S) (h : Mid bs L n i u k g q) {c : Nat} {s : Int} (hb : L k ∈ bs) (hf : (L k).f = u) (hu : g u = some (c, s)) (hs : Short g (L k).t (s + (L k).m)) (hc : c + 1 < n)
    (hn : q'.Nodup) (hq : ∀ x : Int, x ∈ q' ↔ x ∈ q ∨ x = ((L k).t : Int)) :
    Mid bs L n i u (k + 1) (setT g (L k).t (c + 1, s + (L k).m)) q' := by
  have key : ∀ v, (∃ y, g v = some y) → ∃ y, setT g (L k).t (c + 1, s + (L k).m) v = some y := fun v ⟨y, hy⟩ => by
    unfold setT
    by_cases hv : v = (L k).t
    · exact ⟨_, by rw [if_pos hv]⟩
    · exact ⟨y, by rw [if_neg hv, hy]⟩
  refine ⟨h.ok.set hbs (L k) hu hb hf hs hc, ?_, fun x hx => ?_, hn, fun v hv hne hvq => ?_, ⟨h.hand.1, key _ h.hand.2⟩, fun huq j hj => ?_⟩
  · obtain ⟨c1, s1, h1, h2⟩ := h.self
    by_cases hv : i = (L k).t
    · have := hs c1 s1 (by rw [← hv]; exact h1)
      exact ⟨c + 1, s + (L k).m, by simp [setT, hv], by omega⟩
    · exact ⟨c1, s1, by simp [setT, hv, h1], h2⟩
  · rcases (hq x).1 hx with hx | rfl
    · obtain ⟨v, h1, h2, h3⟩ := h.qin x hx
      exact ⟨v, h1, h2, key v h3⟩
    · exact ⟨(L k).t, rfl, (hbs _ hb).2.1, _, by simp [setT]; rfl⟩
  · have hv1 : (v : Int) ∉ q := fun e => hvq ((hq _).2 (.inl e))
    have hv2 : v ≠ (L k).t := fun e => hvq ((hq _).2 (.inr (by rw [e])))
    exact (h.done v hv hne hv1).set hs hv2
  · have hu1 : (u : Int) ∉ q := fun e => huq ((hq _).2 (.inl e))
    have hu2 : u ≠ (L k).t := fun e => huq ((hq _).2 (.inr (by rw [e])))
    intro hjf c1 s1 h1
    rw [setT, if_neg hu2] at h1
    have same : (∃ c' s', g (L j).t = some (c', s') ∧ s' ≤ s1 + (L j).m) → ∃ c' s', setT g (L k).t (c + 1, s + (L k).m) (L j).t = some (c', s') ∧ s' ≤ s1 + (L j).m := by
      rintro ⟨c', s', h2, h3⟩
      by_cases hv : (L j).t = (L k).t
      · rw [hv] at h2
        have := hs c' s' h2
        exact ⟨c + 1, s + (L k).m, by simp [setT, hv], by omega⟩
      · exact ⟨c', s', by simp [setT, hv, h2], h3⟩
    rcases Nat.lt_succ_iff_lt_or_eq.1 hj with hj | rfl
    · exact same (h.kept hu1 j hj hjf c1 s1 h1)
    · rw [hu] at h1
      obtain ⟨rfl, rfl⟩ : c = c1 ∧ s = s1 := by simpa using h1
      exact ⟨c + 1, s + (L j).m, by simp [setT], Int.le_refl _⟩
theorem Mid.owed {bs : List Bd} {L : Nat → Bd} {n i u nb : Nat} {g : Trails} {q : List Int} (h : Mid bs L n i u nb g q) (hL : ∀ b ∈ bs, ∃ j, j < nb ∧ L j = b) (hu : (u : Int) ∉ q) : Done bs g u := by
  intro c s h1 b hb hf
  obtain ⟨j, hj, rfl⟩ := hL b hb
  exact h.kept hu j hj hf c s h1
theorem Mid.next {bs : List Bd} {L : Nat → Bd} {n i u nb : Nat} {g : Trails} {x : Int} {q : List Int} (h : Mid bs L n i u nb g (x :: q)) (hL : ∀ b ∈ bs, ∃ j, j < nb ∧ L j = b) : ∃ v : Nat, x = v ∧ v < n ∧ Mid bs L n i v 0 g q := by
  obtain ⟨v, hx, hv, hy⟩ := h.qin x (by simp)
  refine ⟨v, hx, hv, h.ok, h.self, fun z hz => h.qin z (by simp [hz]), (List.nodup_cons.1 h.nodup).2, fun z hz hne hzq => ?_, ⟨hv, hy⟩, fun _ j hj => by omega⟩
  have hz2 : (z : Int) ∉ x :: q := fun e => by
    rcases List.mem_cons.1 e with e | e
    · rw [hx] at e; omega
    · exact hzq e
  by_cases hzu : z = u
  · subst hzu; exact h.owed hL hz2
  · exact h.done z hz hzu hz2
theorem Mid.fin {bs : List Bd} {L : Nat → Bd} {n i u nb : Nat} {g : Trails} (h : Mid bs L n i u nb g []) (hL : ∀ b ∈ bs, ∃ j, j < nb ∧ L j = b) : Fin1 bs n i g :=
  ⟨h.ok, h.self, fun v hv => by
    by_cases hvu : v = u
    · subst hvu; exact h.owed hL (by simp)
    · exact h.done v hv hvu (by simp)⟩
theorem Mid.size {bs : List Bd} {L : Nat → Bd} {n i u k : Nat} {g : Trails} {q : List Int} (h : Mid bs L n i u k g q) : q.length ≤ n := by
  have h1 : (q.map Int.toNat).Nodup := by
    refine List.pairwise_map.2 ?_
    refine List.Pairwise.imp_of_mem (fun {a c} ha hc hne e => hne ?_) h.nodup
    obtain ⟨v, rfl, _⟩ := h.qin a ha
    obtain ⟨w, rfl, _⟩ := h.qin c hc
    simp at e
    rw [e]
  have := nodup_leN n (q.map Int.toNat) h1 (fun v hv => by
    obtain ⟨a, ha, rfl⟩ := List.mem_map.1 hv
    obtain ⟨w, rfl, hw, _⟩ := h.qin a ha
    simpa using hw)
  simpa using this
/-- what is left grows less -/
theorem Mid.less {bs : List Bd} {L : Nat → Bd} {n i u k S T : Nat} {g : Trails} {q : List Int} (hbs : BdsS bs n S) (hT : S * n ≤ T) (h : Mid bs L n i u k g q) {c : Nat} {s : Int} (hb : L k ∈ bs) (hf : (L k).f = u) (hu : g u = some (c, s)) (hs : Short g (L k).t (s + (L k).m)) (hc : c + 1 < n) :
    Phi T (setT g (L k).t (c + 1, s + (L k).m)) n + 1 ≤ Phi T g n := by
  have h1 := h.ok.set hbs (L k) hu hb hf hs hc
  have h2 := h1.size hbs (v := (L k).t) (c := c + 1) (s := s + (L k).m) (by simp [setT])
  refine Phi_set T g _ _ ?_ n (hbs _ hb).2.1
  unfold phi
  dsimp only
  cases hg : g (L k).t with
  | none => dsimp only; omega
  | some y =>
    obtain ⟨c1, y⟩ := y
    have := hs c1 y hg
    dsimp only
    omega
theorem Phi_start (T : Nat) (i : Nat) : ∀ n, Phi T (setT (fun _ => none) i (0, 0)) n ≤ n * (2 * T + 1)
  | 0 => by simp [Phi]
  | n + 1 => by
    have := Phi_start T i n
    rw [Phi, Nat.succ_mul]
    have : phi T (setT (fun _ => none) i (0, 0)) n ≤ 2 * T + 1 := by
      unfold phi setT
      split <;> rename_i h
      · omega
      · split at h
        · simp at h; obtain ⟨_, rfl⟩ := h; omega
        · cases h
    omega
/-- the tables with one of them turned -/
def rowD (D : Nat → Trails) (i : Nat) (g : Trails) : Nat → Trails := fun j => if j = i then g else D j
theorem updT_row (D : Nat → Trails) (i v : Nat) (g : Trails) (x : Nat × Int) : updT (rowD D i g) i v x = rowD D i (setT g v x) := by
  funext j
  unfold updT rowD
  by_cases h : j = i
  · simp [h]
  · simp [h]
theorem row_same (D : Nat → Trails) (i : Nat) (g : Trails) : rowD D i g i = g := by unfold rowD; simp
theorem row_none (D : Nat → Trails) (i : Nat) (h : D i = fun _ => none) : rowD D i (fun _ => none) = D := by
  funext j
  unfold rowD
  by_cases hj : j = i
  · subst hj; simp [h]
  · simp [hj]
end Go.Proofs.Ytkipgeecibimoaa
