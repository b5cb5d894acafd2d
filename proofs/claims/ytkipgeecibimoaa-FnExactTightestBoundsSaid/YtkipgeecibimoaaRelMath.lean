/- Least sums from one event, found one after another: plain maths, nothing of the program. -/
import Derived.Test.YtkipgeecibimoaaFwMath
namespace Go.Proofs.Ytkipgeecibimoaa

def BdsS (bs : List Bd) (n S : Nat) : Prop := ∀ b ∈ bs, b.f < n ∧ b.t < n ∧ b.m.natAbs ≤ S
/-- a trail, its last event first, each with the sum up to it -/
inductive Tr (bs : List Bd) (i : Nat) : List (Nat × Int) → Prop
  | base : Tr bs i [(i, 0)]
  | ext {j : Nat} {s : Int} {r : List (Nat × Int)} (b : Bd) : Tr bs i ((j, s) :: r) → b ∈ bs → b.f = j → Tr bs i ((b.t, s + b.m) :: (j, s) :: r)
theorem Tr.way {bs : List Bd} {i : Nat} : ∀ {p : List (Nat × Int)}, Tr bs i p → ∀ v s r, p = (v, s) :: r → Way bs i v r.length s ∧ ∀ e ∈ p, ∃ c, Way bs e.1 v c (s - e.2) := by
  intro p h
  induction h with
  | base =>
    intro v s r he
    simp only [List.cons.injEq, Prod.mk.injEq] at he
    obtain ⟨⟨rfl, rfl⟩, rfl⟩ := he
    refine ⟨.nil, fun e he => ?_⟩
    obtain rfl : e = (i, 0) := by simpa using he
    exact ⟨0, by simpa using Way.nil⟩
  | @ext j s r b hp hb hf ih =>
    intro v s' r' he
    simp only [List.cons.injEq, Prod.mk.injEq] at he
    obtain ⟨⟨rfl, rfl⟩, rfl⟩ := he
    obtain ⟨h1, h2⟩ := ih j s r rfl
    refine ⟨.snoc b h1 hb hf, fun e he => ?_⟩
    rcases List.mem_cons.1 he with rfl | he
    · exact ⟨0, by simpa using Way.nil⟩
    · obtain ⟨c, hw⟩ := h2 e he
      have := Way.snoc b hw hb hf
      rw [show s - e.2 + b.m = s + b.m - e.2 by omega] at this
      exact ⟨_, this⟩
/-- where an event comes again, its sum is less -/
def Fall : List (Nat × Int) → Prop
  | [] => True
  | e :: r => (∀ x ∈ r, x.1 = e.1 → e.2 < x.2) ∧ Fall r
def NegRing (bs : List Bd) (n : Nat) : Prop := ∃ v c s, v < n ∧ Way bs v v c s ∧ c ≤ 900 ∧ s < 0
theorem Tr.tail {bs : List Bd} {i : Nat} {e f : Nat × Int} {r : List (Nat × Int)} (h : Tr bs i (e :: f :: r)) : Tr bs i (f :: r) := by
  cases h with
  | ext b hp hb hf => exact hp
theorem nodup_leN : ∀ (n : Nat) (l : List Nat), l.Nodup → (∀ v ∈ l, v < n) → l.length ≤ n
  | 0, l, _, h => by
    cases l with
    | nil => simp
    | cons a l => have := h a (by simp); omega
  | n + 1, l, hn, h => by
    have h1 := nodup_leN n (l.erase n) (hn.erase _) (fun v hv => by
      have hv2 := (hn.mem_erase_iff).1 hv
      have := h v hv2.2
      have : v ≠ n := hv2.1
      omega)
    have h2 := List.length_erase (a := n) (l := l)
    split at h2 <;> omega
/-- how many bounds lead from a place of a trail to its end -/
theorem Tr.cnt {bs : List Bd} {i : Nat} : ∀ {p : List (Nat × Int)}, Tr bs i p → ∀ v s r, p = (v, s) :: r → ∀ e ∈ p, ∃ c, c ≤ r.length ∧ Way bs e.1 v c (s - e.2) := by
  intro p h
  induction h with
  | base =>
    intro v s r he e hm
    simp only [List.cons.injEq, Prod.mk.injEq] at he
    obtain ⟨⟨rfl, rfl⟩, rfl⟩ := he
    obtain rfl : e = (i, 0) := by simpa using hm
    exact ⟨0, Nat.le_refl _, by simpa using Way.nil⟩
  | @ext j s r b hp hb hf ih =>
    intro v s' r' he e hm
    simp only [List.cons.injEq, Prod.mk.injEq] at he
    obtain ⟨⟨rfl, rfl⟩, rfl⟩ := he
    rcases List.mem_cons.1 hm with rfl | hm
    · exact ⟨0, Nat.zero_le _, by simpa using Way.nil⟩
    · obtain ⟨c, hc, hw⟩ := ih j s r rfl e hm
      have := Way.snoc b hw hb hf
      rw [show s - e.2 + b.m = s + b.m - e.2 by omega] at this
      exact ⟨c + 1, by simp; omega, this⟩
theorem Tr.ring {bs : List Bd} {n S i : Nat} (hbs : BdsS bs n S) (hi : i < n) : ∀ {p : List (Nat × Int)}, Tr bs i p → Fall p → p.length ≤ 900 → (p.map (·.1)).Nodup ∨ NegRing bs n := by
  intro p h
  induction h with
  | base => intro _ _; simp
  | @ext j s r b hp hb hf ih =>
    intro hfall hlen
    rcases ih hfall.2 (by simp at hlen ⊢; omega) with h1 | h1
    · by_cases hm : b.t ∈ ((j, s) :: r).map (·.1)
      · obtain ⟨e, he, he1⟩ := List.mem_map.1 hm
        have hlt := hfall.1 e he he1
        obtain ⟨c, hc, hw⟩ := Tr.cnt (.ext b hp hb hf) b.t (s + b.m) ((j, s) :: r) rfl e (List.mem_cons_of_mem _ he)
        rw [he1] at hw
        exact .inr ⟨b.t, c, _, (hbs b hb).2.1, hw, by simp at hc hlen; omega, by simp at hlt; omega⟩
      · exact .inl (by rw [List.map_cons, List.nodup_cons]; exact ⟨hm, h1⟩)
    · exact .inr h1
theorem Tr.verts {bs : List Bd} {n S i : Nat} (hbs : BdsS bs n S) (hi : i < n) {p : List (Nat × Int)} (h : Tr bs i p) : ∀ e ∈ p, e.1 < n := by
  induction h with
  | base => intro e he; obtain rfl : e = (i, 0) := by simpa using he
            exact hi
  | ext b hp hb hf ih =>
    intro e he
    rcases List.mem_cons.1 he with rfl | he
    · exact (hbs b hb).2.1
    · exact ih e he
theorem Tr.long {bs : List Bd} {n S i : Nat} (hbs : BdsS bs n S) (hi : i < n) {p : List (Nat × Int)} (h : Tr bs i p) (hf : Fall p) (hl : n < p.length) (h9 : p.length ≤ 900) : NegRing bs n := by
  rcases h.ring hbs hi hf h9 with h1 | h1
  · have := nodup_leN n _ h1 (fun v hv => by
      obtain ⟨e, he, rfl⟩ := List.mem_map.1 hv
      exact h.verts hbs hi e he)
    rw [List.length_map] at this
    omega
  · exact h1

/-- the trails from one event: to an event so many bounds, with a sum -/
abbrev Trails := Nat → Option (Nat × Int)
def Above (g : Trails) (p : List (Nat × Int)) : Prop := ∀ e ∈ p, ∃ c y, g e.1 = some (c, y) ∧ y ≤ e.2
def TrOk (bs : List Bd) (n i : Nat) (g : Trails) : Prop := ∀ v c s, g v = some (c, s) → v < n ∧ c < n ∧ ∃ p, Tr bs i ((v, s) :: p) ∧ p.length = c ∧ Fall ((v, s) :: p) ∧ Above g ((v, s) :: p)
def setT (g : Trails) (v : Nat) (x : Nat × Int) : Trails := fun u => if u = v then some x else g u
theorem TrOk.start (bs : List Bd) (n i : Nat) (hi : i < n) : TrOk bs n i (setT (fun _ => none) i (0, 0)) := by
  intro v c s h
  unfold setT at h
  by_cases hv : v = i
  · rw [if_pos hv] at h
    obtain ⟨rfl, rfl⟩ : 0 = c ∧ 0 = s := by simpa using h
    subst hv
    refine ⟨hi, by omega, [], .base, rfl, ⟨fun x hx => by simp at hx, trivial⟩, fun e he => ?_⟩
    obtain rfl : e = (v, 0) := by simpa using he
    exact ⟨0, 0, by simp [setT], Int.le_refl _⟩
  · rw [if_neg hv] at h; cases h
/-- the next trail is the first one to its event, or has a lesser sum -/
def Short (g : Trails) (v : Nat) (s : Int) : Prop := ∀ c y, g v = some (c, y) → s < y
theorem TrOk.next {bs : List Bd} {n S i : Nat} {g : Trails} (hbs : BdsS bs n S) (hg : TrOk bs n i g) {u c : Nat} {s : Int} (b : Bd) (hu : g u = some (c, s)) (hb : b ∈ bs) (hf : b.f = u) (hs : Short g b.t (s + b.m)) :
    ∃ p, Tr bs i ((b.t, s + b.m) :: p) ∧ p.length = c + 1 ∧ Fall ((b.t, s + b.m) :: p) ∧ Above (setT g b.t (c + 1, s + b.m)) ((b.t, s + b.m) :: p) := by
  obtain ⟨_, _, p, h1, h2, h3, h4⟩ := hg u c s hu
  refine ⟨(u, s) :: p, .ext b h1 hb hf, by simp [h2], ⟨fun e he hv => ?_, h3⟩, fun e he => ?_⟩
  · obtain ⟨c1, y, hy, hle⟩ := h4 e he
    rw [hv] at hy
    have := hs c1 y hy
    simp; omega
  · by_cases hv : e.1 = b.t
    · refine ⟨c + 1, s + b.m, by simp [setT, hv], ?_⟩
      rcases List.mem_cons.1 he with rfl | he
      · exact Int.le_refl _
      · obtain ⟨c1, y, hy, hle⟩ := h4 e he
        rw [hv] at hy
        have := hs c1 y hy
        omega
    · rcases List.mem_cons.1 he with rfl | he
      · exact absurd rfl hv
      · obtain ⟨c1, y, hy, hle⟩ := h4 e he
        exact ⟨c1, y, by simp [setT, hv, hy], hle⟩
theorem TrOk.set {bs : List Bd} {n S i : Nat} {g : Trails} (hbs : BdsS bs n S) (hg : TrOk bs n i g) {u c : Nat} {s : Int} (b : Bd) (hu : g u = some (c, s)) (hb : b ∈ bs) (hf : b.f = u) (hs : Short g b.t (s + b.m)) (hc : c + 1 < n) :
    TrOk bs n i (setT g b.t (c + 1, s + b.m)) := by
  intro v c1 s1 h
  by_cases hv : v = b.t
  · subst hv
    obtain ⟨rfl, rfl⟩ : c + 1 = c1 ∧ s + b.m = s1 := by simpa [setT] using h
    obtain ⟨p, h1, h2, h3, h4⟩ := hg.next hbs b hu hb hf hs
    exact ⟨(hbs b hb).2.1, hc, p, h1, h2, h3, h4⟩
  · have h' : g v = some (c1, s1) := by simpa [setT, hv] using h
    obtain ⟨q1, q2, p, h1, h2, h3, h4⟩ := hg v c1 s1 h'
    refine ⟨q1, q2, p, h1, h2, h3, fun e he => ?_⟩
    obtain ⟨c2, y, hy, hle⟩ := h4 e he
    by_cases he1 : e.1 = b.t
    · rw [he1] at hy
      have := hs c2 y hy
      exact ⟨c + 1, s + b.m, by simp [setT, he1], by omega⟩
    · exact ⟨c2, y, by simp [setT, he1, hy], hle⟩
theorem TrOk.bad {bs : List Bd} {n S i : Nat} {g : Trails} (hbs : BdsS bs n S) (hi : i < n) (hn : n ≤ 100) (hg : TrOk bs n i g) {u c : Nat} {s : Int} (b : Bd) (hu : g u = some (c, s)) (hb : b ∈ bs) (hf : b.f = u) (hs : Short g b.t (s + b.m)) (hc : n ≤ c + 1) :
    NegRing bs n := by
  obtain ⟨p, h1, h2, h3, h4⟩ := hg.next hbs b hu hb hf hs
  obtain ⟨_, q2, _⟩ := hg u c s hu
  exact h1.long hbs hi h3 (by simp; omega) (by simp; omega)
/-- all bounds from an event are kept by the sums -/
def Done (bs : List Bd) (g : Trails) (u : Nat) : Prop := ∀ c s, g u = some (c, s) → ∀ b ∈ bs, b.f = u → ∃ c' s', g b.t = some (c', s') ∧ s' ≤ s + b.m
theorem Done.set {bs : List Bd} {g : Trails} {u v : Nat} {x : Nat × Int} (h : Done bs g u) (hs : Short g v x.2) (hne : u ≠ v) : Done bs (setT g v x) u := by
  intro c s hu b hb hf
  rw [setT, if_neg hne] at hu
  obtain ⟨c', s', h1, h2⟩ := h c s hu b hb hf
  by_cases hv : b.t = v
  · rw [hv] at h1
    have := hs c' s' h1
    exact ⟨x.1, x.2, by simp [setT, hv], by omega⟩
  · exact ⟨c', s', by simp [setT, hv, h1], h2⟩

/-- what is left to be lessened -/
def phi (T : Nat) (g : Trails) (v : Nat) : Nat := match g v with | none => 2 * T + 1 | some (_, s) => (s + (T : Int)).toNat
def Phi (T : Nat) (g : Trails) : Nat → Nat
  | 0 => 0
  | k + 1 => Phi T g k + phi T g k
theorem Phi_same (T : Nat) (g g' : Trails) : ∀ k, (∀ u, u < k → g u = g' u) → Phi T g k = Phi T g' k
  | 0, _ => rfl
  | k + 1, h => by rw [Phi, Phi, Phi_same T g g' k (fun u hu => h u (by omega)), phi, phi, h k (by omega)]
theorem Phi_set (T : Nat) (g : Trails) (v : Nat) (x : Nat × Int) (hx : (x.2 + (T : Int)).toNat + 1 ≤ phi T g v) : ∀ n, v < n → Phi T (setT g v x) n + 1 ≤ Phi T g n
  | 0, h => by omega
  | k + 1, h => by
    rw [Phi, Phi]
    by_cases hv : v = k
    · subst hv
      rw [Phi_same T (setT g v x) g v (fun u hu => by simp [setT, show u ≠ v by omega])]
      have : phi T (setT g v x) v = (x.2 + (T : Int)).toNat := by simp [phi, setT]
      omega
    · have h1 := Phi_set T g v x hx k (by omega)
      have : phi T (setT g v x) k = phi T g k := by simp [phi, setT, show k ≠ v by omega]
      omega
theorem Way.sizeS {bs : List Bd} {n S i j c : Nat} {s : Int} (hbs : BdsS bs n S) (h : Way bs i j c s) : s.natAbs ≤ S * c := by
  induction h with
  | nil => simp
  | snoc b _ hb _ ih => have := (hbs b hb).2.2; rw [Nat.mul_succ]; omega
theorem TrOk.size {bs : List Bd} {n S i : Nat} {g : Trails} (hbs : BdsS bs n S) (hg : TrOk bs n i g) {v c : Nat} {s : Int} (h : g v = some (c, s)) : s.natAbs ≤ S * n := by
  obtain ⟨_, hc, p, h1, h2, _⟩ := hg v c s h
  have := (h1.way v s p rfl).1.sizeS hbs
  rw [h2] at this
  exact Nat.le_trans this (Nat.mul_le_mul_left S (by omega))

/-- WHAT THE SUMS ARE: from each event the least sum of the ways, where there are ways, and no ring falls -/
structure Least (bs : List Bd) (n : Nat) (D : Nat → Trails) : Prop where
  ok : ∀ i v c s, i < n → D i v = some (c, s) → v < n ∧ c < n ∧ Way bs i v c s
  self : ∀ i, i < n → ∃ c s, D i i = some (c, s) ∧ s ≤ 0
  done : ∀ i u, i < n → Done bs (D i) u
theorem Least.way {bs : List Bd} {n : Nat} {D : Nat → Trails} (h : Least bs n D) {i : Nat} (hi : i < n) {c0 : Nat} {s0 : Int} (h0 : D i i = some (c0, s0)) {v c : Nat} {s : Int} (hw : Way bs i v c s) : ∃ c' s', D i v = some (c', s') ∧ s' ≤ s0 + s := by
  induction hw with
  | nil => exact ⟨c0, s0, h0, by omega⟩
  | snoc b _ hb hf ih =>
    obtain ⟨c', s', h1, h2⟩ := ih
    rw [← hf] at h1
    obtain ⟨c2, s2, h3, h4⟩ := h.done i b.f hi c' s' h1 b hb rfl
    exact ⟨c2, s2, h3, by omega⟩
theorem Least.noRing {bs : List Bd} {n : Nat} {D : Nat → Trails} (h : Least bs n D) : ∀ v c s, v < n → Way bs v v c s → 0 ≤ s := by
  intro v c s hv hw
  obtain ⟨c0, s0, h0, _⟩ := h.self v hv
  obtain ⟨c1, s1, h1, h2⟩ := h.way hv h0 hw
  rw [h0] at h1
  obtain ⟨_, rfl⟩ : c0 = c1 ∧ s0 = s1 := by simpa using h1
  omega
/-- the two tables tell the same -/
theorem least_table {bs : List Bd} {n : Nat} {D : Nat → Trails} {M : Nat → Nat → Int} (hbs : BdsIn bs n) (hn : n ≤ 10) (h : Least bs n D) (hs : Sound bs n M) (hc : Comp bs n n M) :
    (∀ a, a < n → 0 ≤ M a a) ∧ ∀ a b, a < n → b < n → (∀ c s, D a b = some (c, s) → M a b = s ∧ s ≤ 10000 ∧ -10000 ≤ s) ∧ (D a b = none → M a b = 1000000) := by
  have h0 : ∀ a, a < n → 0 ≤ M a a := fun a ha => by
    rcases Int.lt_or_le (M a a) 0 with hlt | hge
    · obtain ⟨c, hw⟩ := (hs a a ha ha).2 (by omega)
      exact h.noRing a c _ ha hw
    · exact hge
  have hc' : ∀ a b c s, a < n → b < n → WayK bs n a b c s → c ≤ 900 → M a b ≤ s := by
    rcases hc with ⟨a, ha, hlt⟩ | hc
    · have := h0 a ha; omega
    · exact hc
  refine ⟨h0, fun a b ha hb => ⟨fun c s hd => ?_, fun hd => ?_⟩⟩
  · obtain ⟨_, hcn, hw⟩ := h.ok a b c s ha hd
    have z := hw.size hbs
    have h1 := hc' a b c s ha hb (hw.toK hbs) (by omega)
    obtain ⟨c1, hw1⟩ := (hs a b ha hb).2 (by omega)
    obtain ⟨c0, s0, hs0, hle⟩ := h.self a ha
    obtain ⟨c2, s2, h2, h3⟩ := h.way ha hs0 hw1
    rw [hd] at h2
    obtain ⟨_, rfl⟩ : c = c2 ∧ s = s2 := by simpa using h2
    exact ⟨by omega, by omega, by omega⟩
  · have hle := (hs a b ha hb).1
    by_cases hlt : M a b < 1000000
    · obtain ⟨c1, hw1⟩ := (hs a b ha hb).2 hlt
      obtain ⟨c0, s0, hs0, _⟩ := h.self a ha
      obtain ⟨c2, s2, h2, _⟩ := h.way ha hs0 hw1
      rw [hd] at h2
      cases h2
    · omega
theorem ring_table {bs : List Bd} {n : Nat} {M : Nat → Nat → Int} (hbs : BdsIn bs n) (h : NegRing bs n) (hc : Comp bs n n M) : ∃ a, a < n ∧ M a a < 0 := by
  rcases hc with h1 | hc
  · exact h1
  · obtain ⟨v, c, s, hv, hw, hc9, hneg⟩ := h
    exact ⟨v, hv, by have := hc v v c s hv hv (hw.toK hbs) hc9; omega⟩
end Go.Proofs.Ytkipgeecibimoaa
