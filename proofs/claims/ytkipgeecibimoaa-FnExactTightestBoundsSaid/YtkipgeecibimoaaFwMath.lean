/- Bounds between events, the ways that they make, and what a table of least sums says of them: plain maths, nothing of the program. -/
import Derived.WalkKit
namespace Go.Proofs.Ytkipgeecibimoaa

/-- a bound: from, to, most -/
structure Bd where
  f : Nat
  t : Nat
  m : Int
/-- a way along bounds: so many, with a sum -/
inductive Way (bs : List Bd) (i : Nat) : Nat → Nat → Int → Prop
  | nil : Way bs i i 0 0
  | snoc {j c : Nat} {s : Int} (b : Bd) : Way bs i j c s → b ∈ bs → b.f = j → Way bs i b.t (c + 1) (s + b.m)
/-- bounds of n events, each at most 1000 -/
def BdsIn (bs : List Bd) (n : Nat) : Prop := ∀ b ∈ bs, b.f < n ∧ b.t < n ∧ -1000 ≤ b.m ∧ b.m ≤ 1000
theorem Way.app {bs : List Bd} {i j k c d : Nat} {s r : Int} (h1 : Way bs i j c s) (h2 : Way bs j k d r) : Way bs i k (c + d) (s + r) := by
  induction h2 with
  | nil => simpa using h1
  | snoc b _ hb hf ih =>
    have := Way.snoc b ih hb hf
    rw [Int.add_assoc, Nat.add_assoc] at this
    exact this
theorem Way.size {bs : List Bd} {n i j c : Nat} {s : Int} (hbs : BdsIn bs n) (h : Way bs i j c s) : -(1000 * (c : Int)) ≤ s ∧ s ≤ 1000 * (c : Int) := by
  induction h with
  | nil => simp
  | snoc b _ hb _ ih => have := hbs b hb; omega
theorem Way.lt {bs : List Bd} {n i j c : Nat} {s : Int} (hbs : BdsIn bs n) (hi : i < n) (h : Way bs i j c s) : j < n := by
  cases h with
  | nil => exact hi
  | snoc b _ hb _ => exact (hbs b hb).2.1

/-- a way that goes through events less than m alone -/
inductive WayK (bs : List Bd) (m i : Nat) : Nat → Nat → Int → Prop
  | nil : WayK bs m i i 0 0
  | one (b : Bd) : b ∈ bs → b.f = i → WayK bs m i b.t 1 b.m
  | snoc {j c : Nat} {s : Int} (b : Bd) : WayK bs m i j c s → j < m → b ∈ bs → b.f = j → WayK bs m i b.t (c + 1) (s + b.m)
theorem Way.toK {bs : List Bd} {n i k c : Nat} {s : Int} (hbs : BdsIn bs n) (h : Way bs i k c s) : WayK bs n i k c s := by
  induction h with
  | nil => exact .nil
  | snoc b _ hb hf ih => exact .snoc b ih (by have := hbs b hb; omega) hb hf
theorem WayK.split {bs : List Bd} {m i k c : Nat} {s : Int} (C : Nat) (hno : ∀ c s, WayK bs m m m c s → c ≤ C → 0 ≤ s) (h : WayK bs (m + 1) i k c s) (hc : c ≤ C) :
    WayK bs m i k c s ∨ ∃ c1 s1 c2 s2, WayK bs m i m c1 s1 ∧ WayK bs m m k c2 s2 ∧ c1 + c2 ≤ c ∧ s1 + s2 ≤ s := by
  induction h with
  | nil => exact .inl .nil
  | one b hb hf => exact .inl (.one b hb hf)
  | @snoc j c s b hw hj hb hf ih =>
    rcases ih (by omega) with h1 | ⟨c1, s1, c2, s2, h1, h2, h3, h4⟩
    · by_cases hjm : j < m
      · exact .inl (.snoc b h1 hjm hb hf)
      · obtain rfl : j = m := by omega
        exact .inr ⟨c, s, 1, b.m, h1, .one b hb hf, by omega, by omega⟩
    · by_cases hjm : j < m
      · exact .inr ⟨c1, s1, c2 + 1, s2 + b.m, h1, .snoc b h2 hjm hb hf, by omega, by omega⟩
      · obtain rfl : j = m := by omega
        have := hno c2 s2 h2 (by omega)
        exact .inr ⟨c1, s1, 1, b.m, h1, .one b hb hf, by omega, by omega⟩

/-- a table tells sums of ways, NoLimit where it tells none -/
def Sound (bs : List Bd) (n : Nat) (M : Nat → Nat → Int) : Prop := ∀ a b, a < n → b < n → M a b ≤ 1000000 ∧ (M a b < 1000000 → ∃ c, Way bs a b c (M a b))
/-- an event falls below itself, or no short way through events less than m has a lesser sum than told -/
def Comp (bs : List Bd) (n m : Nat) (M : Nat → Nat → Int) : Prop := (∃ a, a < n ∧ M a a < 0) ∨ ∀ a b c s, a < n → b < n → WayK bs m a b c s → c ≤ 900 → M a b ≤ s
/-- within the round m, ahead of the place i, k: P is the table ahead of the round -/
structure Rnd (bs : List Bd) (n m : Nat) (V : Int) (P M : Nat → Nat → Int) (i k : Nat) : Prop where
  snd : Sound bs n M
  dec : ∀ a b, a < n → b < n → M a b ≤ P a b
  old : ∀ a b, a < n → b < n → ¬ (a < i ∨ a = i ∧ b < k) → M a b = P a b
  new : ∀ a b, a < n → b < n → (a < i ∨ a = i ∧ b < k) → P a m < 1000000 → P m b < 1000000 → M a b ≤ P a m + P m b
  low : ∀ a b, a < n → b < n → -V ≤ P a b
  mm : -(2 * V) ≤ M m m
  am : ∀ a, a < n → -(3 * V) ≤ M a m
  mb : ∀ b, b < n → -(3 * V) ≤ M m b
  ab : ∀ a b, a < n → b < n → -(6 * V) ≤ M a b
def put (M : Nat → Nat → Int) (i k : Nat) (x : Int) : Nat → Nat → Int := fun a b => if a = i ∧ b = k then x else M a b
theorem Rnd.start {bs : List Bd} {n m : Nat} {V : Int} {P : Nat → Nat → Int} (hm : m < n) (hV : 0 ≤ V) (hs : Sound bs n P) (hl : ∀ a b, a < n → b < n → -V ≤ P a b) : Rnd bs n m V P P 0 0 :=
  ⟨hs, fun _ _ _ _ => Int.le_refl _, fun _ _ _ _ _ => rfl, fun a b _ _ h => by omega, hl, by have := hl m m hm hm; omega, fun a ha => by have := hl a m ha hm; omega, fun b hb => by have := hl m b hm hb; omega, fun a b ha hb => by have := hl a b ha hb; omega⟩
theorem Rnd.row {bs : List Bd} {n m : Nat} {V : Int} {P M : Nat → Nat → Int} {i : Nat} (h : Rnd bs n m V P M i n) : Rnd bs n m V P M (i + 1) 0 :=
  ⟨h.snd, h.dec, fun a b ha hb hn => h.old a b ha hb (by omega), fun a b ha hb hn => h.new a b ha hb (by omega), h.low, h.mm, h.am, h.mb, h.ab⟩
theorem Rnd.skip {bs : List Bd} {n m : Nat} {V : Int} {P M : Nat → Nat → Int} {i k : Nat} (h : Rnd bs n m V P M i k) (hi : i < n) (hk : k < n) (hm : m < n) (hs : ¬ (M i m < 1000000 ∧ M m k < 1000000)) : Rnd bs n m V P M i (k + 1) :=
  ⟨h.snd, h.dec, fun a b ha hb hn => h.old a b ha hb (by omega), fun a b ha hb hn p1 p2 => by
    by_cases he : a = i ∧ b = k
    · obtain ⟨rfl, rfl⟩ := he
      exact absurd ⟨Int.lt_of_le_of_lt (h.dec a m ha hm) p1, Int.lt_of_le_of_lt (h.dec m b hm hb) p2⟩ hs
    · exact h.new a b ha hb (by omega) p1 p2, h.low, h.mm, h.am, h.mb, h.ab⟩
theorem Rnd.step {bs : List Bd} {n m : Nat} {V : Int} {P M : Nat → Nat → Int} {i k : Nat} (h : Rnd bs n m V P M i k) (hi : i < n) (hk : k < n) (hm : m < n) (hV : 0 ≤ V) (h1 : M i m < 1000000) (h2 : M m k < 1000000) :
    Rnd bs n m V P (put M i k (if M i k ≤ M i m + M m k then M i k else M i m + M m k)) i (k + 1) := by
  obtain ⟨x, hx⟩ : ∃ x, (if M i k ≤ M i m + M m k then M i k else M i m + M m k) = x := ⟨_, rfl⟩
  have hx1 : x ≤ M i k ∧ x ≤ M i m + M m k ∧ (x = M i k ∨ x = M i m + M m k) := by
    rw [← hx]; split
    · exact ⟨Int.le_refl _, by assumption, .inl rfl⟩
    · exact ⟨by omega, Int.le_refl _, .inr rfl⟩
  rw [hx]
  have e1 : put M i k x i k = x := by simp [put]
  have e2 : ∀ a b, ¬ (a = i ∧ b = k) → put M i k x a b = M a b := fun a b hn => by simp only [put, if_neg hn]
  have low1 := h.low i k hi hk
  refine ⟨fun a b ha hb => ?_, fun a b ha hb => ?_, fun a b ha hb hn => ?_, fun a b ha hb hn p1 p2 => ?_, h.low, ?_, fun a ha => ?_, fun b hb => ?_, fun a b ha hb => ?_⟩
  · by_cases he : a = i ∧ b = k
    · obtain ⟨rfl, rfl⟩ := he
      rw [e1]
      have hs := h.snd a b ha hb
      refine ⟨by omega, fun hlt => ?_⟩
      rcases hx1.2.2 with e | e
      · rw [e]; exact hs.2 (by omega)
      · obtain ⟨c1, w1⟩ := (h.snd a m ha hm).2 h1
        obtain ⟨c2, w2⟩ := (h.snd m b hm hb).2 h2
        rw [e]
        exact ⟨_, w1.app w2⟩
    · rw [e2 a b he]; exact h.snd a b ha hb
  · by_cases he : a = i ∧ b = k
    · obtain ⟨rfl, rfl⟩ := he
      rw [e1]; have := h.dec a b ha hb; omega
    · rw [e2 a b he]; exact h.dec a b ha hb
  · rw [e2 a b (by omega)]; exact h.old a b ha hb (by omega)
  · by_cases he : a = i ∧ b = k
    · obtain ⟨rfl, rfl⟩ := he
      rw [e1]
      have d1 := h.dec a m ha hm
      have d2 := h.dec m b hm hb
      omega
    · rw [e2 a b he]; exact h.new a b ha hb (by omega) p1 p2
  · by_cases he : m = i ∧ m = k
    · obtain ⟨rfl, rfl⟩ := he
      rw [e1]
      have o := h.old m m hm hm (by omega)
      have l := h.low m m hm hm
      rcases hx1.2.2 with e | e <;> omega
    · rw [e2 m m he]; exact h.mm
  · by_cases he : a = i ∧ m = k
    · obtain ⟨rfl, rfl⟩ := he
      rw [e1]
      have o := h.old a m ha hm (by omega)
      have l := h.low a m ha hm
      have mm := h.mm
      rcases hx1.2.2 with e | e <;> omega
    · rw [e2 a m he]; exact h.am a ha
  · by_cases he : m = i ∧ b = k
    · obtain ⟨rfl, rfl⟩ := he
      rw [e1]
      have o := h.old m b hm hb (by omega)
      have l := h.low m b hm hb
      have mm := h.mm
      rcases hx1.2.2 with e | e <;> omega
    · rw [e2 m b he]; exact h.mb b hb
  · by_cases he : a = i ∧ b = k
    · obtain ⟨rfl, rfl⟩ := he
      rw [e1]
      have l := h.ab a b ha hb
      have l1 := h.am a ha
      have l2 := h.mb b hb
      rcases hx1.2.2 with e | e <;> omega
    · rw [e2 a b he]; exact h.ab a b ha hb
theorem Rnd.fin {bs : List Bd} {n m : Nat} {V : Int} {P M : Nat → Nat → Int} (hbs : BdsIn bs n) (h : Rnd bs n m V P M n 0) (hm : m < n) (hc : Comp bs n m P) : Comp bs n (m + 1) M := by
  rcases hc with ⟨a, ha, hlt⟩ | hc
  · exact .inl ⟨a, ha, by have := h.dec a a ha ha; omega⟩
  · by_cases hneg : P m m < 0
    · exact .inl ⟨m, hm, by have := h.dec m m hm hm; omega⟩
    · refine .inr fun a b c s ha hb hw hcc => ?_
      have sz : ∀ {i j c s}, WayK bs m i j c s → c ≤ 900 → s < 1000000 := by
        intro i j c s hw hc
        have : s ≤ 1000 * (c : Int) := by
          induction hw with
          | nil => simp
          | one b hb _ => have := hbs b hb; omega
          | snoc b _ _ hb _ ih => have := hbs b hb; have := ih (by omega); omega
        omega
      rcases WayK.split 900 (fun c s h0 h1 => by have := hc m m c s hm hm h0 h1; omega) hw hcc with h1 | ⟨c1, s1, c2, s2, h1, h2, h3, h4⟩
      · have := hc a b c s ha hb h1 hcc
        have := h.dec a b ha hb
        omega
      · have q1 := hc a m c1 s1 ha hm h1 (by omega)
        have q2 := hc m b c2 s2 hm hb h2 (by omega)
        have z1 := sz h1 (by omega)
        have z2 := sz h2 (by omega)
        have := h.new a b ha hb (.inl ha) (by omega) (by omega)
        omega
end Go.Proofs.Ytkipgeecibimoaa
