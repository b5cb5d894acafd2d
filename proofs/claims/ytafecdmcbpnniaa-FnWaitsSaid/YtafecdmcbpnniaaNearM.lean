/- How many edges are near: mathematics. -/
import Derived.Test.YtafecdmcbpnniaaCk
namespace Go.Proofs.Ytafecdmcbpnniaa
/-- x ↦ (e + k b) mod N is a permutation of the numbers below N, if b has an inverse c -/
theorem perm_mod (N e b c : Nat) (hN : 0 < N) (hc : (c * b) % N = 1 % N) :
    ((List.range N).map (fun k => (e + k * b) % N)).Perm (List.range N) := by
  have hb : ∀ x y : Nat, (e + x * b) % N = (e + y * b) % N → x < N → y < N → x = y := by
    intro x y h hx hy
    have h1 : (x * b) % N = (y * b) % N := by
      have h2 : ((e + x * b) + (N * e - e)) % N = ((e + y * b) + (N * e - e)) % N := by
        rw [Nat.add_mod, h, ← Nat.add_mod]
      have hle : e ≤ N * e := Nat.le_mul_of_pos_left _ hN
      rw [show e + x * b + (N * e - e) = x * b + N * e by omega, show e + y * b + (N * e - e) = y * b + N * e by omega] at h2
      simpa using h2
    have h3 : (x * b * c) % N = (y * b * c) % N := by rw [Nat.mul_mod, h1, ← Nat.mul_mod]
    have h4 : ∀ z, (z * b * c) % N = z % N := by
      intro z
      rw [Nat.mul_assoc, Nat.mul_comm b c, Nat.mul_mod, hc, ← Nat.mul_mod, Nat.mul_one]
    rw [h4, h4, Nat.mod_eq_of_lt hx, Nat.mod_eq_of_lt hy] at h3
    exact h3
  have hs : ∀ a, a < N → ∃ k, k < N ∧ (e + k * b) % N = a := by
    intro a ha
    refine ⟨((a + (N * e - e)) * c) % N, Nat.mod_lt _ hN, ?_⟩
    have hle : e ≤ N * e := Nat.le_mul_of_pos_left _ hN
    have h5 : ((((a + (N * e - e)) * c) % N) * b) % N = (a + (N * e - e)) % N := by
      rw [Nat.mul_mod, Nat.mod_mod, ← Nat.mul_mod, Nat.mul_assoc, Nat.mul_mod, hc, ← Nat.mul_mod, Nat.mul_one]
    rw [Nat.add_mod, h5, ← Nat.add_mod, show e + (a + (N * e - e)) = a + N * e by omega]
    rw [Nat.add_mul_mod_self_left, Nat.mod_eq_of_lt ha]
  refine (List.perm_ext_iff_of_nodup ?_ List.nodup_range).2 ?_
  · rw [List.nodup_iff_pairwise_ne, List.pairwise_map]
    refine List.Pairwise.imp_of_mem ?_ (List.nodup_iff_pairwise_ne.1 (List.nodup_range (n := N)))
    intro x y hx hy hne heq
    exact hne (hb x y heq (List.mem_range.1 hx) (List.mem_range.1 hy))
  · intro a
    rw [List.mem_map, List.mem_range]
    constructor
    · rintro ⟨k, _, rfl⟩; exact Nat.mod_lt _ hN
    · intro ha
      obtain ⟨k, hk, h⟩ := hs a ha
      exact ⟨k, List.mem_range.2 hk, h⟩

/-- coprime numbers have an inverse -/
theorem inv_ex (N b : Nat) (hN : 0 < N) (h : Nat.gcd b N = 1) : ∃ c, (c * b) % N = 1 % N := by
  by_cases h1 : N = 1
  · exact ⟨0, by subst h1; omega⟩
  · -- by strong induction on the Euclidean algorithm, through integers
    have key : ∀ n x y : Nat, y ≤ n → ∃ s t : Int, s * x + t * y = (Nat.gcd x y : Nat) := by
      intro n
      induction n with
      | zero => intro x y hy; exact ⟨1, 0, by rw [show y = 0 by omega]; simp⟩
      | succ n ih =>
        intro x y hy
        by_cases h0 : y = 0
        · exact ⟨1, 0, by subst h0; simp⟩
        · have hlt : x % y < y := Nat.mod_lt _ (by omega)
          obtain ⟨s, t, he⟩ := ih y (x % y) (by omega)
          refine ⟨t, s - t * (x / y : Nat), ?_⟩
          have hg : Nat.gcd y (x % y) = Nat.gcd x y := by rw [Nat.gcd_comm x y, Nat.gcd_rec y x, Nat.gcd_comm]
          rw [hg] at he
          rw [← he]
          have hx : (x : Int) = (y : Int) * ((x / y : Nat) : Int) + ((x % y : Nat) : Int) := by
            have := Nat.div_add_mod x y
            exact_mod_cast this.symm
          have hx' : t * (x : Int) = t * ((y : Int) * ((x / y : Nat) : Int) + ((x % y : Nat) : Int)) := by rw [← hx]
          rw [hx', Int.mul_add, Int.sub_mul, Int.mul_assoc t ((x / y : Nat) : Int) (y : Int), Int.mul_comm ((x / y : Nat) : Int) (y : Int)]
          omega
    obtain ⟨s, t, he⟩ := key N b N (Nat.le_refl _)
    rw [h] at he
    refine ⟨(s % N).toNat, ?_⟩
    have hs0 : 0 ≤ s % (N : Int) := Int.emod_nonneg _ (by omega)
    have h2 : (((s % N).toNat * b : Nat) : Int) % (N : Int) = 1 % (N : Int) := by
      rw [Int.natCast_mul, Int.toNat_of_nonneg hs0, Int.mul_emod, Int.emod_emod, ← Int.mul_emod]
      rw [show s * (b : Int) = 1 + (N : Int) * (-t) by rw [Int.mul_neg, Int.mul_comm (N : Int) t]; omega]
      rw [Int.add_mul_emod_self_left]
    exact_mod_cast h2

/-- how many numbers below n satisfy P -/
def cntN (P : Nat → Bool) (n : Nat) : Nat := (List.range n).countP P
theorem cntN_succ (P : Nat → Bool) (n : Nat) : cntN P (n + 1) = cntN P n + (if P n then 1 else 0) := by
  unfold cntN
  rw [List.range_succ, List.countP_append]
  simp [List.countP_cons]
theorem cntN_le (P : Nat → Bool) : ∀ n, cntN P n ≤ n
  | 0 => by simp [cntN]
  | n + 1 => by rw [cntN_succ]; have := cntN_le P n; split <;> omega
theorem cntN_congr (P Q : Nat → Bool) (n : Nat) (h : ∀ k, k < n → P k = Q k) : cntN P n = cntN Q n := by
  induction n with
  | zero => rfl
  | succ n ih => rw [cntN_succ, cntN_succ, ih (fun k hk => h k (by omega)), h n (by omega)]
theorem cntN_perm (Q : Nat → Bool) (N e b c : Nat) (hN : 0 < N) (hc : (c * b) % N = 1 % N) : cntN (fun k => Q ((e + k * b) % N)) N = cntN Q N := by
  have := (perm_mod N e b c hN hc).countP_eq Q
  rw [List.countP_map] at this
  exact this
/-- below s, or from t on -/
theorem cntN_two (s t : Nat) (h : s ≤ t) : ∀ N, cntN (fun j => decide (j < s) || decide (t ≤ j)) N = min N s + (N - t)
  | 0 => by simp [cntN]
  | N + 1 => by
    rw [cntN_succ, cntN_two s t h N]
    by_cases h1 : N < s
    · simp [h1]; omega
    · by_cases h2 : t ≤ N
      · simp [h1, h2]; omega
      · simp [h1, h2]; omega

/-- an edge is before a moment just if its index is below befZ -/
theorem lt_bef (g r x : Int) (j : Nat) (hg : 1 ≤ g) (hr : 0 ≤ r) (hx : 0 ≤ x) : r + g * (j : Int) < x ↔ (j : Int) < befZ g r x := by
  obtain ⟨b0, b1, b2, b3⟩ := befZ_bd g r x hg hx hr
  constructor
  · intro h
    apply Decidable.byContradiction
    intro h2
    have h3 : befZ g r x * g ≤ (j : Int) * g := Int.mul_le_mul_of_nonneg_right (by omega) (by omega)
    rw [Int.mul_comm (j : Int) g] at h3
    omega
  · intro h
    have h3 := b3 (by omega)
    have h4 : (j : Int) * g ≤ (befZ g r x - 1) * g := Int.mul_le_mul_of_nonneg_right (by omega) (by omega)
    rw [Int.mul_comm (j : Int) g] at h4
    omega
/-- how late the k-th edge is behind one of the other clock -/
def lateZ (pa d pb : Int) (k : Nat) : Int := (d + (k : Int) * pb) % pa
def nearC (pa bf bh late : Int) : Bool := decide (late ≤ bf) || decide (pa - late < bh) || (decide (late = 0) && decide (0 < bh))
theorem late_eq (g N b : Nat) (d : Int) (hg : 0 < g) (hN : 0 < N) (k : Nat) :
    lateZ ((g * N : Nat) : Int) d ((g * b : Nat) : Int) k = d % (g : Int) + (g : Int) * (((((d / (g : Int)) % (N : Int)).toNat + k * b) % N : Nat) : Int) := by
  unfold lateZ
  have hgI : (0 : Int) < (g : Int) := by omega
  have hNI : (0 : Int) < (N : Int) := by omega
  have r0 := Int.emod_nonneg d (show (g : Int) ≠ 0 by omega)
  have r1 := Int.emod_lt_of_pos d hgI
  have he0 : 0 ≤ (d / (g : Int)) % (N : Int) := Int.emod_nonneg _ (by omega)
  have e1 : ((((((d / (g : Int)) % (N : Int)).toNat + k * b) % N : Nat)) : Int) = (d / (g : Int) + (k : Int) * (b : Int)) % (N : Int) := by
    rw [Int.natCast_emod, Int.natCast_add, Int.toNat_of_nonneg he0, Int.natCast_mul, Int.emod_add_emod]
  rw [e1]
  have e2 : d + (k : Int) * ((g * b : Nat) : Int) = d % (g : Int) + (g : Int) * (d / (g : Int) + (k : Int) * (b : Int)) := by
    have := Int.emod_add_mul_ediv d (g : Int)
    rw [Int.mul_add, Int.natCast_mul, Int.mul_left_comm]
    omega
  rw [e2]
  generalize d / (g : Int) + (k : Int) * (b : Int) = z
  have e3 := Int.emod_add_mul_ediv z (N : Int)
  have z0 := Int.emod_nonneg z (show (N : Int) ≠ 0 by omega)
  have z1 := Int.emod_lt_of_pos z hNI
  have e4 : d % (g : Int) + (g : Int) * z = (d % (g : Int) + (g : Int) * (z % (N : Int))) + ((g * N : Nat) : Int) * (z / (N : Int)) := by
    rw [Int.natCast_mul, Int.mul_assoc, Int.add_assoc, ← Int.mul_add, e3]
  rw [e4, Int.add_mul_emod_self_left]
  have h1 : (g : Int) * (z % (N : Int)) ≤ (g : Int) * ((N : Int) - 1) := Int.mul_le_mul_of_nonneg_left (by omega) (by omega)
  have h2 : (g : Int) * ((N : Int) - 1) = ((g * N : Nat) : Int) - (g : Int) := by rw [Int.mul_sub, Int.natCast_mul, Int.mul_one]
  have h3 : 0 ≤ (g : Int) * (z % (N : Int)) := Int.mul_nonneg (by omega) z0
  exact Int.emod_eq_of_lt (by omega) (by omega)

theorem near_main (g N b : Nat) (d bf bh : Int) (hg : 0 < g) (hN : 0 < N) (hc : Nat.gcd b N = 1) (h0 : 0 ≤ bf) (h1 : 0 ≤ bh) :
    ((cntN (fun k => nearC ((g * N : Nat) : Int) bf bh (lateZ ((g * N : Nat) : Int) d ((g * b : Nat) : Int) k)) N : Nat) : Int)
      = befZ (g : Int) (d % (g : Int)) (min (bf + 1) ((g * N : Nat) : Int)) + max ((N : Int) - befZ (g : Int) (d % (g : Int)) (max (((g * N : Nat) : Int) - bh) bf + 1)) 0 := by
  obtain ⟨c, hci⟩ := inv_ex N b hN hc
  have r0 := Int.emod_nonneg d (show (g : Int) ≠ 0 by omega)
  have r1 := Int.emod_lt_of_pos d (show (0 : Int) < (g : Int) by omega)
  have hA : (0 : Int) < ((g * N : Nat) : Int) := by have := Nat.mul_pos hg hN; omega
  obtain ⟨A, hAe⟩ : ∃ A : Int, ((g * N : Nat) : Int) = A := ⟨_, rfl⟩
  obtain ⟨r, hr⟩ : ∃ r : Int, d % (g : Int) = r := ⟨_, rfl⟩
  have hlt : ∀ j : Nat, j < N → r + (g : Int) * (j : Int) < A := by
    intro j hj
    have h2 : (g : Int) * (j : Int) ≤ (g : Int) * ((N : Int) - 1) := Int.mul_le_mul_of_nonneg_left (by omega) (by omega)
    have h3 : (g : Int) * ((N : Int) - 1) = A - (g : Int) := by rw [← hAe, Int.mul_sub, Int.natCast_mul, Int.mul_one]
    omega
  have e1 : cntN (fun k => nearC ((g * N : Nat) : Int) bf bh (lateZ ((g * N : Nat) : Int) d ((g * b : Nat) : Int) k)) N
      = cntN (fun k => (fun j => nearC A bf bh (r + (g : Int) * (j : Nat))) ((((d / (g : Int)) % (N : Int)).toNat + k * b) % N)) N := by
    apply cntN_congr
    intro k _
    rw [late_eq g N b d hg hN k, hAe, hr]
  rw [e1, cntN_perm (fun j => nearC A bf bh (r + (g : Int) * (j : Nat))) N _ b c hN hci, hAe, hr]
  have hx1 : 0 ≤ min (bf + 1) A := by omega
  have hx2 : 0 ≤ max (A - bh) bf + 1 := by omega
  obtain ⟨a0, a1, a2, a3⟩ := befZ_bd (g : Int) r (min (bf + 1) A) (by omega) hx1 (by omega)
  obtain ⟨c0, c1, c2, c3⟩ := befZ_bd (g : Int) r (max (A - bh) bf + 1) (by omega) hx2 (by omega)
  have hl1 := fun j : Nat => lt_bef (g : Int) r (min (bf + 1) A) j (by omega) (by omega) hx1
  have hl2 := fun j : Nat => lt_bef (g : Int) r (max (A - bh) bf + 1) j (by omega) (by omega) hx2
  obtain ⟨s, hs⟩ := Int.eq_ofNat_of_zero_le a0
  obtain ⟨t, ht⟩ := Int.eq_ofNat_of_zero_le c0
  rw [hs] at a0 a1 a2 a3
  rw [ht] at c0 c1 c2 c3
  rw [hs, ht]
  have hl1 : ∀ j : Nat, r + (g : Int) * (j : Int) < min (bf + 1) A ↔ (j : Int) < (s : Int) := fun j => by rw [← hs]; exact hl1 j
  have hl2 : ∀ j : Nat, r + (g : Int) * (j : Int) < max (A - bh) bf + 1 ↔ (j : Int) < (t : Int) := fun j => by rw [← ht]; exact hl2 j
  have hst : s ≤ t := by
    by_cases h : s = 0
    · omega
    · have h2 := (hl1 (s - 1)).2 (by omega)
      have h3 := (hl2 (s - 1)).1 (by omega)
      omega
  have hsN : s ≤ N := by
    by_cases h : s = 0
    · omega
    · apply Decidable.byContradiction
      intro h5
      have h2 := (hl1 N).2 (by omega)
      have h3 : (g : Int) * (N : Int) = A := by rw [← hAe, Int.natCast_mul]
      omega
  have e2 : cntN (fun j => nearC A bf bh (r + (g : Int) * (j : Nat))) N = cntN (fun j => decide (j < s) || decide (t ≤ j)) N := by
    apply cntN_congr
    intro j hj
    have h2 := hlt j hj
    have h3 := hl1 j
    have h4 := hl2 j
    have h5 : 0 ≤ (g : Int) * (j : Int) := Int.mul_nonneg (by omega) (by omega)
    obtain ⟨L, hL⟩ : ∃ L : Int, r + (g : Int) * (j : Int) = L := ⟨_, rfl⟩
    rw [hL] at h2 h3 h4 ⊢
    unfold nearC
    rw [Bool.eq_iff_iff]
    simp only [Bool.or_eq_true, Bool.and_eq_true, decide_eq_true_eq]
    constructor
    · intro h
      by_cases h6 : L ≤ bf
      · left; have := h3.1 (by omega); omega
      · right
        apply Decidable.byContradiction
        intro h7
        have := h4.2 (by omega)
        omega
    · intro h
      rcases h with h | h
      · have := h3.2 (by omega); left; left; omega
      · left; right
        apply Decidable.byContradiction
        intro h7
        have := h4.1 (by omega)
        omega
  rw [e2, cntN_two s t hst N]
  omega
end Go.Proofs.Ytafecdmcbpnniaa
