/- Decimal numerals: plain words over bytes; nothing of the program. -/
import Derived.WalkKit
import Derived.Lib.ItoaLen
import Derived.Lib.ParseIntB
namespace Go.Proofs.YtemjohkieehojaaDoor
open Go.Lib

/-- the digits of u, the least one first; none of 0 -/
def revD (u : Nat) : List UInt8 := if h : u = 0 then [] else UInt8.ofNat (48 + u % 10) :: revD (u / 10)
  termination_by u
  decreasing_by omega
theorem revD_zero : revD 0 = [] := by rw [revD]; rfl
theorem revD_pos {u : Nat} (h : u ≠ 0) : revD u = UInt8.ofNat (48 + u % 10) :: revD (u / 10) := by rw [revD, dif_neg h]
theorem decD_small {u : Nat} (h : u < 10) : decDigits u = [UInt8.ofNat (48 + u)] := by rw [decDigits, dif_pos h]
theorem decD_big {u : Nat} (h : ¬ u < 10) : decDigits u = decDigits (u / 10) ++ [UInt8.ofNat (48 + u % 10)] := by rw [decDigits, dif_neg h]
theorem revD_dec : ∀ (k u : Nat), u ≤ k → u ≠ 0 → (revD u).reverse = decDigits u
  | 0, u, h, hn => by omega
  | k + 1, u, h, hn => by
    rw [revD_pos hn, List.reverse_cons]
    by_cases h10 : u < 10
    · rw [decD_small h10, show u / 10 = 0 by omega, revD_zero, show u % 10 = u by omega]; rfl
    · rw [decD_big h10, revD_dec k (u / 10) (by omega) (by omega)]
theorem revD_len : ∀ (k u : Nat), u < 10 ^ k → (revD u).length ≤ k
  | 0, u, h => by
    obtain rfl : u = 0 := by simpa using h
    rw [revD_zero]; simp
  | k + 1, u, h => by
    by_cases hu : u = 0
    · subst hu; rw [revD_zero]; simp
    · rw [revD_pos hu]
      have := revD_len k (u / 10) (by rw [Nat.pow_succ] at h; omega)
      simp; omega
theorem dig_toNat (d : Nat) (h : d < 10) : (UInt8.ofNat (48 + d)).toNat = 48 + d := by
  rw [UInt8.toNat_ofNat']; omega

/-- the number that digits are -/
def valL (l : List UInt8) : Nat := l.foldl (fun a b => 10 * a + (b.toNat - 48)) 0
theorem valL_nil : valL [] = 0 := rfl
theorem valL_snoc (l : List UInt8) (b : UInt8) : valL (l ++ [b]) = 10 * valL l + (b.toNat - 48) := by simp [valL]
theorem valL_le (l r : List UInt8) : valL l ≤ valL (l ++ r) := by
  induction r generalizing l with
  | nil => simp
  | cons b r ih =>
    have h1 := ih (l ++ [b])
    rw [valL_snoc] at h1
    rw [show l ++ b :: r = (l ++ [b]) ++ r by simp]
    omega
theorem val_dec : ∀ (k u : Nat), u ≤ k → valL (decDigits u) = u
  | 0, u, h => by
    obtain rfl : u = 0 := by omega
    rw [decD_small (by omega)]; rfl
  | k + 1, u, h => by
    by_cases h10 : u < 10
    · rw [decD_small h10, show ([UInt8.ofNat (48 + u)] : List UInt8) = [] ++ [UInt8.ofNat (48 + u)] from rfl, valL_snoc, valL_nil, dig_toNat u h10]; omega
    · rw [decD_big h10, valL_snoc, val_dec k (u / 10) (by omega), dig_toNat _ (by omega)]; omega
theorem dig_dec : ∀ (k u : Nat), u ≤ k → ∀ b ∈ decDigits u, 48 ≤ b.toNat ∧ b.toNat ≤ 57
  | 0, u, h, b, hb => by
    rw [decD_small (by omega)] at hb
    obtain rfl : b = UInt8.ofNat (48 + u) := by simpa using hb
    rw [dig_toNat u (by omega)]; omega
  | k + 1, u, h, b, hb => by
    by_cases h10 : u < 10
    · rw [decD_small h10] at hb
      obtain rfl : b = UInt8.ofNat (48 + u) := by simpa using hb
      rw [dig_toNat u h10]; omega
    · rw [decD_big h10, List.mem_append] at hb
      rcases hb with hb | hb
      · exact dig_dec k (u / 10) (by omega) b hb
      · obtain rfl : b = UInt8.ofNat (48 + u % 10) := by simpa using hb
        rw [dig_toNat _ (by omega)]; omega
theorem pre_dec : ∀ (k u : Nat), u ≤ k → ∀ i, i < (decDigits u).length → 10 * valL ((decDigits u).take i) ≤ u
  | 0, u, h, i, hi => by
    rw [decD_small (by omega)] at hi ⊢
    obtain rfl : i = 0 := by simpa using hi
    simp [valL]
  | k + 1, u, h, i, hi => by
    by_cases h10 : u < 10
    · rw [decD_small h10] at hi ⊢
      obtain rfl : i = 0 := by simpa using hi
      simp [valL]
    · rw [decD_big h10] at hi ⊢
      rw [List.length_append] at hi
      by_cases hl : i < (decDigits (u / 10)).length
      · have := pre_dec k (u / 10) (by omega) i hl
        rw [List.take_append_of_le_length (by omega)]
        omega
      · have hi' : i = (decDigits (u / 10)).length := by simp at hi; omega
        rw [hi', List.take_left', val_dec (u / 10) (u / 10) (Nat.le_refl _)]
        · omega
        · rfl
theorem dec_len_pos (u : Nat) : 0 < (decDigits u).length := by
  by_cases h10 : u < 10
  · rw [decD_small h10]; simp
  · rw [decD_big h10]; simp
theorem dec_len : ∀ (k u : Nat), u < 10 ^ (k + 1) → (decDigits u).length ≤ k + 1
  | 0, u, h => by rw [decD_small (by simpa using h)]; simp
  | k + 1, u, h => by
    by_cases h10 : u < 10
    · rw [decD_small h10]; simp
    · rw [decD_big h10, List.length_append]
      have := dec_len k (u / 10) (by rw [Nat.pow_succ] at h; omega)
      simp; omega

theorem itoa_nn {n : Int} (h : 0 ≤ n) : itoa n = decDigits n.natAbs := by
  unfold itoa; rw [if_neg (by omega), show n.toNat = n.natAbs by omega]
theorem itoa_ng {n : Int} (h : n < 0) : itoa n = 45 :: decDigits n.natAbs := by
  unfold itoa; rw [if_pos h]
theorem parseM_dec (N : Nat) (hN : N ≤ 1000000000000000000) : ∀ (suf pre : List UInt8), (∀ b ∈ suf, 48 ≤ b.toNat ∧ b.toNat ≤ 57) → valL (pre ++ suf) = N →
    parseUintM (2 ^ 64 - 1) (valL pre) suf = .ok N
  | [], pre, _, h => by rw [List.append_nil] at h; rw [parseUintM, h]
  | c :: r, pre, hd, h => by
    have hc := hd c (by simp)
    have h1 := valL_le (pre ++ [c]) r
    rw [valL_snoc, show (pre ++ [c]) ++ r = pre ++ c :: r by simp, h] at h1
    have h2 := parseM_dec N hN r (pre ++ [c]) (fun b hb => hd b (by simp [hb])) (by rw [← h]; simp)
    rw [valL_snoc] at h2
    rw [parseUintM, if_pos hc, if_neg (by omega), if_neg (by omega), show valL pre * 10 + (c.toNat - 48) = 10 * valL pre + (c.toNat - 48) by omega]
    exact h2
theorem parseB_dec (u : Nat) (hu : u ≤ 1000000000000000000) : parseUintB 64 (decDigits u) = .ok u := by
  unfold parseUintB
  rw [if_neg (fun h => by have := dec_len_pos u; rw [h] at this; simp at this)]
  have := parseM_dec u hu (decDigits u) [] (dig_dec u u (Nat.le_refl _)) (by simpa using val_dec u u (Nat.le_refl _))
  simpa [valL] using this
theorem dec_head (u : Nat) : ∃ c r, decDigits u = c :: r ∧ 48 ≤ c.toNat ∧ c.toNat ≤ 57 := by
  cases h : decDigits u with
  | nil => have := dec_len_pos u; rw [h] at this; simp at this
  | cons c r => exact ⟨c, r, rfl, dig_dec u u (Nat.le_refl _) c (by rw [h]; simp)⟩
theorem parse_itoa (n : Int) (h1 : -1000000000000000000 ≤ n) (h2 : n ≤ 1000000000000000000) : parseIntB 64 (itoa n) = .ok n := by
  have hp := parseB_dec n.natAbs (by omega)
  by_cases h : n < 0
  · rw [itoa_ng h]
    have e : (45 : UInt8).toNat = 45 := rfl
    simp only [parseIntB, e, or_true, if_true]
    rw [hp]
    simp only [not_true, false_and, if_false, true_and]
    rw [if_neg (by omega)]
    congr 1
    omega
  · rw [itoa_nn (by omega)]
    obtain ⟨c, r, hcr, c1, c2⟩ := dec_head n.natAbs
    rw [hcr] at hp ⊢
    have n1 : ¬ (c.toNat = 43 ∨ c.toNat = 45) := by omega
    have n2 : ¬ c.toNat = 45 := by omega
    unfold parseIntB
    dsimp only
    rw [if_neg n1, hp]
    dsimp only
    rw [if_neg (by omega), if_neg (fun h => n2 h.1), if_neg n2]
    congr 1
    omega

/-- the number from -m to m whose numeral the text is -/
def rd (m : Nat) (l : List UInt8) : Option Int := match parseIntB 64 l with
  | .ok n => if n.natAbs ≤ m ∧ itoa n = l then some n else none
  | _ => none
theorem rd_itoa (m : Nat) (hm : m ≤ 1000000000000000000) (n : Int) (h : n.natAbs ≤ m) : rd m (itoa n) = some n := by
  unfold rd
  rw [parse_itoa n (by omega) (by omega)]
  simp [h]
theorem rd_some {m : Nat} {l : List UInt8} {n : Int} (h : rd m l = some n) : n.natAbs ≤ m ∧ itoa n = l := by
  unfold rd at h
  split at h
  · rename_i k _
    split at h
    · rename_i hc
      obtain rfl := Option.some.inj h
      exact hc
    · cases h
  · cases h
theorem rd_none {m : Nat} (_ : m ≤ 1000000000000000000) {l : List UInt8} (h : ∀ n : Int, n.natAbs ≤ m → itoa n ≠ l) : rd m l = none := by
  cases hr : rd m l with
  | none => rfl
  | some n => exact absurd (rd_some hr).2 (h n (rd_some hr).1)
theorem rd_ok {m : Nat} {l : List UInt8} {n : Int} (h : parseIntB 64 l = .ok n) : rd m l = if n.natAbs ≤ m ∧ itoa n = l then some n else none := by
  unfold rd; rw [h]
theorem rd_bad {m : Nat} {l : List UInt8} (h : ∀ n, parseIntB 64 l ≠ .ok n) : rd m l = none := by
  unfold rd
  split
  · rename_i k hk; exact absurd hk (h k)
  · rfl
end Go.Proofs.YtemjohkieehojaaDoor
