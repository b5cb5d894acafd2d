/- The pulses of a debounced and of a stretched wave: plain lists alone. -/
import Derived.Test.YtafecdmcbpnniabDoorRunsMax
import Derived.Test.YtafecdmcbpnniabDoorWinF
namespace Go.Proofs.YtafecdmcbpnniabDoor
set_option linter.unusedVariables false
set_option linter.unusedSimpArgs false

theorem last_zero {m : Nat → Bool} {T k : Nat} (h : lastC m T (k + 1) = 0) : ∀ i, k + 1 ≤ i + T → i ≤ k → m i = false := by
  intro i h1 h2
  exact cntN_zero.1 h i (by omega) (by omega)
theorem rest_lt (m : Nat → Bool) (T k : Nat) (hT : 1 ≤ T) : restC m T k < T := by
  rw [restC_eq m T k hT]
  have := cntN_le m (k + 1 - T) (min k (T - 1))
  omega
theorem deb_rise {m : Nat → Bool} {T k : Nat} (hT : 1 ≤ T) (h1 : filt (decDeb T) m T (k + 1) = true) (h0 : filt (decDeb T) m T k = false) : m k = true := by
  have e : filt (decDeb T) m T (k + 1) = decDeb T (lastC m T (k + 1)) (filt (decDeb T) m T k) := rfl
  rw [e, h0] at h1
  have h2 : lastC m T (k + 1) = T := by simpa [decDeb] using h1
  rw [lastC_succ m T k hT] at h2
  have h3 := rest_lt m T k hT
  cases hm : m k with
  | true => rfl
  | false => rw [hm] at h2; simp at h2; omega
theorem deb_fall {m : Nat → Bool} {T k : Nat} (h1 : filt (decDeb T) m T (k + 1) = false) (h0 : filt (decDeb T) m T k = true) : lastC m T (k + 1) = 0 := by
  have e : filt (decDeb T) m T (k + 1) = decDeb T (lastC m T (k + 1)) (filt (decDeb T) m T k) := rfl
  rw [e, h0] at h1
  simp [decDeb] at h1
  omega
theorem str_last (m : Nat → Bool) (T k : Nat) : filt decStr m T k = false → lastC m T k = 0 := by
  intro h
  cases k with
  | zero => simp [lastC, cntN]
  | succ k =>
    have e : filt decStr m T (k + 1) = decStr (lastC m T (k + 1)) (filt decStr m T k) := rfl
    rw [e] at h
    simp [decStr] at h
    omega
theorem str_rise {m : Nat → Bool} {T k : Nat} (hT : 1 ≤ T) (h1 : filt decStr m T (k + 1) = true) (h0 : filt decStr m T k = false) : m k = true := by
  have e : filt decStr m T (k + 1) = decStr (lastC m T (k + 1)) (filt decStr m T k) := rfl
  rw [e] at h1
  have h2 : 0 < lastC m T (k + 1) := by simpa [decStr] using h1
  rw [lastC_succ m T k hT] at h2
  have h3 := str_last m T k h0
  have h4 : restC m T k ≤ lastC m T k := by unfold restC; omega
  cases hm : m k with
  | true => rfl
  | false => rw [hm] at h2; simp at h2; omega
/-- where a filter rises only at a tick of level 1 and falls only behind T ticks of level 0, its pulses last at least T ticks -/
theorem flt_gap {l : List UInt8} {n : Nat} {T : Nat} {m x : Nat → Bool} (hx0 : x 0 = false) (hl : ∀ j, j < n → lvL l j = if x (j + 1) then 49 else 48)
    (hr : ∀ k, x (k + 1) = true → x k = false → m k = true) (hf : ∀ k, x (k + 1) = false → x k = true → lastC m T (k + 1) = 0) {u d : Int} (hu : u ∈ edgesL 49 l n) (hd : d ∈ edgesL 48 l n) (hlt : u < d) : (T : Int) ≤ d - u := by
  obtain ⟨i, rfl, i1, i2, i3⟩ := edge_mem hu
  obtain ⟨k, rfl, k1, k2, k3⟩ := edge_mem hd
  have xi : x (i + 1) = true := by
    rw [hl i i1] at i2
    cases h : x (i + 1) with
    | true => rfl
    | false => rw [h] at i2; exact absurd i2 (by decide)
  have xi0 : x i = false := by
    rcases Nat.eq_zero_or_pos i with e | e
    · rw [e]; exact hx0
    · obtain ⟨q, rfl⟩ : ∃ q, i = q + 1 := ⟨i - 1, by omega⟩
      have hp : prL l (q + 1) = lvL l q := by unfold prL; rw [if_neg (by omega)]; rfl
      rw [hp, hl q (by omega)] at i3
      cases h : x (q + 1) with
      | false => rfl
      | true => rw [h] at i3; exact absurd rfl i3
  have xk : x (k + 1) = false := by
    rw [hl k k1] at k2
    cases h : x (k + 1) with
    | false => rfl
    | true => rw [h] at k2; exact absurd k2 (by decide)
  have xk0 : x k = true := by
    rcases Nat.eq_zero_or_pos k with e | e
    · omega
    · obtain ⟨q, rfl⟩ : ∃ q, k = q + 1 := ⟨k - 1, by omega⟩
      have hp : prL l (q + 1) = lvL l q := by unfold prL; rw [if_neg (by omega)]; rfl
      rw [hp, hl q (by omega)] at k3
      cases h : x (q + 1) with
      | true => rfl
      | false => rw [h] at k3; exact absurd rfl k3
  have hm := hr i xi xi0
  have hz := last_zero (hf k xk xk0)
  rcases Nat.lt_or_ge k (i + T) with h | h
  · have := hz i (by omega) (by omega)
    rw [hm] at this
    cases this
  · omega
theorem deb_gap {l : List UInt8} {n T : Nat} {m : Nat → Bool} (hT : 1 ≤ T) (hl : ∀ j, j < n → lvL l j = if filt (decDeb T) m T (j + 1) then 49 else 48) {u d : Int} (hu : u ∈ edgesL 49 l n) (hd : d ∈ edgesL 48 l n) (hlt : u < d) : (T : Int) ≤ d - u :=
  flt_gap (x := filt (decDeb T) m T) rfl hl (fun k => deb_rise hT) (fun k => deb_fall) hu hd hlt
theorem str_gap {l : List UInt8} {n T : Nat} {m : Nat → Bool} (hT : 1 ≤ T) (hl : ∀ j, j < n → lvL l j = if filt decStr m T (j + 1) then 49 else 48) {u d : Int} (hu : u ∈ edgesL 49 l n) (hd : d ∈ edgesL 48 l n) (hlt : u < d) : (T : Int) ≤ d - u :=
  flt_gap (x := filt decStr m T) rfl hl (fun k => str_rise hT) (fun k h _ => str_last m T (k + 1) h) hu hd hlt
theorem cntN_all {m : Nat → Bool} {a : Nat} : ∀ n, (∀ i, a ≤ i → i < a + n → m i = true) → cntN m a n = n := by
  intro n
  induction n with
  | zero => intro _; rfl
  | succ n ih =>
    intro h
    have h1 := ih (fun i h1 h2 => h i h1 (by omega))
    have h2 := h (a + n) (by omega) (by omega)
    simp [cntN, h1, h2]
/-- where the last T ticks are of one level, the debounced wave has it -/
theorem deb_same {m : Nat → Bool} {T k : Nat} (hT : 1 ≤ T) (hk : T ≤ k + 1) (h : ∀ i, k + 1 ≤ i + T → i ≤ k → m i = m k) : filt (decDeb T) m T (k + 1) = m k := by
  have e : filt (decDeb T) m T (k + 1) = decDeb T (lastC m T (k + 1)) (filt (decDeb T) m T k) := rfl
  rw [e]
  cases hm : m k with
  | true =>
    have : lastC m T (k + 1) = T := by
      unfold lastC
      rw [show min (k + 1) T = T by omega]
      exact cntN_all T (fun i h1 h2 => by rw [h i (by omega) (by omega), hm])
    simp [decDeb, this]
  | false =>
    have : lastC m T (k + 1) = 0 := by
      unfold lastC
      exact cntN_zero.2 (fun i h1 h2 => by rw [h i (by omega) (by omega), hm])
    simp [decDeb, this]
    omega
theorem deb_first {m : Nat → Bool} {T : Nat} : ∀ k, filt (decDeb T) m T (k + 1) = true → T ≤ k + 1 := by
  intro k
  induction k with
  | zero =>
    intro h
    have e : filt (decDeb T) m T 1 = decDeb T (lastC m T 1) false := rfl
    rw [e] at h
    have h2 : lastC m T 1 = T := by simpa [decDeb] using h
    have h3 : lastC m T 1 ≤ min 1 T := cntN_le _ _ _
    omega
  | succ k ih =>
    intro h
    have e : filt (decDeb T) m T (k + 2) = decDeb T (lastC m T (k + 2)) (filt (decDeb T) m T (k + 1)) := rfl
    rw [e] at h
    cases hf : filt (decDeb T) m T (k + 1) with
    | true => have := ih hf; omega
    | false =>
      rw [hf] at h
      have h2 : lastC m T (k + 2) = T := by simpa [decDeb] using h
      have h3 : lastC m T (k + 2) ≤ min (k + 2) T := cntN_le _ _ _
      omega
/-- a stretched wave contains the wave -/
theorem str_keep {m : Nat → Bool} {T k : Nat} (hT : 1 ≤ T) (h : m k = true) : filt decStr m T (k + 1) = true := by
  have e : filt decStr m T (k + 1) = decStr (lastC m T (k + 1)) (filt decStr m T k) := rfl
  rw [e]
  have h2 := lastC_succ m T k hT
  rw [if_pos h] at h2
  simp [decStr]
  omega
/-- what DropPulses leaves was there -/
theorem drop_keep (s : ByteArray) (T : Int) (hall : s.data.toList.all lvlB = true) (j : Nat) (hj : j < s.size) (h : lvL (partsT 49 T (runsL s)) j = 49) : lvL s.data.toList j = 49 := by
  have hok := runsL_ok s hall
  have hpos : ∀ x ∈ runsL s, 0 ≤ x.2 := fun x hx => by have := (hok x hx).2.1; omega
  have hsz : (s.size : Int) = sumR (runsL s) := by rw [← partsT_lenI 49 T _ hpos, partsT_size s 49 T hall]
  obtain ⟨pre, x, post, e, h1, h2⟩ := parts_split (runsL s) (j : Int) hpos (by omega) (by omega)
  have hpre : ∀ y ∈ pre, 0 ≤ y.2 := fun y hy => hpos y (by rw [e]; simp [hy])
  have hx := hok x (by rw [e]; simp)
  rw [e, partsT_val 49 T pre post x hpre j h1 h2] at h
  obtain ⟨e1, e2⟩ := outLev_on 49 T x (.inr rfl) h hx.1
  rw [(runsL_max s pre post x e).1.2.2.2 j h1 h2, e1]
end Go.Proofs.YtafecdmcbpnniabDoor
