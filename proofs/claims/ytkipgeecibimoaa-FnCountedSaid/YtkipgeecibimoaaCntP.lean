/- Fractions of the law of counts: what is less, and the pulses of a signal. -/
import Derived.Test.YtkipgeecibimoaaCWLaw
import Derived.Test.YtkipgeecibimoaaWRange
import Derived.Test.YtkipgeecibimoaaUpsB
import Derived.Test.YtkipgeecibimoaaCmpSpec
import Derived.Test.YtkipgeecibimoaaAccG
namespace Go.Proofs.Ytkipgeecibimoaa
open Go.RowKit
set_option linter.unusedVariables false
set_option linter.unusedSimpArgs false

theorem cwK_mul (s : ByteArray) (T : Nat) (hT : 1 ≤ T) (q : Nat) : cwK s T (q * T) = (List.range q).map (fun k : Nat => ((lastC (upB s) T ((k + 1) * T) : Nat) : Int)) := by
  induction q with
  | zero => simp [cwK]
  | succ q ih => rw [Nat.succ_mul, cwK_next s T (q * T) hT (Nat.mul_mod_left q T), ih, List.range_succ, List.map_append, ← Nat.succ_mul]; rfl
theorem cwK_all (s : ByteArray) (T n : Nat) (hT : 1 ≤ T) : cwK s T n = (List.range (n / T)).map (fun k : Nat => ((lastC (upB s) T ((k + 1) * T) : Nat) : Int)) := by
  have h : n = n / T * T + n % T := by rw [Nat.mul_comm]; exact (Nat.div_add_mod n T).symm
  have h2 := cwK_gap s T (n / T * T) (Nat.mul_mod_left _ T) (n % T) (Nat.mod_lt n (by omega))
  rw [← h] at h2
  rw [h2, cwK_mul s T hT]
theorem cntN_add (m : Nat → Bool) (a b : Nat) : ∀ c, cntN m a (b + c) = cntN m a b + cntN m (a + b) c := by
  intro c
  induction c with
  | zero => rfl
  | succ c ih => rw [← Nat.add_assoc, cntN, ih, cntN, Nat.add_assoc a b c]; omega
theorem win_cnt (m : Nat → Bool) (T k : Nat) : lastC m T ((k + 1) * T) + cntN m 0 (k * T) = cntN m 0 ((k + 1) * T) := by
  have e : (k + 1) * T = k * T + T := Nat.succ_mul k T
  rw [e, cntN_add, Nat.zero_add]
  unfold lastC
  rw [show k * T + T - T = k * T by omega, Nat.min_eq_right (by omega)]
  omega
theorem upsL_mem (s : ByteArray) (T j : Nat) (hT : T ≤ j) (h1 : 1 ≤ j) : ∀ n, j ≤ n → ((j : Int), ((lastC (upB s) T j : Nat) : Int)) ∈ upsL s T n := by
  intro n
  induction n with
  | zero => intro h; omega
  | succ n ih =>
    intro h
    by_cases e : j = n + 1
    · rw [upsL_hit s T n (by omega), e]; simp
    · have := ih (by omega)
      by_cases hT2 : T ≤ n + 1
      · rw [upsL_hit s T n hT2]; exact List.mem_append_left _ this
      · rw [upsL_miss s T n hT2]; exact this
theorem foldmin_le : ∀ (l : List (Int × Int)) (a : Int), l.foldl (fun a x => min a x.2) a ≤ a ∧ ∀ x ∈ l, l.foldl (fun a x => min a x.2) a ≤ x.2 := by
  intro l
  induction l with
  | nil => intro a; exact ⟨Int.le_refl _, by simp⟩
  | cons y l ih =>
    intro a
    obtain ⟨h1, h2⟩ := ih (min a y.2)
    refine ⟨by simp only [List.foldl_cons]; omega, fun x hx => ?_⟩
    rcases List.mem_cons.1 hx with rfl | hx
    · simp only [List.foldl_cons]; omega
    · exact h2 x hx
theorem foldmax_le : ∀ (l : List (Int × Int)) (a : Int), a ≤ l.foldl (fun a x => max a x.2) a ∧ ∀ x ∈ l, x.2 ≤ l.foldl (fun a x => max a x.2) a := by
  intro l
  induction l with
  | nil => intro a; exact ⟨Int.le_refl _, by simp⟩
  | cons y l ih =>
    intro a
    obtain ⟨h1, h2⟩ := ih (max a y.2)
    refine ⟨by simp only [List.foldl_cons]; omega, fun x hx => ?_⟩
    rcases List.mem_cons.1 hx with rfl | hx
    · simp only [List.foldl_cons]; omega
    · exact h2 x hx
/-- one window: its number, and that it is in the range -/
theorem win_ok (s : ByteArray) (T k n : Nat) (hT : 1 ≤ T) (hk : k < n / T) : (k + 1) * T ≤ n ∧ loL T (upsL s T n) ≤ ((lastC (upB s) T ((k + 1) * T) : Nat) : Int) ∧ ((lastC (upB s) T ((k + 1) * T) : Nat) : Int) ≤ hiL (upsL s T n) := by
  have h1 : (k + 1) * T ≤ n := Nat.le_trans (Nat.mul_le_mul_right T hk) (Nat.div_mul_le_self n T)
  have e : (k + 1) * T = k * T + T := Nat.succ_mul k T
  have hm := upsL_mem s T ((k + 1) * T) (by omega) (by omega) n h1
  exact ⟨h1, (foldmin_le _ _).2 _ hm, (foldmax_le _ _).2 _ hm⟩

/-- lowest terms keep what is less -/
theorem red_lt (u v x d : Nat) (hv : 0 < v) (hd : 0 < d) (h : u * d < x * v) : u / Nat.gcd u v * (d / Nat.gcd x d) < x / Nat.gcd x d * (v / Nat.gcd u v) := by
  have g1 : 0 < Nat.gcd u v := Nat.gcd_pos_of_pos_right _ hv
  have g2 : 0 < Nat.gcd x d := Nat.gcd_pos_of_pos_right _ hd
  generalize hG : Nat.gcd u v = G at *
  generalize hH : Nat.gcd x d = H at *
  have e1 : G * (u / G) = u := Nat.mul_div_cancel' (hG ▸ Nat.gcd_dvd_left u v)
  have e2 : G * (v / G) = v := Nat.mul_div_cancel' (hG ▸ Nat.gcd_dvd_right u v)
  have e3 : H * (x / H) = x := Nat.mul_div_cancel' (hH ▸ Nat.gcd_dvd_left x d)
  have e4 : H * (d / H) = d := Nat.mul_div_cancel' (hH ▸ Nat.gcd_dvd_right x d)
  generalize u / G = a at *
  generalize v / G = b at *
  generalize x / H = c at *
  generalize d / H = f at *
  rw [← e1, ← e2, ← e3, ← e4] at h
  have h2 : (G * H) * (a * f) < (G * H) * (c * b) := by
    rw [show (G * H) * (a * f) = G * a * (H * f) by ac_rfl, show (G * H) * (c * b) = H * c * (G * b) by ac_rfl]; exact h
  exact Nat.lt_of_mul_lt_mul_left h2

/-- what is known behind tt ticks: how many pulses came, and when the last one did -/
def SigI (O S F tt cnt ph last : Nat) : Prop := ph < S ∧ S + tt * O = ph + cnt * S + F + 1 ∧ cnt ≤ tt ∧ ((cnt = 0 ∧ tt = 0) ∨ ∃ c, cnt = c + 1 ∧ last < tt ∧ last * O ≤ c * S + F ∧ c * S + F < (last + 1) * O)
theorem SigI.start (O S F : Nat) (hF : F < S) : SigI O S F 0 0 (S - 1 - F) 0 := ⟨by omega, by omega, Nat.le_refl _, .inl ⟨rfl, rfl⟩⟩
theorem SigI.hit {O S F tt cnt ph last : Nat} (h : SigI O S F tt cnt ph last) (hO : O ≤ S) (hh : S ≤ ph + O) : SigI O S F (tt + 1) (cnt + 1) (ph + O - S) tt := by
  obtain ⟨h1, h2, h3, h4⟩ := h
  have e1 : (tt + 1) * O = tt * O + O := Nat.succ_mul tt O
  have e2 : (cnt + 1) * S = cnt * S + S := Nat.succ_mul cnt S
  refine ⟨by omega, by rw [e1, e2]; omega, by omega, .inr ⟨cnt, rfl, by omega, by omega, by rw [e1]; omega⟩⟩
theorem SigI.miss {O S F tt cnt ph last : Nat} (h : SigI O S F tt cnt ph last) (hF : F < O) (hh : ¬ S ≤ ph + O) : SigI O S F (tt + 1) cnt (ph + O) last := by
  obtain ⟨h1, h2, h3, h4⟩ := h
  have e1 : (tt + 1) * O = tt * O + O := Nat.succ_mul tt O
  refine ⟨by omega, by rw [e1]; omega, by omega, ?_⟩
  rcases h4 with ⟨rfl, rfl⟩ | ⟨c, rfl, h5, h6, h7⟩
  · simp at h2; omega
  · exact .inr ⟨c, rfl, by omega, h6, h7⟩
theorem SigI.pos {O S F tt cnt ph last : Nat} (h : SigI O S F tt cnt ph last) (ht : 0 < tt) : 0 < cnt := by
  obtain ⟨h1, h2, h3, h4⟩ := h
  rcases h4 with ⟨_, h⟩ | ⟨c, rfl, _⟩
  · omega
  · omega
/-- what the counts and spans of 60 ticks tell of the period N / D with the phase P / Q -/
theorem sig_end (N D P Q O S F cnt ph last : Nat) (hO : O = D * Q) (hS : S = N * Q) (hF : F < O) (hDN : D ≤ N) (hN6 : N < 6 * D) (hQ : 0 < Q) (hD : 0 < D) (h : SigI O S F 60 cnt ph last) :
    10 ≤ cnt ∧ cnt ≤ 60 ∧ 9 ≤ last ∧ last < 60 ∧ 60 * D < N * (cnt + 1) ∧ N * (cnt - 1) < 60 * D ∧ (last - 0 - 1) * D < N * (cnt - 1) ∧ N * (cnt - 1) < (last - 0 + 1) * D := by
  obtain ⟨h1, h2, h3, h4⟩ := h
  rcases h4 with ⟨_, h⟩ | ⟨c, rfl, h5, h6, h7⟩
  · omega
  have hOS : O ≤ S := by rw [hO, hS]; exact Nat.mul_le_mul_right Q hDN
  have hS6 : S < 6 * O := by
    rw [hO, hS, ← Nat.mul_assoc]; exact Nat.mul_lt_mul_of_pos_right hN6 hQ
  have e2 : (c + 1) * S = c * S + S := Nat.succ_mul c S
  have e3 : (last + 1) * O = last * O + O := Nat.succ_mul last O
  have e4 : (c + 1 + 1) * S = c * S + S + S := by rw [Nat.succ_mul, e2]
  rw [e2] at h2
  have b1 : 60 * O ≤ c * S + S + F := by omega
  have b2 : c * S + F < 60 * O := by omega
  have hc9 : 9 ≤ c := by
    rcases Nat.lt_or_ge c 9 with hc | hc
    · have : c * S ≤ 8 * S := Nat.mul_le_mul_right S (by omega)
      omega
    · exact hc
  have hcS : 9 * O ≤ c * S := Nat.le_trans (Nat.mul_le_mul_left 9 hOS) (Nat.mul_le_mul_right S hc9)
  have hl9 : 9 ≤ last := by
    rcases Nat.lt_or_ge last 9 with hl | hl
    · have : last * O ≤ 8 * O := Nat.mul_le_mul_right O (by omega)
      omega
    · exact hl
  have can : ∀ a b : Nat, a * Q < b * Q → a < b := fun a b q => Nat.lt_of_mul_lt_mul_right q
  refine ⟨by omega, by omega, hl9, h5, ?_, ?_, ?_, ?_⟩
  · apply can
    rw [show 60 * D * Q = 60 * O by rw [hO]; ac_rfl, show N * (c + 1 + 1) * Q = (c + 1 + 1) * S by rw [hS]; ac_rfl, e4]
    omega
  · apply can
    rw [show 60 * D * Q = 60 * O by rw [hO]; ac_rfl, show N * (c + 1 - 1) * Q = c * S by rw [hS, Nat.add_sub_cancel]; ac_rfl]
    omega
  · apply can
    rw [show (last - 0 - 1) * D * Q = (last - 1) * O by rw [hO, Nat.sub_zero]; ac_rfl, show N * (c + 1 - 1) * Q = c * S by rw [hS, Nat.add_sub_cancel]; ac_rfl]
    obtain ⟨l, rfl⟩ : ∃ l, last = l + 1 := ⟨last - 1, by omega⟩
    have e5 : (l + 1) * O = l * O + O := Nat.succ_mul l O
    rw [Nat.add_sub_cancel]
    omega
  · apply can
    rw [show (last - 0 + 1) * D * Q = (last + 1) * O by rw [hO, Nat.sub_zero]; ac_rfl, show N * (c + 1 - 1) * Q = c * S by rw [hS, Nat.add_sub_cancel]; ac_rfl, e3]
    omega
theorem cmp_neg (n d p q : Nat) (h : n * q < p * d) : cmpI (n : Int) (d : Int) (p : Int) (q : Int) = -1 := by
  rw [← cmpI_pos (n : Int) (d : Int) (p : Int) (q : Int) (by omega) (by omega)]
  simp only [Int.natAbs_natCast]
  rw [if_neg (by omega), if_pos h]
theorem frac_red (u v : Nat) (hv : 0 < v) (hu : u ≤ 1000000000000000000) (hv2 : v ≤ 1000000000000000000) : fracB ((u / Nat.gcd u v : Nat) : Int) ((v / Nat.gcd u v : Nat) : Int) = true := by
  have g1 : 0 < Nat.gcd u v := Nat.gcd_pos_of_pos_right _ hv
  have h1 : Nat.gcd (u / Nat.gcd u v) (v / Nat.gcd u v) = 1 := by
    have := Nat.gcd_div (Nat.gcd_dvd_left u v) (Nat.gcd_dvd_right u v)
    rw [this, Nat.div_self g1]
  have h2 : 0 < v / Nat.gcd u v := Nat.div_pos (Nat.le_of_dvd hv (Nat.gcd_dvd_right u v)) g1
  have h3 : u / Nat.gcd u v ≤ u := Nat.div_le_self _ _
  have h4 : v / Nat.gcd u v ≤ v := Nat.div_le_self _ _
  obtain ⟨a, ha⟩ : ∃ a, u / Nat.gcd u v = a := ⟨_, rfl⟩
  obtain ⟨b, hb⟩ : ∃ b, v / Nat.gcd u v = b := ⟨_, rfl⟩
  rw [ha, hb] at h1
  rw [hb] at h2 h4
  rw [ha] at h3
  rw [ha, hb]
  unfold fracB
  rw [decide_eq_true_iff]
  have h5 : Int.gcd (a : Int) (b : Int) = Nat.gcd a b := rfl
  rw [h5, h1]
  exact ⟨by omega, by omega, by omega, by omega, rfl⟩
theorem mk_natq (n d : Nat) (hd : 0 < d) : mkN (n : Int) (d : Int) = ((n / Nat.gcd n d : Nat) : Int) ∧ mkD (n : Int) (d : Int) = ((d / Nat.gcd n d : Nat) : Int) := by
  obtain ⟨m1, m2⟩ := mk_pos (n : Int) (d : Int) (by omega)
  have e : ((Int.gcd (n : Int) (d : Int) : Nat) : Int) = ((Nat.gcd n d : Nat) : Int) := rfl
  rw [m1, m2, e]
  exact ⟨by rw [Int.tdiv_eq_ediv_of_nonneg (by omega)]; simp, by simp⟩
theorem acc_atq (s m ph T t : Nat) (L : List UInt8) (ht : t < T) (h : L.drop t = accL s m ph (T - t)) : ∃ hl : t < L.length, (m ≤ ph + s → L[t] = 49 ∧ L.drop (t + 1) = accL s m (ph + s - m) (T - (t + 1))) ∧ (¬ m ≤ ph + s → L[t] = 48 ∧ L.drop (t + 1) = accL s m (ph + s) (T - (t + 1))) := by
  have hlen := congrArg List.length h
  rw [accL_len, List.length_drop] at hlen
  have hl : t < L.length := by omega
  refine ⟨hl, ?_⟩
  rw [List.drop_eq_getElem_cons hl, show T - t = (T - (t + 1)) + 1 from by omega, accL] at h
  constructor
  · intro hm
    rw [if_pos hm] at h
    exact ⟨(List.cons.inj h).1, (List.cons.inj h).2⟩
  · intro hm
    rw [if_neg hm] at h
    exact ⟨(List.cons.inj h).1, (List.cons.inj h).2⟩
theorem str_atq (L : List UInt8) (S : ByteArray) (h : (⟨L.toArray⟩ : ByteArray) = S) (t : Nat) (ht : t < L.length) : ∃ h2 : t < S.size, S[t] = L[t] := by
  subst h
  exact ⟨by simpa [ByteArray.size] using ht, by simp [ByteArray.getElem_eq_getElem_data]⟩
/-- the parts of a fraction in lowest terms -/
theorem red_parts (x d N D : Nat) (hd : 0 < d) (hN : x / Nat.gcd x d = N) (hD : d / Nat.gcd x d = D) : 0 < D ∧ N ≤ x ∧ D ≤ d ∧ (d ≤ x → D ≤ N) ∧ (x < d → N < D) ∧ (x < 6 * d → N < 6 * D) ∧ N / Nat.gcd N D = N ∧ D / Nat.gcd N D = D := by
  have g1 : 0 < Nat.gcd x d := Nat.gcd_pos_of_pos_right _ hd
  have h1 : Nat.gcd N D = 1 := by
    rw [← hN, ← hD, Nat.gcd_div (Nat.gcd_dvd_left x d) (Nat.gcd_dvd_right x d), Nat.div_self g1]
  have e1 : Nat.gcd x d * N = x := by rw [← hN]; exact Nat.mul_div_cancel' (Nat.gcd_dvd_left x d)
  have e2 : Nat.gcd x d * D = d := by rw [← hD]; exact Nat.mul_div_cancel' (Nat.gcd_dvd_right x d)
  refine ⟨?_, by rw [← hN]; exact Nat.div_le_self _ _, by rw [← hD]; exact Nat.div_le_self _ _, fun h => ?_, fun h => ?_, fun h => ?_, by rw [h1, Nat.div_one], by rw [h1, Nat.div_one]⟩
  · rw [← hD]; exact Nat.div_pos (Nat.le_of_dvd hd (Nat.gcd_dvd_right x d)) g1
  · rw [← hN, ← hD]; exact Nat.div_le_div_right h
  · generalize Nat.gcd x d = G at *
    rw [← e1, ← e2] at h
    exact Nat.lt_of_mul_lt_mul_left h
  · generalize Nat.gcd x d = G at *
    rw [← e1, ← e2, show 6 * (G * D) = G * (6 * D) by ac_rfl] at h
    exact Nat.lt_of_mul_lt_mul_left h
set_option maxHeartbeats 1000000 in
set_option maxRecDepth 100000 in
theorem less_t (N1 D1 N2 D2 : Nat) (f1 : fracB (N1 : Int) (D1 : Int) = true) (f2 : fracB (N2 : Int) (D2 : Int) = true) (h : N1 * D2 < N2 * D1) (w : World) :
    Calls Try.prog 26 #[.agg #[.int .i64 (N1 : Int), .int .i64 (D1 : Int)], .agg #[.int .i64 (N2 : Int), .int .i64 (D2 : Int)]] w fun e w' => e = .returned (.bool true) ∧ Below w.heap.size w w' := by
  have HC := Lib.hid (fun w => specCmp_t (N1 : Int) (D1 : Int) (N2 : Int) (D2 : Int) w f1 f2)
  rw [cmp_neg N1 D1 N2 D2 h] at HC
  clear f1 f2 h
  go_enter Try.func26, Try.ntmps26
  go_wp2_with fail
  refine (HC.out _).mono ?_; rintro e w1 ⟨rfl, b1⟩
  have HB := Lib.hid ((((Below.refl w.heap.size w).alloc (Nat.le_refl _) _).alloc (by simp) _).trans (b1.mono (by simp; omega)))
  clear b1
  go_wp2
  go_ret
  exact ⟨rfl, HB.out⟩
end Go.Proofs.Ytkipgeecibimoaa
