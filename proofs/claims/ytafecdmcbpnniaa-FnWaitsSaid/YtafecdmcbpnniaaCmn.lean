/- Are clocks valid, and their common period: both sides. -/
import Derived.Test.YtafecdmcbpnniaaCkLaw
import Derived.Test.YtafecdmcbpnniaaGcd
import Derived.Test.YtafecdmcbpnniaaRecsC
import Derived.BigQuiet
import Derived.Deep.QuietTactic
namespace Go.Proofs.Ytafecdmcbpnniaa
open Go.RowKit
set_option linter.unusedVariables false
def ckK (F : List Int) (k : Nat) : Bool := clkB (F.getD (k * 2) 0) (F.getD (k * 2 + 1) 0)
def allK (F : List Int) (n : Nat) : Bool := (List.range n).all (ckK F)
theorem allK_at {F : List Int} {n k : Nat} (h : allK F n = true) (hk : k < n) : ckK F k = true := List.all_eq_true.1 h k (List.mem_range.2 hk)
theorem allK_bad {F : List Int} {n k : Nat} (hk : k < n) (h : ckK F k = false) : allK F n = false := by
  cases e : allK F n with
  | false => rfl
  | true => have := allK_at e hk; rw [h] at this; cases this
theorem allK_step {F : List Int} {k : Nat} (h0 : allK F k = true) (h : ckK F k = true) : allK F (k + 1) = true := by
  unfold allK at *
  rw [List.range_succ, List.all_append, h0]; simp [h]
def allC (F : List Int) (n : Nat) : Bool := decide (1 ≤ n ∧ n ≤ 6) && allK F n
theorem allC_bad {F : List Int} {n : Nat} (h : allK F n = false) : allC F n = false := by unfold allC; rw [h, Bool.and_false]
theorem allC_cnt {F : List Int} {n : Nat} (h : ¬ (1 ≤ n ∧ n ≤ 6)) : allC F n = false := by unfold allC; rw [decide_eq_false h]; rfl
theorem allC_ok {F : List Int} {n : Nat} (h : 1 ≤ n ∧ n ≤ 6) (h2 : allK F n = true) : allC F n = true := by unfold allC; rw [decide_eq_true h, h2]; rfl
theorem allC_iff {F : List Int} {n : Nat} (h : allC F n = true) : (1 ≤ n ∧ n ≤ 6) ∧ allK F n = true := by
  unfold allC at h
  rw [Bool.and_eq_true, decide_eq_true_eq] at h
  exact h
theorem quiet_eqc {P : Program} {f : FuncId} {args : Array Value} {w : World} {n : Nat} {v : Value}
    (h : Calls P f args (w.drewN n) fun e w' => e = .returned v ∧ w.drewN n = w') : Calls P f args (w.drewN n) fun e w'' => e = .returned v ∧ ∃ m, w'' = w.drewN m :=
  h.mono fun _ _ ⟨he, hm⟩ => ⟨he, n, hm.symm⟩
theorem withinI_t (x lo hi : Int) (w : World) (h1 : lo ≤ x) (h2 : x ≤ hi) :
    Calls Try.prog 68 #[.int .i64 x, .int .i64 lo, .int .i64 hi] w fun e w' => e = .returned (.bool true) ∧ w = w' := by
  go_enter Try.func68, Try.ntmps68
  go_wp2
  go_ret
  exact ⟨by simp, rfl⟩
theorem withinI_f (x lo hi : Int) (w : World) (h : x < lo ∨ hi < x) :
    Calls Try.prog 68 #[.int .i64 x, .int .i64 lo, .int .i64 hi] w fun e w' => e = .returned (.bool false) ∧ w = w' := by
  by_cases h1 : lo ≤ x
  all_goals
    go_enter Try.func68, Try.ntmps68
    go_wp2
    go_ret
    exact ⟨by simp; try omega, rfl⟩
set_option maxHeartbeats 2000000 in
set_option maxRecDepth 100000 in
theorem l10All_any0 (B : Nat) (a : Option Addr) (n cap : Nat) (F : List Int) (w : World) (hr : Recs w B (.slice a n cap) n F) (h6 : n ≤ 6) :
    Calls Try.prog 59 #[.slice a n cap] w fun e w' => e = .returned (.bool (allC F n)) ∧ Below w.heap.size w w' := by
  have HR := Lib.hid hr
  clear hr
  go_enter Try.func59, Try.ntmps59
  go_wp2
  go_loopw [3] (fun i wr => ∃ k : Nat, k ≤ n ∧ i = .int .i64 (k : Int) ∧ allK F k = true ∧ Below w.heap.size w wr) (fun i _ => n - (intOf i).toNat)
  case atStart => exact ⟨0, Nat.zero_le _, rfl, rfl, Below.refl _ _⟩
  case round =>
    obtain ⟨k, hk, rfl, h0, hB⟩ := hrel
    have H0 := Lib.hid h0
    have HB := Lib.hid hB
    by_cases hlt : k < n
    · obtain ⟨g, x, y, rfl, -, hgl, ⟨e0, e1⟩, x0, x1⟩ := (HR.out.keep hB (Nat.le_refl _)).at k hlt
      have HK := Lib.hid (show ckK F k = clkB x y by unfold ckK; rw [e0, e1])
      clear h0 hB e0 e1
      cases hv : clkB x y with
      | true =>
        have HS := Lib.hid (allK_step H0.out (by rw [HK.out]; exact hv))
        have HV := Lib.hid hv
        clear hv
        go_wp2_with fail
        refine (l10Is_any x y _).mono ?_; rw [HV.out]; rintro e w2 ⟨rfl, hb2⟩
        have HB2 := Lib.hid (bel_call HB.out hb2)
        clear hb2
        go_wp2
        go_roundw
        case rel => exact ⟨k + 1, by omega, by go_num, HS.out, HB2.out⟩
        case measure => simp [intOf]; omega
      | false =>
        have HS := Lib.hid (allC_bad (allK_bad hlt (by rw [HK.out]; exact hv)))
        have HV := Lib.hid hv
        clear hv
        go_wp2_with fail
        refine (l10Is_any x y _).mono ?_; rw [HV.out]; rintro e w2 ⟨rfl, hb2⟩
        have HB2 := Lib.hid (bel_call HB.out hb2)
        clear hb2
        go_wp2
        go_ret
        exact ⟨by rw [HS.out]; rfl, HB2.out⟩
    · have HE := Lib.hid (show allK F n = true by rw [show n = k by omega]; exact H0.out)
      clear h0 hB
      by_cases hn1 : 1 ≤ n ∧ n ≤ 6
      · go_wp2_with fail
        refine (l00In_t _ _ _ _ (by omega) (by omega)).mono ?_; rintro e w' ⟨rfl, rfl⟩
        go_wp2
        go_ret
        exact ⟨by rw [allC_ok hn1 HE.out]; rfl, HB.out⟩
      · go_wp2_with fail
        refine (l00In_f _ _ _ _ (by omega)).mono ?_; rintro e w' ⟨rfl, rfl⟩
        go_wp2
        go_ret
        exact ⟨by rw [allC_cnt hn1]; rfl, HB.out⟩
theorem l10All_any (B : Nat) (a : Option Addr) (n cap : Nat) (F : List Int) (w : World) (hr : Recs w B (.slice a n cap) n F) (hl : n ≤ 1048576) :
    Calls Try.prog 59 #[.slice a n cap] w fun e w' => e = .returned (.bool (allC F n)) ∧ Below w.heap.size w w' := by
  by_cases h6 : n ≤ 6
  · exact l10All_any0 B a n cap F w hr h6
  · have h6I : ¬ (n : Int) ≤ 6 := by omega
    have h6d : decide ((n : Int) ≤ 6) = false := decide_eq_false h6I
    have h0I : (0 : Int) < (n : Int) := by omega
    rw [allC_cnt (fun h => h6 h.2)]
    clear hr
    go_enter Try.func59, Try.ntmps59
    go_wp2
    go_loopw [3] (fun i wr => i = .int .i64 0 ∧ wr = w) (fun i _ => 0)
    case atStart => exact ⟨rfl, rfl⟩
    case round =>
      obtain ⟨rfl, rfl⟩ := hrel
      go_wp2_with fail
      refine (l00In_f _ _ _ _ (by omega)).mono ?_; rintro e w' ⟨rfl, rfl⟩
      go_wp2
      go_ret
      exact ⟨rfl, Below.refl _ _⟩
set_option maxHeartbeats 2000000 in
set_option maxRecDepth 100000 in
theorem areClocks_any (B : Nat) (a : Option Addr) (n cap : Nat) (F : List Int) (w : World) (hr : Recs w B (.slice a n cap) n F) (h6 : n ≤ 1048576) :
    Calls Try.prog 61 #[.slice a n cap] w fun e w' => e = .returned (.bool (allC F n)) ∧ Below w.heap.size w w' := by
  have HR := Lib.hid hr
  clear hr
  go_enter Try.func61, Try.ntmps61
  go_wp2
  go_loopw [7] (fun i wr => ∃ k : Nat, k ≤ n ∧ i = .int .i64 (k : Int) ∧ allK F k = true ∧ Below w.heap.size w wr) (fun i _ => n - (intOf i).toNat)
  case atStart => exact ⟨0, Nat.zero_le _, rfl, rfl, Below.refl _ _⟩
  case round =>
    obtain ⟨k, hk, rfl, h0, hB⟩ := hrel
    have H0 := Lib.hid h0
    have HB := Lib.hid hB
    by_cases hlt : k < n
    · obtain ⟨g, x, y, rfl, -, hgl, ⟨e0, e1⟩, x0, x1⟩ := (HR.out.keep hB (Nat.le_refl _)).at k hlt
      have HK := Lib.hid (show ckK F k = clkB x y by unfold ckK; rw [e0, e1])
      clear h0 hB e0 e1
      cases hv : clkB x y with
      | true =>
        have HS := Lib.hid (allK_step H0.out (by rw [HK.out]; exact hv))
        have HV := Lib.hid hv
        clear hv
        go_wp2_with fail
        refine (implVC_any x y _).mono ?_; rw [HV.out]; rintro e w2 ⟨rfl, hb2⟩
        have HB2 := Lib.hid (bel_call (HB.out.trans ((bel_alloc wr (.cells #[.int .i64 x, .int .i64 y] 25)).mono HB.out.size)) hb2)
        clear hb2
        go_wp2
        go_roundw
        case rel => exact ⟨k + 1, by omega, by go_num, HS.out, HB2.out⟩
        case measure => simp [intOf]; omega
      | false =>
        have HS := Lib.hid (allC_bad (allK_bad hlt (by rw [HK.out]; exact hv)))
        have HV := Lib.hid hv
        clear hv
        go_wp2_with fail
        refine (implVC_any x y _).mono ?_; rw [HV.out]; rintro e w2 ⟨rfl, hb2⟩
        have HB2 := Lib.hid (bel_call (HB.out.trans ((bel_alloc wr (.cells #[.int .i64 x, .int .i64 y] 25)).mono HB.out.size)) hb2)
        clear hb2
        go_wp2
        go_ret
        exact ⟨by rw [HS.out]; rfl, HB2.out⟩
    · have HE := Lib.hid (show allK F n = true by rw [show n = k by omega]; exact H0.out)
      clear h0 hB
      by_cases hn1 : 1 ≤ n ∧ n ≤ 6
      · go_wp2_with fail
        refine (withinI_t _ _ _ _ (by omega) (by omega)).mono ?_; rintro e w' ⟨rfl, rfl⟩
        go_wp2
        go_ret
        exact ⟨by rw [allC_ok hn1 HE.out]; rfl, HB.out⟩
      · go_wp2_with fail
        refine (withinI_f _ _ _ _ (by omega)).mono ?_; rintro e w' ⟨rfl, rfl⟩
        go_wp2
        go_ret
        exact ⟨by rw [allC_cnt hn1]; rfl, HB.out⟩

/-- the common period of the first k clocks, as far as it is no greater than the last moment -/
def comR (F : List Int) : Nat → Option Int
  | 0 => some 1
  | k + 1 => match comR F k with
    | none => none
    | some c => if c / (Int.gcd c (F.getD (k * 2) 0) : Int) * F.getD (k * 2) 0 ≤ 1000000000000 then some (c / (Int.gcd c (F.getD (k * 2) 0) : Int) * F.getD (k * 2) 0) else none
theorem comR_none (F : List Int) : ∀ (j s : Nat), j ≤ s → comR F j = none → comR F s = none
  | j, 0, hj, h => by rwa [show j = 0 by omega] at h
  | j, s + 1, hj, h => by
    by_cases e : j = s + 1
    · rwa [e] at h
    · rw [comR, comR_none F j s (by omega) h]
theorem comR_step (F : List Int) (k : Nat) (c p : Int) (h : comR F k = some c) (hp : F.getD (k * 2) 0 = p) : comR F (k + 1) = if c / (Int.gcd c p : Int) * p ≤ 1000000000000 then some (c / (Int.gcd c p : Int) * p) else none := by
  rw [comR, h, hp]
def ComA (F : List Int) (n : Nat) (r : Int) (c : Bool) : Prop := (allC F n = true ∧ comR F n = some r ∧ c = true) ∨ ((allC F n = false ∨ comR F n = none) ∧ r = 0 ∧ c = false)
theorem comA_ex (F : List Int) (n : Nat) : ∃ r c, ComA F n r c := by
  cases h : allC F n with
  | false => exact ⟨0, false, .inr ⟨.inl h, rfl, rfl⟩⟩
  | true =>
    cases h2 : comR F n with
    | none => exact ⟨0, false, .inr ⟨.inr h2, rfl, rfl⟩⟩
    | some x => exact ⟨x, true, .inl ⟨h, h2, rfl⟩⟩
theorem lcm_bd (c p : Int) (hc : 1 ≤ c) (hc2 : c ≤ 1000000000000) (hp : 1 ≤ p) (hp2 : p ≤ 100000) : 1 ≤ c / (Int.gcd c p : Int) ∧ c / (Int.gcd c p : Int) ≤ c ∧ 1 ≤ p / (Int.gcd c p : Int) ∧ p / (Int.gcd c p : Int) ≤ p ∧ c / (Int.gcd c p : Int) * p = c * (p / (Int.gcd c p : Int)) ∧ c / (Int.gcd c p : Int) * p ≤ 100000000000000000 ∧ 1 ≤ c / (Int.gcd c p : Int) * p ∧ (1 : Int) ≤ Int.gcd c p := by
  have hg : 0 < Int.gcd c p := Int.gcd_pos_of_ne_zero_left _ (by omega)
  have e1 := Int.mul_ediv_cancel' (Int.gcd_dvd_left (a := c) (b := p))
  have e2 := Int.mul_ediv_cancel' (Int.gcd_dvd_right (a := c) (b := p))
  have l1 : c / (Int.gcd c p : Int) ≤ c := Int.ediv_le_self _ (by omega)
  have l2 : p / (Int.gcd c p : Int) ≤ p := Int.ediv_le_self _ (by omega)
  have n1 : 0 ≤ c / (Int.gcd c p : Int) := Int.ediv_nonneg (by omega) (by omega)
  have n2 : 0 ≤ p / (Int.gcd c p : Int) := Int.ediv_nonneg (by omega) (by omega)
  have hg1 : (1 : Int) ≤ Int.gcd c p := by omega
  clear hg
  obtain ⟨g, hgg⟩ : ∃ g : Int, (Int.gcd c p : Int) = g := ⟨_, rfl⟩
  rw [hgg] at e1 e2 l1 l2 n1 n2 hg1 ⊢
  obtain ⟨x, hx⟩ : ∃ x, c / g = x := ⟨_, rfl⟩
  obtain ⟨y, hy⟩ : ∃ y, p / g = y := ⟨_, rfl⟩
  rw [hx] at e1 l1 n1 ⊢
  rw [hy] at e2 l2 n2 ⊢
  have x1 : 1 ≤ x := by
    by_cases h : x = 0
    · rw [h] at e1; omega
    · omega
  have y1 : 1 ≤ y := by
    by_cases h : y = 0
    · rw [h] at e2; omega
    · omega
  have e3 : x * p = c * y := by rw [← e1, ← e2, Int.mul_comm g x, Int.mul_assoc]
  have e4 : x * p ≤ 1000000000000 * 100000 := Int.mul_le_mul (by omega) hp2 (by omega) (by omega)
  have e5 : 1 * 1 ≤ x * p := Int.mul_le_mul x1 hp (by omega) (by omega)
  exact ⟨x1, l1, y1, l2, e3, by omega, by omega, by omega⟩
set_option maxHeartbeats 4000000 in
set_option maxRecDepth 100000 in
theorem specCommon0 (B : Nat) (a : Option Addr) (n cap : Nat) (F : List Int) (R : Int) (c : Bool) (w : World) (hr : Recs w B (.slice a n cap) n F) (hal : allC F n = true) (hres : (comR F n = some R ∧ c = true) ∨ (comR F n = none ∧ R = 0 ∧ c = false)) :
    Calls Try.prog 60 #[.slice a n cap] w fun e w' => e = .returned (.tuple #[.int .i64 R, .bool c]) ∧ Below w.heap.size w w' := by
  obtain ⟨hn6, hal2⟩ := allC_iff hal
  have HAL := Lib.hid hal2
  have HR := Lib.hid hr
  have HRES := Lib.hid hres
  have HB0 := Lib.hid (Below.refl w.heap.size w)
  clear hr hres hal hal2
  go_enter Try.func60, Try.ntmps60
  go_wp2
  go_loopw [4, 5] (fun cv iv wr => ∃ (k : Nat) (x : Int), k ≤ n ∧ iv = .int .i64 (k : Int) ∧ cv = .int .i64 x ∧ comR F k = some x ∧ 1 ≤ x ∧ x ≤ 1000000000000 ∧ Below w.heap.size w wr) (fun _ iv _ => n - (intOf iv).toNat)
  case atStart => exact ⟨0, 1, Nat.zero_le _, rfl, rfl, rfl, by omega, by omega, Below.refl _ _⟩
  case round =>
    obtain ⟨k, x, hk, rfl, rfl, hc0, hx1, hx2, hB⟩ := hrel
    have HC := Lib.hid hc0
    have HB := Lib.hid hB
    clear hc0
    by_cases hlt : k < n
    · obtain ⟨g, p, o, rfl, -, hgl, ⟨e0, e1⟩, x0, x1⟩ := (HR.out.keep hB (Nat.le_refl _)).at k hlt
      have hkk := allK_at HAL.out hlt
      unfold ckK at hkk
      rw [e0, e1] at hkk
      obtain ⟨⟨p1, p2⟩, o1, o2⟩ := clkB_iff.1 hkk
      obtain ⟨l1, l2, l3, l4, l5, l6, l7, l8⟩ := lcm_bd x p hx1 hx2 p1 p2
      have HST := Lib.hid (comR_step F k x p HC.out e0)
      have HG := Lib.hid (fun w => specGcd x p w (by omega) (by omega) (by omega) (by omega))
      obtain ⟨G, hG⟩ : ∃ G : Int, (Int.gcd x p : Int) = G := ⟨_, rfl⟩
      rw [hG] at l1 l2 l3 l4 l5 l6 l7 l8 HST HG
      have hne : (G == 0) = false := by simp; omega
      have hn0 : ¬ G = 0 := by omega
      have htd : x.tdiv G = x / G := Int.tdiv_eq_ediv_of_nonneg (by omega)
      obtain ⟨D, hD⟩ : ∃ D, x / G = D := ⟨_, rfl⟩
      rw [hD] at l1 l2 l5 l6 l7 HST htd
      obtain ⟨V, hV⟩ : ∃ V, D * p = V := ⟨_, rfl⟩
      rw [hV] at l5 l6 l7 HST
      have v1 : IntKind.i64.wrap (x.tdiv G) = D := by rw [htd]; exact IntWalk.i64_in _ (by omega)
      have v2 : IntKind.i64.wrap D = D := IntWalk.i64_in _ (by omega)
      have v3 : IntKind.i64.wrap (D * p) = V := by rw [hV]; exact IntWalk.i64_in _ (by omega)
      have v4 : IntKind.i64.wrap V = V := IntWalk.i64_in _ (by omega)
      have HDD := Lib.hid hD
      have HVV := Lib.hid hV
      have HGG := Lib.hid hG
      clear hD hV hG e0 e1 hkk hB l5 htd
      by_cases hgt : V ≤ 1000000000000
      · have hgd : decide (1000000000000 < V) = false := by simp; omega
        have hgn : ¬ 1000000000000 < V := by omega
        have HS2 := Lib.hid (show comR F (k + 1) = some V by rw [HST.out, if_pos hgt])
        go_wp2
        go_quiet ((go_at_call 58; exact quiet_eqc (HG.out _)))
        have HB2 := Lib.hid (below_drk HB.out nq)
        go_wp2
        go_roundw
        case rel => exact ⟨k + 1, V, by omega, by go_num, rfl, HS2.out, by omega, by omega, HB2.out⟩
        case measure => simp [intOf]; omega
      · have hgd : decide (1000000000000 < V) = true := by simp; omega
        have hgn : 1000000000000 < V := by omega
        have HS2 := Lib.hid (show comR F n = none from comR_none F (k + 1) n (by omega) (by rw [HST.out, if_neg hgt]))
        obtain ⟨rfl, rfl⟩ : R = 0 ∧ c = false := by
          rcases HRES.out with ⟨h, -⟩ | ⟨-, h1, h2⟩
          · rw [HS2.out] at h; cases h
          · exact ⟨h1, h2⟩
        go_wp2
        go_quiet ((go_at_call 58; exact quiet_eqc (HG.out _)))
        have HB2 := Lib.hid (below_drk HB.out nq)
        go_wp2
        go_ret2
        exact ⟨rfl, HB2.out⟩
    · obtain rfl : n = k := by omega
      obtain ⟨rfl, rfl⟩ : R = x ∧ c = true := by
        rcases HRES.out with ⟨h, h2⟩ | ⟨h, -, -⟩
        · rw [HC.out] at h; injection h with h; exact ⟨h.symm, h2⟩
        · rw [HC.out] at h; cases h
      clear hB
      go_wp2
      go_ret2
      exact ⟨rfl, HB.out⟩
set_option maxHeartbeats 4000000 in
set_option maxRecDepth 100000 in
theorem implCommon (B : Nat) (a : Option Addr) (n cap : Nat) (F : List Int) (R : Int) (c : Bool) (w : World) (hr : Recs w B (.slice a n cap) n F) (hres : ComA F n R c) (hl : n ≤ 1048576) :
    Calls Try.prog 38 #[.slice a n cap] w fun e w' => e = .returned (.tuple #[.int .i64 R, .bool c]) ∧ Below w.heap.size w w' := by
  cases hal : allC F n with
  | false =>
    have HA := Lib.hid (areClocks_any B a n cap F w hr hl)
    rw [hal] at HA
    obtain ⟨rfl, rfl⟩ : R = 0 ∧ c = false := by
      rcases hres with ⟨h, -, -⟩ | ⟨-, h1, h2⟩
      · rw [hal] at h; cases h
      · exact ⟨h1, h2⟩
    clear hres hal hr
    go_enter Try.func38, Try.ntmps38
    go_wp2_with fail
    refine HA.out.mono ?_; rintro e w1 ⟨rfl, hb1⟩
    go_wp2
    go_ret2
    exact ⟨rfl, hb1⟩
  | true =>
  have HA := Lib.hid (areClocks_any B a n cap F w hr hl)
  rw [hal] at HA
  obtain ⟨hn6, hal2⟩ := allC_iff hal
  have HAL := Lib.hid hal2
  have hres2 : (comR F n = some R ∧ c = true) ∨ (comR F n = none ∧ R = 0 ∧ c = false) := by
    rcases hres with ⟨-, h⟩ | ⟨h | h, h1⟩
    · exact .inl h
    · rw [hal] at h; cases h
    · exact .inr ⟨h, h1⟩
  have HRES := Lib.hid hres2
  have HR0 := Lib.hid hr
  clear hr hres hres2 hal hal2
  go_enter Try.func38, Try.ntmps38
  go_wp2_with fail
  refine HA.out.mono ?_; rintro e w1 ⟨rfl, hb1⟩
  have HR := Lib.hid (HR0.out.keep hb1 (Nat.le_refl _))
  have HB0 := Lib.hid hb1
  clear hb1 HA
  go_wp2
  go_loopw [4, 12] (fun cv iv wr => ∃ (k : Nat) (x : Int), k ≤ n ∧ iv = .int .i64 (k : Int) ∧ cv = .int .i64 x ∧ comR F k = some x ∧ 1 ≤ x ∧ x ≤ 1000000000000 ∧ Below w1.heap.size w1 wr) (fun _ iv _ => n - (intOf iv).toNat)
  case atStart => exact ⟨0, 1, Nat.zero_le _, rfl, rfl, rfl, by omega, by omega, Below.refl _ _⟩
  case round =>
    obtain ⟨k, x, hk, rfl, rfl, hc0, hx1, hx2, hB⟩ := hrel
    have HC := Lib.hid hc0
    have HB := Lib.hid hB
    clear hc0
    by_cases hlt : k < n
    · obtain ⟨g, p, o, rfl, -, hgl, ⟨e0, e1⟩, x0, x1⟩ := (HR.out.keep hB (Nat.le_refl _)).at k hlt
      have hkk := allK_at HAL.out hlt
      unfold ckK at hkk
      rw [e0, e1] at hkk
      obtain ⟨⟨p1, p2⟩, o1, o2⟩ := clkB_iff.1 hkk
      obtain ⟨l1, l2, l3, l4, l5, l6, l7, l8⟩ := lcm_bd x p hx1 hx2 p1 p2
      have HST := Lib.hid (comR_step F k x p HC.out e0)
      have HG := Lib.hid (fun w => implGcd x p w (by omega) (by omega) (by omega) (by omega))
      obtain ⟨G, hG⟩ : ∃ G : Int, (Int.gcd x p : Int) = G := ⟨_, rfl⟩
      rw [hG] at l1 l2 l3 l4 l5 l6 l7 l8 HST HG
      have hne : (G == 0) = false := by simp; omega
      have hn0 : ¬ G = 0 := by omega
      have htd : p.tdiv G = p / G := Int.tdiv_eq_ediv_of_nonneg (by omega)
      rw [l5] at l6 l7 HST
      obtain ⟨D, hD⟩ : ∃ D, p / G = D := ⟨_, rfl⟩
      rw [hD] at l3 l4 l5 l6 l7 HST htd
      obtain ⟨V, hV⟩ : ∃ V, x * D = V := ⟨_, rfl⟩
      rw [hV] at l5 l6 l7 HST
      have v1 : IntKind.i64.wrap (p.tdiv G) = D := by rw [htd]; exact IntWalk.i64_in _ (by omega)
      have v2 : IntKind.i64.wrap D = D := IntWalk.i64_in _ (by omega)
      have v3 : IntKind.i64.wrap (x * D) = V := by rw [hV]; exact IntWalk.i64_in _ (by omega)
      have v4 : IntKind.i64.wrap V = V := IntWalk.i64_in _ (by omega)
      have HDD := Lib.hid hD
      have HVV := Lib.hid hV
      have HGG := Lib.hid hG
      clear hD hV hG e0 e1 hkk hB l5 htd
      by_cases hgt : V ≤ 1000000000000
      · have hgd : decide (1000000000000 < V) = false := by simp; omega
        have hgn : ¬ 1000000000000 < V := by omega
        have HS2 := Lib.hid (show comR F (k + 1) = some V by rw [HST.out, if_pos hgt])
        go_wp2_with fail
        have hcA0 : (wr.alloc (.cells #[.int .i64 p, .int .i64 o] 25)).cell? ⟨wr.heap.size, 0, none⟩ = some (.int .i64 p) := by simp
        go_quiet ((go_at_call 62; exact Calls.quiet_of (HG.out _)))
        have HB2 := Lib.hid (below_drk (HB.out.trans ((bel_alloc wr (.cells #[.int .i64 p, .int .i64 o] 25)).mono HB.out.size)) nq)
        go_wp2
        go_roundw
        case rel => exact ⟨k + 1, V, by omega, by go_num, rfl, HS2.out, by omega, by omega, HB2.out⟩
        case measure => simp [intOf]; omega
      · have hgd : decide (1000000000000 < V) = true := by simp; omega
        have hgn : 1000000000000 < V := by omega
        have HS2 := Lib.hid (show comR F n = none from comR_none F (k + 1) n (by omega) (by rw [HST.out, if_neg hgt]))
        obtain ⟨rfl, rfl⟩ : R = 0 ∧ c = false := by
          rcases HRES.out with ⟨h, -⟩ | ⟨-, h1, h2⟩
          · rw [HS2.out] at h; cases h
          · exact ⟨h1, h2⟩
        go_wp2_with fail
        have hcA0 : (wr.alloc (.cells #[.int .i64 p, .int .i64 o] 25)).cell? ⟨wr.heap.size, 0, none⟩ = some (.int .i64 p) := by simp
        go_quiet ((go_at_call 62; exact Calls.quiet_of (HG.out _)))
        have HB2 := Lib.hid (below_drk (HB.out.trans ((bel_alloc wr (.cells #[.int .i64 p, .int .i64 o] 25)).mono HB.out.size)) nq)
        go_wp2
        go_ret2
        exact ⟨rfl, bel_call HB0.out HB2.out⟩
    · obtain rfl : n = k := by omega
      obtain ⟨rfl, rfl⟩ : R = x ∧ c = true := by
        rcases HRES.out with ⟨h, h2⟩ | ⟨h, -, -⟩
        · rw [HC.out] at h; injection h with h; exact ⟨h.symm, h2⟩
        · rw [HC.out] at h; cases h
      clear hB
      go_wp2
      go_ret2
      exact ⟨rfl, bel_call HB0.out HB.out⟩
theorem specCommon (B : Nat) (a : Option Addr) (n cap : Nat) (F : List Int) (R : Int) (c : Bool) (w : World) (hr : Recs w B (.slice a n cap) n F) (hres : ComA F n R c) (hl : n ≤ 1048576) :
    Calls Try.prog 36 #[.slice a n cap] w fun e w' => e = .returned (.tuple #[.int .i64 R, .bool c]) ∧ Below w.heap.size w w' := by
  have HA := Lib.hid (l10All_any B a n cap F w hr hl)
  cases hal : allC F n with
  | false =>
    rw [hal] at HA
    obtain ⟨rfl, rfl⟩ : R = 0 ∧ c = false := by
      rcases hres with ⟨h, -, -⟩ | ⟨-, h1, h2⟩
      · rw [hal] at h; cases h
      · exact ⟨h1, h2⟩
    clear hres hal hr
    go_enter Try.func36, Try.ntmps36
    go_wp2_with fail
    refine HA.out.mono ?_; rintro e w1 ⟨rfl, hb1⟩
    go_wp2
    go_ret2
    exact ⟨rfl, hb1⟩
  | true =>
    rw [hal] at HA
    have hres2 : (comR F n = some R ∧ c = true) ∨ (comR F n = none ∧ R = 0 ∧ c = false) := by
      rcases hres with ⟨-, h⟩ | ⟨h | h, h1⟩
      · exact .inl h
      · rw [hal] at h; cases h
      · exact .inr ⟨h, h1⟩
    have HC := Lib.hid (fun w1 (b : Below w.heap.size w w1) => specCommon0 B a n cap F R c w1 (hr.keep b (Nat.le_refl _)) hal hres2)
    clear hres hres2 hal hr
    go_enter Try.func36, Try.ntmps36
    go_wp2_with fail
    refine HA.out.mono ?_; rintro e w1 ⟨rfl, hb1⟩
    go_wp2_with fail
    refine (HC.out _ hb1).mono ?_; rintro e w2 ⟨rfl, hb2⟩
    have HB2 := Lib.hid (bel_call hb1 hb2)
    go_wp2
    go_ret2
    exact ⟨rfl, HB2.out⟩
end Go.Proofs.Ytafecdmcbpnniaa
