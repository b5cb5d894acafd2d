/- The sum of two valid fractions: the same on both sides, and valid where there is one. -/
import Derived.Test.YtomdoamfdidghaaAddImpl
import Derived.Test.YtomdoamfdidghaaAddSpecP
import Derived.Test.YtomdoamfdidghaaAddSpecL
import Derived.Test.YtomdoamfdidghaaAddSpecG
import Derived.Test.YtomdoamfdidghaaAddMath2
import Derived.Test.YtomdoamfdidghaaMul
namespace Go.Proofs.Ytomdoamfdidghaa
open Go.RowKit
set_option linter.unusedVariables false
theorem over_any (n : Bool) (A by' : Nat) (w : World) (hb : 0 < by') (hb2 : by' ≤ 9223372036854775807) :
    Calls Try.prog 39 #[.agg #[.bool n, .int .u64 (hiW A), .int .u64 (loW A)], .int .i64 (by' : Int)] w fun e w' => e = .returned (.tuple #[.int .i64 (if A / by' ≤ 1000000000000000000 then sgI n (A / by') else 0), .bool (ovB (A / by'))]) ∧ Below w.heap.size w w' := by
  by_cases h : A / by' ≤ 1000000000000000000
  · rw [if_pos h, show ovB (A / by') = true from decide_eq_true h]
    exact over_t n A by' w hb hb2 h
  · rw [if_neg h, show ovB (A / by') = false from decide_eq_false h]
    exact over_f n A by' w hb hb2 (by omega)

/-- the sum in words: its size before signs, its denominator, its sign, whether there is one -/
def addQ (n d p q : Int) : Nat := adT (decide (n < 0)) (decide (p < 0)) n.natAbs d.natAbs p.natAbs q.natAbs / adS (decide (n < 0)) (decide (p < 0)) n.natAbs d.natAbs p.natAbs q.natAbs
def addM (n d p q : Int) : Nat := d.natAbs / adC d.natAbs q.natAbs * (q.natAbs / adS (decide (n < 0)) (decide (p < 0)) n.natAbs d.natAbs p.natAbs q.natAbs)
def addG (n d p q : Int) : Bool := addN (decide (n < 0)) (decide (p < 0)) (n.natAbs * (q.natAbs / adC d.natAbs q.natAbs)) (p.natAbs * (d.natAbs / adC d.natAbs q.natAbs))
def addC (n d p q : Int) : Bool := ovB (addQ n d p q) && ovB (addM n d p q)
def addX (n d p q : Int) : Int := if addC n d p q then sgI (addG n d p q) (addQ n d p q) else 0
def addY (n d p q : Int) : Int := if addC n d p q then ((addM n d p q : Nat) : Int) else 0
theorem add_val (n d p q : Int) (hf : fracB n d = true) (hg : fracB p q = true) : (addC n d p q = true → fracB (addX n d p q) (addY n d p q) = true) ∧
    (∀ w, Calls Try.prog 34 #[.agg #[.int .i64 n, .int .i64 d], .agg #[.int .i64 p, .int .i64 q]] w fun e w' => e = .returned (.tuple #[.agg #[.int .i64 (addX n d p q), .int .i64 (addY n d p q)], .bool (addC n d p q)]) ∧ Below w.heap.size w w') ∧ (∀ w, Calls Try.prog 14 #[.agg #[.int .i64 n, .int .i64 d], .agg #[.int .i64 p, .int .i64 q]] w fun e w' => e = .returned (.tuple #[.agg #[.int .i64 (addX n d p q), .int .i64 (addY n d p q)], .bool (addC n d p q)]) ∧ Below w.heap.size w w') := by
  have hf0 := hf
  have hg0 := hg
  unfold fracB at hf hg
  rw [decide_eq_true_eq] at hf hg
  obtain ⟨f1, f2, f3, f4, f5⟩ := hf
  obtain ⟨g1, g2, g3, g4, g5⟩ := hg
  obtain ⟨b, rfl⟩ := Int.eq_ofNat_of_zero_le (show 0 ≤ d by omega)
  obtain ⟨f, rfl⟩ := Int.eq_ofNat_of_zero_le (show 0 ≤ q by omega)
  have cop1 : Nat.gcd n.natAbs b = 1 := f5
  have cop2 : Nat.gcd p.natAbs f = 1 := g5
  have hb0 : 0 < b := by omega
  have hf1 : 0 < f := by omega
  obtain ⟨s, hs⟩ : ∃ s, decide (n < 0) = s := ⟨_, rfl⟩
  obtain ⟨t, ht⟩ : ∃ t, decide (p < 0) = t := ⟨_, rfl⟩
  unfold addX addY addC addG addM addQ
  simp only [Int.natAbs_natCast]
  rw [hs, ht]
  have hC := adC_pos b f hb0
  have hCb : adC b f ≤ b := Nat.le_of_dvd hb0 (Nat.gcd_dvd_left b f)
  have hCf : adC b f ≤ f := Nat.le_of_dvd hf1 (Nat.gcd_dvd_right b f)
  have hS := adS_pos s t n.natAbs b p.natAbs f hb0
  have hSC : adS s t n.natAbs b p.natAbs f ≤ adC b f := Nat.le_of_dvd hC (adS_dvd s t n.natAbs b p.natAbs f)
  have eB : adA p.natAbs f b = p.natAbs * (b / adC b f) := by unfold adA; rw [adC_comm f b]
  have eA : adA n.natAbs b f = n.natAbs * (f / adC b f) := rfl
  have hT := adT_lt s t n.natAbs b p.natAbs f (by omega) (by omega) (by omega) (by omega)
  have eT : adT s t n.natAbs b p.natAbs f = plT s t (n.natAbs * (f / adC b f)) (p.natAbs * (b / adC b f)) := by unfold adT; rw [eB, eA]
  have eS : adS s t n.natAbs b p.natAbs f = Nat.gcd (adT s t n.natAbs b p.natAbs f % adC b f) (adC b f) := rfl
  have hden := ad_den s t n.natAbs b p.natAbs f
  have hzero := ad_zero s t n.natAbs b p.natAbs f cop1 cop2 hb0 hf1
  obtain ⟨hval, hpos⟩ := add_cop s t n.natAbs b p.natAbs f cop1 cop2 hb0 hf1
  have eC : adC b f = Nat.gcd b f := rfl
  have hA1 := adA_le n.natAbs b f (by omega) (by omega)
  have hB1 := adA_le p.natAbs f b (by omega) (by omega)
  rw [eA] at hA1
  rw [eB] at hB1
  have hG1 : 1 ≤ f / adC b f := Nat.div_pos hCf hC
  have hF1 : 1 ≤ b / adC b f := Nat.div_pos hCb hC
  have hG2 : f / adC b f ≤ f := Nat.div_le_self _ _
  have hF2 : b / adC b f ≤ b := Nat.div_le_self _ _
  have hK2 : f / adS s t n.natAbs b p.natAbs f ≤ f := Nat.div_le_self _ _
  have hGi : ((f : Nat) : Int).tdiv ((adC b f : Nat) : Int) = ((f / adC b f : Nat) : Int) := by rw [Int.tdiv_eq_ediv_of_nonneg (by omega)]; simp
  have hFi : ((b : Nat) : Int).tdiv ((adC b f : Nat) : Int) = ((b / adC b f : Nat) : Int) := by rw [Int.tdiv_eq_ediv_of_nonneg (by omega)]; simp
  have hKi : ((f : Nat) : Int).tdiv ((adS s t n.natAbs b p.natAbs f : Nat) : Int) = ((f / adS s t n.natAbs b p.natAbs f : Nat) : Int) := by rw [Int.tdiv_eq_ediv_of_nonneg (by omega)]; simp
  generalize adT s t n.natAbs b p.natAbs f = T at *
  generalize adS s t n.natAbs b p.natAbs f = S at *
  generalize adC b f = C at *
  have hn18 : n.natAbs ≤ 1000000000000000000 := by omega
  have hp18 : p.natAbs ≤ 1000000000000000000 := by omega
  generalize hG : f / C = G at *
  generalize hF : b / C = F at *
  generalize hK : f / S = K at *
  generalize hQ : T / S = Q at *
  generalize ha : n.natAbs = a at *
  generalize he : p.natAbs = e at *
  have hMM : F * f / S = F * K := hden
  rw [hMM] at hzero
  clear hden
  generalize hsg : addN s t (a * G) (e * F) = sg at *
  refine ⟨?_, ?_, ?_⟩
  · intro hc
    rw [hc, if_pos rfl, if_pos rfl]
    unfold ovB at hc
    rw [Bool.and_eq_true, decide_eq_true_eq, decide_eq_true_eq] at hc
    unfold fracB sgI
    rw [decide_eq_true_eq]
    obtain ⟨hc1, hc2⟩ := hc
    generalize F * K = M at *
    cases sg <;> simp [Int.gcd, hval] <;> omega
  · -- the model
    have hres : ∀ (sm : Bool), sm = sg → ((ovB Q = true ∧ ovB (F * K) = true ∧ (ovB Q && ovB (F * K)) = true ∧ (if ovB Q && ovB (F * K) then sgI sg Q else 0) = (if sm then -(ovI false Q) else ovI false Q) ∧ (if ovB Q && ovB (F * K) then ((F * K : Nat) : Int) else 0) = (if ovI false Q = 0 then 1 else ovI false (F * K))) ∨ ((ovB Q = false ∨ ovB (F * K) = false) ∧ (ovB Q && ovB (F * K)) = false ∧ (if ovB Q && ovB (F * K) then sgI sg Q else 0) = 0 ∧ (if ovB Q && ovB (F * K) then ((F * K : Nat) : Int) else 0) = 0)) := by
      rintro sm rfl
      cases h1 : ovB Q with
      | false => right; simp
      | true =>
        cases h2 : ovB (F * K) with
        | false => right; simp
        | true =>
          left
          have k1 := of_decide_eq_true h1
          have k2 := of_decide_eq_true h2
          refine ⟨rfl, rfl, rfl, ?_, ?_⟩
          · unfold ovI sgI; rw [if_pos k1]; cases sm <;> simp
          · unfold ovI sgI
            rw [if_pos k1, if_pos k2]
            by_cases h0 : Q = 0
            · rw [hzero h0, h0]; simp
            · simp [h0]
    have n1b : 0 ≤ ovI false Q ∧ ovI false Q ≤ 1000000000000000000 := by unfold ovI sgI; split <;> simp <;> omega
    have GC1 := Lib.hid (fun w => specGcd (b : Int) (f : Int) w (by omega) (by omega) (by omega) (by omega))
    rw [show ((Int.gcd (b : Int) (f : Int) : Nat) : Int) = (C : Int) from by rw [eC]; rfl] at GC1
    have MX := Lib.hid (fun w => l00Max_size n (-n) w rfl)
    have MY := Lib.hid (fun w => l00Max_size p (-p) w rfl)
    rw [ha] at MX
    rw [he] at MY
    have TX := Lib.hid (fun w => specTimes a G w (by omega) (by omega))
    have TY := Lib.hid (fun w => specTimes e F w (by omega) (by omega))
    have SP1 := Lib.hid (fun w => specSplit T C w hT hC (by omega))
    have GC2 := Lib.hid (fun w => specGcd (C : Int) ((T % C : Nat) : Int) w (by omega) (by omega) (by omega) (by have := Nat.mod_lt T hC; omega))
    rw [show ((Int.gcd (C : Int) ((T % C : Nat) : Int) : Nat) : Int) = (S : Int) from by rw [eS, Nat.gcd_comm]; rfl] at GC2
    have SP2 := Lib.hid (fun w => (specSplit T S w hT hS (by omega)).mono fun e w' h => (⟨⟨_, h.1⟩, h.2⟩ : (∃ r, e = .returned (.tuple #[.agg #[.int .u64 (hiW (T / S) : Int), .int .u64 (loW (T / S) : Int)], .int .i64 r])) ∧ Below w.heap.size w w'))
    rw [hQ] at SP2
    have SM1 := Lib.hid (fun w => small_any Q w)
    have TM := Lib.hid (fun w => specTimes F K w (by omega) (by omega))
    have SM2 := Lib.hid (fun w => small_any (F * K) w)
    rw [← ha] at TX MX
    rw [← he] at TY MY
    intro w
    by_cases hst : s = t
    · have T1 := Lib.hid (fun w => specPlus (n.natAbs * G) (p.natAbs * F) w (by rw [ha, he]; omega))
      have eT2 : n.natAbs * G + p.natAbs * F = T := by rw [ha, he, eT]; unfold plT; rw [if_pos hst]
      rw [eT2] at T1
      exact specAdd_plus n b p f C G F S _ K _ _ _ _ _ _ _ _ _ _ _ _ _ _ _ _ s t _ _ _ w (by omega) (by omega) hGi hFi hKi (by omega) (by omega) (by omega) ⟨f3, f4⟩ ⟨g3, g4⟩ n1b hs ht (by rw [hst]; simp) (hres s (by rw [← hsg]; unfold addN; rw [if_pos hst])) GC1 MX MY TX TY T1 SP1 GC2 SP2 SM1 TM SM2
    · by_cases hlt : a * G < e * F
      · have LS := Lib.hid (fun w => less_any (n.natAbs * G) (p.natAbs * F) true w (by rw [ha, he]; exact decide_eq_true hlt))
        have T1 := Lib.hid (fun w => specMinus (p.natAbs * F) (n.natAbs * G) w (by rw [ha, he]; omega) (by rw [he]; omega))
        have eT2 : p.natAbs * F - n.natAbs * G = T := by rw [ha, he, eT]; unfold plT; rw [if_neg hst, if_pos hlt]
        rw [eT2] at T1
        exact specAdd_lt n b p f C G F S _ K _ _ _ _ _ _ _ _ _ _ _ _ _ _ _ _ s t _ _ _ w (by omega) (by omega) hGi hFi hKi (by omega) (by omega) (by omega) ⟨f3, f4⟩ ⟨g3, g4⟩ n1b hs ht (by cases s <;> cases t <;> simp_all) (hres t (by rw [← hsg]; unfold addN; rw [if_neg hst, if_pos hlt])) GC1 MX MY TX TY LS T1 SP1 GC2 SP2 SM1 TM SM2
      · have LS := Lib.hid (fun w => less_any (n.natAbs * G) (p.natAbs * F) false w (by rw [ha, he]; exact decide_eq_false hlt))
        have T1 := Lib.hid (fun w => specMinus (n.natAbs * G) (p.natAbs * F) w (by rw [ha, he]; omega) (by rw [ha]; omega))
        have eT2 : n.natAbs * G - p.natAbs * F = T := by rw [ha, he, eT]; unfold plT; rw [if_neg hst, if_neg hlt]
        rw [eT2] at T1
        exact specAdd_ge n b p f C G F S _ K _ _ _ _ _ _ _ _ _ _ _ _ _ _ _ _ s t _ _ _ w (by omega) (by omega) hGi hFi hKi (by omega) (by omega) (by omega) ⟨f3, f4⟩ ⟨g3, g4⟩ n1b hs ht (by cases s <;> cases t <;> simp_all) (hres s (by rw [← hsg]; unfold addN; rw [if_neg hst, if_neg hlt])) GC1 MX MY TX TY LS T1 SP1 GC2 SP2 SM1 TM SM2
  · -- the program
    have GC1 := Lib.hid (fun w => implGcd (b : Int) (f : Int) w (by omega) (by omega) (by omega) (by omega))
    rw [show ((Int.gcd (b : Int) (f : Int) : Nat) : Int) = (C : Int) from by rw [eC]; rfl] at GC1
    have P1 := Lib.hid (fun w => product_pos n (G : Int) w (by omega) (by omega) (by omega) (by omega))
    have P2 := Lib.hid (fun w => product_pos p (F : Int) w (by omega) (by omega) (by omega) (by omega))
    rw [ha, Int.natAbs_natCast] at P1
    rw [he, Int.natAbs_natCast] at P2
    have PL := Lib.hid (fun w => plus_any (ngB n) (ngB p) (a * G) (e * F) w (by omega) (by omega))
    have eN : ngB n = s := hs
    have eP : ngB p = t := ht
    rw [show addV (ngB n) (ngB p) (a * G) (e * F) = T from by rw [eT, eN, eP]; rfl, show addN (ngB n) (ngB p) (a * G) (e * F) = sg from by rw [eN, eP]; exact hsg] at PL
    have RS := Lib.hid (fun w => rest_any sg T C w hT hC (by omega))
    have GC2 := Lib.hid (fun w => implGcd ((T % C : Nat) : Int) (C : Int) w (by omega) (by omega) (by have := Nat.mod_lt T hC; omega) (by omega))
    rw [show ((Int.gcd ((T % C : Nat) : Int) (C : Int) : Nat) : Int) = (S : Int) from by rw [eS]; rfl] at GC2
    have O1 := Lib.hid (fun w => over_any sg T S w hS (by omega))
    rw [hQ] at O1
    have P3 := Lib.hid (fun w => product_pos (F : Int) (f : Int) w (by omega) (by omega) (by omega) (by omega))
    rw [Int.natAbs_natCast, Int.natAbs_natCast, show ngB (F : Int) = false from decide_eq_false (by omega)] at P3
    have O2 := Lib.hid (fun w => over_any false (F * f) S w hS (by omega))
    rw [hMM] at O2
    intro w
    refine implAddX n b p f C G F S _ _ _ _ _ _ _ _ _ _ _ _ _ sg _ _ _ w hf0 hg0 (by omega) hGi hFi (by omega) (by omega) ?_ GC1 P1 P2 PL RS GC2 O1 P3 O2
    cases h1 : ovB Q with
    | false => right; simp
    | true =>
      cases h2 : ovB (F * K) with
      | false => right; simp
      | true =>
        left
        have k1 := of_decide_eq_true h1
        have k2 := of_decide_eq_true h2
        refine ⟨rfl, rfl, rfl, ?_, ?_⟩
        · rw [if_pos k1]; rfl
        · rw [if_pos k2]; rfl
theorem add_any (n d p q : Int) (hf : fracB n d = true) (hg : fracB p q = true) : ∃ (N D : Int) (c : Bool), (c = true → fracB N D = true) ∧
    (∀ w, Calls Try.prog 34 #[.agg #[.int .i64 n, .int .i64 d], .agg #[.int .i64 p, .int .i64 q]] w fun e w' => e = .returned (.tuple #[.agg #[.int .i64 N, .int .i64 D], .bool c]) ∧ Below w.heap.size w w') ∧ (∀ w, Calls Try.prog 14 #[.agg #[.int .i64 n, .int .i64 d], .agg #[.int .i64 p, .int .i64 q]] w fun e w' => e = .returned (.tuple #[.agg #[.int .i64 N, .int .i64 D], .bool c]) ∧ Below w.heap.size w w') := ⟨_, _, _, add_val n d p q hf hg⟩
end Go.Proofs.Ytomdoamfdidghaa
