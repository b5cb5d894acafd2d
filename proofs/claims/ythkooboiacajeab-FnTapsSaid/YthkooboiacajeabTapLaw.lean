/- The walk of a law: a tap counter shifts its bits and brings in their parity, so that the sum of two states leads to the sum of both next ones. -/
import Derived.Test.YthkooboiacajeabTap
import Derived.Test.YthkooboiacajeabVCtrB
import Derived.Test.YthkooboiacajeabByteArg
import Derived.BigQuiet
import Derived.Deep.QuietTactic
namespace Go.Proofs.Ythkooboiacajeab
open Go.RowKit
set_option linter.unusedVariables false

/-- the parity of the bits that are tapped, below a place -/
def parF (x t : Nat) : Nat → Nat | 0 => 0 | k + 1 => parF x t k ^^^ (x / 2 ^ k &&& 1 &&& (t / 2 ^ k &&& 1))
def tpF (b t s : Nat) : Nat := mvN b s (onesN (s &&& t) % 2)
theorem par_all : ((List.range 64).all fun x => (List.range 64).all fun t => decide (parF x t 6 = onesN (x &&& t) % 2)) = true := by decide +kernel
theorem ones_xor_all : ((List.range 64).all fun x => (List.range 64).all fun y => decide (onesN (x ^^^ y) % 2 = (onesN x % 2 ^^^ onesN y % 2))) = true := by decide +kernel
theorem par_cut (x t b : Nat) (hx : x < 2 ^ b) : ∀ k, parF x t (b + k) = parF x t b := by
  intro k
  induction k with
  | zero => rfl
  | succ k ih =>
    rw [← Nat.add_assoc, parF, ih]
    have h : x / 2 ^ (b + k) = 0 := Nat.div_eq_of_lt (Nat.lt_of_lt_of_le hx (Nat.pow_le_pow_right (by omega) (by omega)))
    rw [h]; simp
theorem par_eq (b x t : Nat) (hb : b ≤ 6) (hx : x < 2 ^ b) (ht : t < 2 ^ b) : parF x t b = onesN (x &&& t) % 2 := by
  have h64 : 2 ^ b ≤ 64 := Nat.pow_le_pow_right (n := 2) (by omega) hb
  have h := List.all_eq_true.1 (List.all_eq_true.1 par_all x (by simp; omega)) t (by simp; omega)
  rw [decide_eq_true_eq] at h
  rw [← h, show 6 = b + (6 - b) from by omega, par_cut x t b hx]
theorem mv_or (s i : Nat) (hi : i < 2) : s * 2 ||| i = (s * 2) ^^^ i := by
  have h : i = 0 ∨ i = 1 := by omega
  rcases h with rfl | rfl
  · simp
  · apply Nat.eq_of_testBit_eq
    intro j
    rw [Nat.testBit_or, Nat.testBit_xor]
    cases j with
    | zero => simp [Nat.testBit_zero]
    | succ j => simp [Nat.testBit_succ]
theorem two_xor (x y : Nat) : (x ^^^ y) * 2 = (x * 2) ^^^ (y * 2) := by
  have := Nat.shiftLeft_xor_distrib (i := 1) (a := x) (b := y)
  simpa [Nat.shiftLeft_eq] using this
theorem tp_xor (b t x y : Nat) (hx : x < 64) (hy : y < 64) : tpF b t (x ^^^ y) = tpF b t x ^^^ tpF b t y := by
  unfold tpF mvN
  have h1 : (x ^^^ y) &&& t = (x &&& t) ^^^ (y &&& t) := Nat.and_xor_distrib_right
  have hu : x &&& t < 64 := Nat.lt_of_le_of_lt Nat.and_le_left hx
  have hv : y &&& t < 64 := Nat.lt_of_le_of_lt Nat.and_le_left hy
  have h2 := List.all_eq_true.1 (List.all_eq_true.1 ones_xor_all (x &&& t) (by simp; omega)) (y &&& t) (by simp; omega)
  rw [decide_eq_true_eq] at h2
  rw [h1, h2]
  have p2 : onesN (x &&& t) % 2 < 2 := Nat.mod_lt _ (by omega)
  have q2 : onesN (y &&& t) % 2 < 2 := Nat.mod_lt _ (by omega)
  generalize onesN (x &&& t) % 2 = p at *
  generalize onesN (y &&& t) % 2 = q at *
  have pq : p ^^^ q < 2 := Nat.xor_lt_two_pow (n := 1) p2 q2
  rw [mv_or _ _ pq, mv_or _ _ p2, mv_or _ _ q2, two_xor, ← Nat.xor_mod_two_pow]
  congr 1
  rw [Nat.xor_assoc, Nat.xor_assoc, ← Nat.xor_assoc (y * 2) p q, ← Nat.xor_assoc p (y * 2) q, Nat.xor_comm (y * 2) p]
theorem tp_zero (b t : Nat) : tpF b t 0 = 0 := by
  unfold tpF mvN
  have h : onesN (0 &&& t) % 2 = 0 := by rw [Nat.zero_and]; rfl
  rw [h]; simp
theorem tp_lt (b t s : Nat) : tpF b t s < 2 ^ b := Nat.mod_lt _ (Nat.pow_pos (by omega))
theorem tp_low (b t s : Nat) (hb : 1 ≤ b) : tpF b t s % 2 = onesN (s &&& t) % 2 := by
  unfold tpF mvN
  have p2 : onesN (s &&& t) % 2 < 2 := Nat.mod_lt _ (by omega)
  generalize onesN (s &&& t) % 2 = p at *
  have e : s * 2 ||| p = s * 2 + p := by
    have := Nat.two_pow_add_eq_or_of_lt (i := 1) (b := p) (by omega) s
    rw [Nat.pow_one, Nat.mul_comm] at this
    rw [this]
  rw [e]
  obtain ⟨k, rfl⟩ : ∃ k, b = k + 1 := ⟨b - 1, by omega⟩
  rw [Nat.pow_succ, Nat.mul_comm (2 ^ k) 2, Nat.mod_mul_right_mod]
  omega
theorem tp_high (b t s : Nat) (hb : 1 ≤ b) : tpF b t s / 2 = s % 2 ^ (b - 1) := by
  unfold tpF mvN
  have p2 : onesN (s &&& t) % 2 < 2 := Nat.mod_lt _ (by omega)
  generalize onesN (s &&& t) % 2 = p at *
  have e : s * 2 ||| p = s * 2 + p := by
    have := Nat.two_pow_add_eq_or_of_lt (i := 1) (b := p) (by omega) s
    rw [Nat.pow_one, Nat.mul_comm] at this
    rw [this]
  rw [e]
  obtain ⟨k, rfl⟩ : ∃ k, b = k + 1 := ⟨b - 1, by omega⟩
  rw [Nat.add_sub_cancel, Nat.pow_succ, Nat.mul_comm (2 ^ k) 2, Nat.mod_mul_right_div_self]
  congr 1; omega

theorem row_keep {w w' : World} {a : Option Addr} {l : List Int} (hr : RowOf w a l) {N : Nat} (hb : Below N w w') (hlt : ∀ g, a = some ⟨g, 0, none⟩ → g < N) : RowOf w' a l := fun k hk => by
  obtain ⟨g, h1, h2⟩ := hr k hk
  exact ⟨g, h1, (hb.cell (p := ⟨g, k, none⟩) (hlt g h1)).trans h2⟩
theorem and_low (q : Nat) (hq : q < 256) : bits .and .i64 (q : Int) 1 = ((q % 2 : Nat) : Int) := by
  rw [show (1 : Int) = ((1 : Nat) : Int) from rfl, and_i64 q 1 (by omega) (by omega), Nat.and_one_is_mod]
theorem tap_ctr (b t T : Nat) (hb1 : 1 ≤ b) (hb6 : b ≤ 6) (hT : 2 ^ b = T) : ctrB (b : Int) (tabL T (fun s => (tpF b t s : Int))) = true := by
  unfold ctrB
  rw [Bool.and_eq_true, Bool.and_eq_true, decide_eq_true_eq, decide_eq_true_eq, tabL_len]
  have hst : st (b : Int) = (T : Int) := by show ((2 ^ b : Nat) : Int) = _; rw [hT]
  refine ⟨⟨⟨by omega, by omega⟩, hst.symm⟩, ?_⟩
  rw [List.all_eq_true]
  intro z hz
  obtain ⟨s, hs, rfl⟩ := List.mem_map.1 hz
  unfold stB
  rw [decide_eq_true_eq, hst]
  have := tp_lt b t s
  omega

set_option maxHeartbeats 2000000 in
set_option maxRecDepth 100000 in
theorem walk_FnTaps (a : Option Addr) (n cap : Nat) (l : List Int) (a2 : Option Addr) (n2 cap2 : Nat) (l2 : List Int) (w : World) (hn : n = l.length) (hr : ByteRow w a l) (hm : n ≤ maxLen) (hn2 : n2 = l2.length) (hr2 : ByteRow w a2 l2) (hm2 : n2 ≤ maxLen) :
    Calls Try.prog 4 #[.slice a n cap, .slice a2 n2 cap2] w fun e w' => e = .returned (.bool true) ∧ Below w.heap.size w w' := by
  by_cases hlong : n ≤ 48 ∧ n2 ≤ 48
  · obtain ⟨k1, k2⟩ := hlong
    have HLO := Lib.hid (fun w => r8Long_any a a2 n cap n2 cap2 w)
    rw [decide_eq_false (show ¬ 48 < n by omega), decide_eq_false (show ¬ 48 < n2 by omega)] at HLO
    have hv0 := r8V_bd l 0 6 (by omega)
    have HV0 := Lib.hid (r8At_any a n cap l 0 6 w hn k1 hr (by omega) (by omega) (by omega))
    obtain ⟨v, hv⟩ := Int.eq_ofNat_of_zero_le hv0.1
    rw [hv] at HV0 hv0
    obtain ⟨b, hb⟩ : ∃ b, 1 + v = b := ⟨_, rfl⟩
    have hb1 : 1 ≤ b := by omega
    have hb6 : b ≤ 6 := by omega
    have hbv : (1 : Int) + (v : Int) = (b : Int) := by omega
    obtain ⟨T, hT⟩ : ∃ T, 2 ^ b = T := ⟨_, rfl⟩
    have hT64 : T ≤ 64 := by rw [← hT]; exact Nat.pow_le_pow_right (n := 2) (by omega) hb6
    have hT2 : 2 ≤ T := by rw [← hT]; exact Nat.pow_le_pow_right (n := 2) (by omega) hb1
    have hTi : (2 : Int) ^ b = (T : Int) := by rw [← hT]; simp
    have hTw : IntKind.i64.wrap ((2 : Int) ^ b) = (T : Int) := by rw [hTi]; exact IntWalk.i64_in _ (by omega)
    have ht0 := r8V_bd l2 0 ((T : Int) - 1) (by omega)
    have HT0 := Lib.hid (fun w' (hr : ByteRow w' a2 l2) => r8At_any a2 n2 cap2 l2 0 ((T : Int) - 1) w' hn2 k2 hr (by omega) (by omega) (by omega))
    have hx0 := r8V_bd l2 1 T (by omega)
    have hy0 := r8V_bd l2 2 T (by omega)
    have HX0 := Lib.hid (fun w' (hr : ByteRow w' a2 l2) => r8At_any a2 n2 cap2 l2 1 T w' hn2 k2 hr (by omega) (by omega) (by omega))
    have HY0 := Lib.hid (fun w' (hr : ByteRow w' a2 l2) => r8At_any a2 n2 cap2 l2 2 T w' hn2 k2 hr (by omega) (by omega) (by omega))
    obtain ⟨t0, ht⟩ := Int.eq_ofNat_of_zero_le ht0.1
    obtain ⟨x, hx⟩ := Int.eq_ofNat_of_zero_le hx0.1
    obtain ⟨y, hy⟩ := Int.eq_ofNat_of_zero_le hy0.1
    rw [ht] at HT0 ht0
    rw [hx] at HX0 hx0
    rw [hy] at HY0 hy0
    obtain ⟨t, htt⟩ : ∃ t, 1 + t0 = t := ⟨_, rfl⟩
    have hti : (1 : Int) + (t0 : Int) = (t : Int) := by omega
    have htT : t < T := by omega
    have ht1 : 1 ≤ t := by omega
    have hxT : x < T := by omega
    have hyT : y < T := by omega
    have hst : st (b : Int) = (T : Int) := by show ((2 ^ b : Nat) : Int) = _; rw [hT]
    have HR2 := Lib.hid hr2
    have HTP := Lib.hid (fun w => implTap_t b t w ⟨by omega, by omega, by omega, by rw [hst]; omega⟩ (by omega))
    have HTF := Lib.hid (fun w => implTap_f (b : Int) 0 w (by intro h; exact h.2 rfl))
    have HVC := Lib.hid (fun (w : World) (av : Option Addr) (cv : Nat) (hr : RowOf w av (tabL T (fun s => (tpF b t s : Int)))) (hlt : ∀ g, av = some ⟨g, 0, none⟩ → g < w.heap.size) => implValidCtr (b : Int) av T cv (tabL T (fun s => (tpF b t s : Int))) w (by rw [tabL_len]) (by omega) hr hlt)
    rw [tap_ctr b t T hb1 hb6 hT] at HVC
    rw [hT] at HTP
    have hpe := par_eq b x t hb6 (by rw [hT]; exact hxT) (by rw [hT]; exact htT)
    have HPE := Lib.hid hpe
    have HTT := Lib.hid hT
    have hle : ∀ s, tpF b t s < T := fun s => by rw [← hT]; exact tp_lt b t s
    have HLE := Lib.hid hle
    clear hpe hv hb ht hx hy htt hst hr hr2 hn hn2 hv0 ht0 hx0 hy0 hT hle
    go_enter Try.func4, Try.ntmps4
    go_wp2_with fail
    refine (HLO.out _).mono ?_; rintro e w' ⟨rfl, rfl⟩
    go_wp2_with fail
    refine HV0.out.mono ?_; rintro e w' ⟨rfl, rfl⟩
    go_wp2_with fail
    refine (HT0.out _ HR2.out).mono ?_; rintro e w' ⟨rfl, rfl⟩
    go_wp2_with fail
    refine (HTP.out _).mono ?_; rintro e w1 ⟨v1, rfl, i1, b1⟩
    obtain ⟨av, cv, rfl, -, -⟩ := i1.form
    rw [tabL_len] at i1 ⊢
    have hs1 := b1.size
    have hal : Below w1.heap.size w1 (w1.alloc (.cells #[.int .i64 (b : Int), .slice av T cv] 31)) := (Below.refl _ _).alloc (Nat.le_refl _) _
    have HI1 := Lib.hid (show Ints _ _ _ (tabL T (fun s => ((tpF b t s : Nat) : Int))) from i1.keep hal (Nat.le_refl _))
    have HAV := Lib.hid (fun g e => (World.ownsRow.lt i1 g (by rw [e]; rfl)).2 : ∀ g, av = some ⟨g, 0, none⟩ → g < w1.heap.size)
    have HP := Lib.hid (At2.new w1 (.int .i64 (b : Int)) (.slice av T cv) 31)
    have HB1 := Lib.hid ((b1.trans (hal.mono hs1)) : Below w.heap.size w _)
    clear i1 b1 hal
    have HROW := Lib.hid HI1.out.rowOf.1
    go_wp2_with fail
    refine (HVC.out _ av cv HROW.out (fun g e => Nat.lt_of_lt_of_le (HAV.out g e) (by simp))).mono ?_; rintro e w2 ⟨rfl, b2⟩
    have HP2 := Lib.hid (HP.out.below b2 (by simp))
    have HROW2 := Lib.hid (row_keep HROW.out b2 (fun g e => by have := HAV.out g e; simp; omega))
    have HB2 := Lib.hid (HB1.out.trans (b2.mono HB1.out.size))
    have hsz2 : w1.heap.size < w2.heap.size := HP2.out.lt
    clear b2
    obtain ⟨g, hg, hz0⟩ := HROW2.out 0 (by rw [tabL_len]; omega)
    rw [tabL_get] at hz0
    simp only [tp_zero] at hz0
    subst hg
    have hgl := HAV.out g rfl
    obtain ⟨c0, c1, -, -⟩ := HP2.out
    go_wp2_with fail
    refine (HX0.out _ (HR2.out.keep HB2.out (Nat.le_refl _))).mono ?_; rintro e w' ⟨rfl, rfl⟩
    go_wp2_with fail
    refine (HY0.out _ (HR2.out.keep HB2.out (Nat.le_refl _))).mono ?_; rintro e w' ⟨rfl, rfl⟩
    go_wp2
    go_loopw [12, 13] (fun ps is wr => ∃ (i : Nat), is = .int .i64 (i : Int) ∧ ps = .int .i64 ((parF x t i : Nat) : Int) ∧ i ≤ b ∧ wr = w2) (fun _ is _ => b - (intOf is).toNat)
    case atStart => exact ⟨0, rfl, rfl, Nat.zero_le _, rfl⟩
    case round =>
      obtain ⟨i, rfl, rfl, hi, rfl⟩ := hrel
      by_cases hlt : i < b
      · have hd1 : x / 2 ^ i ≤ x := Nat.div_le_self _ _
        have hd2 : t / 2 ^ i ≤ t := Nat.div_le_self _ _
        have a1 : bits .and .i64 ((x : Int) / 2 ^ i) 1 = ((x / 2 ^ i &&& 1 : Nat) : Int) := by
          rw [show ((x : Int) / 2 ^ i) = ((x / 2 ^ i : Nat) : Int) from by simp, show (1 : Int) = ((1 : Nat) : Int) from rfl, and_i64 _ _ (by omega) (by omega)]
        have a2' : bits .and .i64 ((t : Int) / 2 ^ i) 1 = ((t / 2 ^ i &&& 1 : Nat) : Int) := by
          rw [show ((t : Int) / 2 ^ i) = ((t / 2 ^ i : Nat) : Int) from by simp, show (1 : Int) = ((1 : Nat) : Int) from rfl, and_i64 _ _ (by omega) (by omega)]
        have hnx : parF x t (i + 1) = parF x t i ^^^ (x / 2 ^ i &&& 1 &&& (t / 2 ^ i &&& 1)) := rfl
        have u2 : x / 2 ^ i &&& 1 < 2 := Nat.lt_of_le_of_lt Nat.and_le_right (by omega)
        have v2 : t / 2 ^ i &&& 1 < 2 := Nat.lt_of_le_of_lt Nat.and_le_right (by omega)
        have pl : parF x t i < 2 := by
          clear hnx a1 a2' hd1 hd2 hlt
          induction i with
          | zero => simp [parF]
          | succ i ih => exact Nat.xor_lt_two_pow (n := 1) (ih (by omega) (Nat.lt_of_le_of_lt Nat.and_le_right (by omega)) (Nat.lt_of_le_of_lt Nat.and_le_right (by omega))) (Nat.lt_of_le_of_lt Nat.and_le_left (Nat.lt_of_le_of_lt Nat.and_le_right (by omega)))
        generalize x / 2 ^ i &&& 1 = u at *
        generalize t / 2 ^ i &&& 1 = vv at *
        have a3 : bits .and .i64 (u : Int) (vv : Int) = ((u &&& vv : Nat) : Int) := and_i64 _ _ (by omega) (by omega)
        have h3 : u &&& vv < 2 := Nat.lt_of_le_of_lt Nat.and_le_left u2
        generalize hp : parF x t i = p at *
        obtain ⟨uv, huv⟩ : ∃ uv, u &&& vv = uv := ⟨_, rfl⟩
        rw [huv] at a3 hnx h3
        have a4 : bits .xor .i64 (p : Int) (uv : Int) = ((parF x t (i + 1) : Nat) : Int) := by rw [hnx]; exact xor_i64 _ _ (by omega) (by omega)
        obtain ⟨p', hp'⟩ : ∃ p', parF x t (i + 1) = p' := ⟨_, rfl⟩
        rw [hp'] at a4
        have HPP := Lib.hid hp'
        clear hnx huv hp hp' hd1 hd2
        go_wp2
        go_roundw
        case rel => exact ⟨i + 1, by go_num, by rw [HPP.out], by omega, by first | rfl | trivial⟩
        case measure => simp [intOf]; omega
      · have hie : i = b := by omega
        subst hie
        have hxy : x ^^^ y < T := by
          rw [← HTT.out]; rw [← HTT.out] at hxT hyT
          exact Nat.xor_lt_two_pow hxT hyT
        have hadd := tp_xor i t x y (by omega) (by omega)
        have hlow : tpF i t x % 2 = parF x t i := by rw [HPE.out]; exact tp_low i t x hb1
        have hhigh := tp_high i t x hb1
        have hl1 := HLE.out (x ^^^ y)
        have hl2 := HLE.out x
        have hl3 := HLE.out y
        obtain ⟨T2, hT2'⟩ : ∃ T2, 2 ^ (i - 1) = T2 := ⟨_, rfl⟩
        have hTT2 : T = T2 * 2 := by
          have hpw : 2 ^ i = 2 ^ (i - 1) * 2 := by rw [← Nat.pow_succ]; congr 1; omega
          rw [← HTT.out, hpw, hT2']
        have hand : x &&& (T2 - 1) = x % T2 := by rw [← hT2']; exact Nat.and_two_pow_sub_one_eq_mod x (i - 1)
        rw [hT2'] at hhigh
        go_wp2_with fail
        refine (HTF.out _).mono ?_; rintro e w3 ⟨v3, rfl, i3, b3⟩
        obtain ⟨av3, cv3, rfl, -, -⟩ := i3.form
        have hs3 := b3.size
        have hal3 : Below w3.heap.size w3 (w3.alloc (.cells #[.int .i64 0, .slice av3 0 cv3] 31)) := (Below.refl _ _).alloc (Nat.le_refl _) _
        have hb3' := b3.trans (hal3.mono hs3)
        obtain ⟨d0, d1, -, -⟩ := HP2.out.below hb3' hsz2
        have HROW3 := row_keep HROW2.out hb3' (fun g' e => by have := HAV.out g' (by simpa using e); omega)
        have HB3 := Lib.hid (HB2.out.trans (hb3'.mono HB2.out.size))
        obtain ⟨g1, q1, h1⟩ := HROW3 (x ^^^ y) (by rw [tabL_len]; exact hxy)
        obtain ⟨g2, q2, h2⟩ := HROW3 x (by rw [tabL_len]; exact hxT)
        obtain ⟨g3, q3, h3⟩ := HROW3 y (by rw [tabL_len]; exact hyT)
        have e1 : g1 = g := by simpa using q1.symm
        have e2 : g2 = g := by simpa using q2.symm
        have e3 : g3 = g := by simpa using q3.symm
        subst e1
        subst e2
        subst e3
        rw [tabL_get] at h1 h2 h3
        generalize hp : tpF i t (x ^^^ y) = p at *
        generalize hq : tpF i t x = q at *
        generalize hr : tpF i t y = r at *
        have f1 : bits .xor .i64 (x : Int) (y : Int) = ((x ^^^ y : Nat) : Int) := xor_i64 _ _ (by omega) (by omega)
        obtain ⟨xy, hxye⟩ : ∃ xy, x ^^^ y = xy := ⟨_, rfl⟩
        rw [hxye] at f1 h1 hxy
        have f2 : bits .xor .i64 (q : Int) (r : Int) = (p : Int) := by rw [hadd]; exact xor_i64 _ _ (by omega) (by omega)
        have f3 : bits .and .i64 (q : Int) 1 = ((parF x t i : Nat) : Int) := by rw [and_low q (by omega), hlow]
        obtain ⟨pr, hpr⟩ : ∃ pr, parF x t i = pr := ⟨_, rfl⟩
        rw [hpr] at f3
        have f4 : (T : Int) / 2 = (T2 : Int) := by rw [hTT2]; omega
        have f5 : bits .and .i64 (x : Int) ((T2 : Int) - 1) = ((x % T2 : Nat) : Int) := by
          rw [show (T2 : Int) - 1 = ((T2 - 1 : Nat) : Int) from by omega, and_i64 _ _ (by omega) (by omega), hand]
        have f6 : (q : Int) / 2 = ((x % T2 : Nat) : Int) := by rw [← hhigh]; simp
        obtain ⟨hh, hhe⟩ : ∃ hh, x % T2 = hh := ⟨_, rfl⟩
        rw [hhe] at f5 f6
        have f4w : IntKind.i64.wrap ((T : Int).tdiv 2) = (T2 : Int) := by rw [Int.tdiv_eq_ediv_of_nonneg (by omega), f4]; exact IntWalk.i64_in _ (by omega)
        have f7 : IntKind.i64.wrap ((T2 : Int) - 1) = (T2 : Int) - 1 := IntWalk.i64_in _ (by omega)
        have f8 : (q : Int) / 2 ^ 1 = (hh : Int) := by rw [← f6]; simp
        rw [hpr]
        clear hadd hlow hhigh hT2' hTT2 hand hp hq hr hxye hpr hhe i3 b3 hal3 hb3' HROW3 q1 q2 q3
        go_wp2
        go_quiet (fail)
        go_wp2
        go_ret
        exact ⟨rfl, ⟨HB3.out.os, HB3.out.tape, HB3.out.output, HB3.out.size, HB3.out.block⟩⟩
  · have HLO := Lib.hid (fun w => r8Long_any a a2 n cap n2 cap2 w)
    have hb : (decide (48 < n) || decide (48 < n2)) = true := by simp; omega
    rw [hb] at HLO
    clear hr hr2 hn hn2 hb hlong
    go_enter Try.func4, Try.ntmps4
    go_wp2_with fail
    refine (HLO.out _).mono ?_; rintro e w' ⟨rfl, rfl⟩
    go_wp2
    go_ret
    exact ⟨rfl, Below.refl _ _⟩
end Go.Proofs.Ythkooboiacajeab
