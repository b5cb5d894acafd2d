/- How many bits change at most in a ring, on both sides. -/
import Derived.Test.YtomdoamfdidghabTail
import Derived.Test.YtomdoamfdidghabOnes
import Derived.IntWalk
import Derived.Deep.RegionHeld3
namespace Go.Proofs.Ytomdoamfdidghab
open Go.RowKit
set_option linter.unusedVariables false
def maxN (f : Nat → Nat) : Nat → Nat
  | 0 => 0
  | j + 1 => max (maxN f j) (f j)
theorem maxN_le (f : Nat → Nat) (M : Nat) : ∀ j, (∀ i, i < j → f i ≤ M) → maxN f j ≤ M
  | 0, _ => Nat.zero_le _
  | j + 1, h => Nat.max_le.2 ⟨maxN_le f M j fun i hi => h i (by omega), h j (by omega)⟩
theorem le_maxN (f : Nat → Nat) : ∀ (j i : Nat), i < j → f i ≤ maxN f j
  | j + 1, i, h => by
    by_cases e : i = j
    · subst e; exact Nat.le_max_right _ _
    · exact Nat.le_trans (le_maxN f j i (by omega)) (Nat.le_max_left _ _)
theorem maxN_turn (e : Nat → Nat) (m ls : Nat) (hp : ∀ i, e i = e (i % m)) (hls : ls < m) : maxN (fun i => e (ls + i)) m = maxN e m := by
  apply Nat.le_antisymm
  · exact maxN_le _ _ _ fun i hi => by rw [hp]; exact le_maxN e m _ (Nat.mod_lt _ (by omega))
  · exact maxN_le _ _ _ fun i hi => by
      have h := le_maxN (fun i => e (ls + i)) m ((i + m - ls) % m) (Nat.mod_lt _ (by omega))
      rw [hp i]
      have e1 : (ls + (i + m - ls) % m) % m = i % m := by
        rw [Nat.add_mod_mod, show ls + (i + m - ls) = i + m from by omega, Nat.add_mod_right]
      have e2 : e (ls + (i + m - ls) % m) = e (i % m) := by rw [hp, e1]
      rw [← e2]; exact h
/-- the bits that change at a place of a ring -/
def ringD (N : List Int) (x : Int) (t m i : Nat) : Nat := onesN ((itr N x (t + i % m)).toNat ^^^ (itr N x (t + i % m + 1)).toNat)
theorem ringD_mod (N : List Int) (x : Int) (t m i : Nat) : ringD N x t m i = ringD N x t m (i % m) := by unfold ringD; rw [Nat.mod_mod]
def ringL (N : List Int) (x : Int) (k t ls : Nat) : List Int := ((pth N x k).drop t).drop ls ++ ((pth N x k).drop t).take ls
theorem ringL_len (N : List Int) (x : Int) (k t m ls : Nat) (hk : k = t + m) (hls : ls < m) : (ringL N x k t ls).length = m := by
  unfold ringL; simp [pth_length]; omega
theorem ringL_get (N : List Int) (x : Int) (k t m ls : Nat) (hk : k = t + m) (hls : ls < m) (i : Nat) (hi : i < (ringL N x k t ls).length) : (ringL N x k t ls)[i] = itr N x (t + (ls + i) % m) := by
  have hi2 : i < m := by rwa [ringL_len N x k t m ls hk hls] at hi
  have h : (ringL N x k t ls)[i]? = some (itr N x (t + (ls + i) % m)) := by
    unfold ringL
    by_cases h : i < m - ls
    · rw [List.getElem?_append_left (by simp [pth_length]; omega), List.getElem?_drop, List.getElem?_drop, Nat.mod_eq_of_lt (by omega)]
      unfold pth
      rw [List.getElem?_map, List.getElem?_range (by omega)]; rfl
    · have e : (ls + i) % m = ls + i - m := by rw [Nat.mod_eq_sub_mod (by omega), Nat.mod_eq_of_lt (by omega)]
      have e3 : (((pth N x k).drop t).drop ls).length = m - ls := by simp [pth_length]; omega
      rw [List.getElem?_append_right (by rw [e3]; omega), e3, List.getElem?_take, if_pos (by omega), List.getElem?_drop, e]
      unfold pth
      rw [List.getElem?_map, List.getElem?_range (by omega)]
      show some _ = _
      congr 2
      omega
  obtain ⟨_, h2⟩ := List.getElem?_eq_some_iff.1 h
  exact h2
theorem ring_next (N : List Int) (x : Int) (k t m : Nat) (hk : k = t + m) (hm : 1 ≤ m) (hte : itr N x t = itr N x k) (q : Nat) : itr N x (t + (q + 1) % m) = itr N x (t + q % m + 1) := by
  have hq := Nat.mod_lt q (show 0 < m by omega)
  by_cases h : q % m + 1 < m
  · have e : (q + 1) % m = q % m + 1 := by rw [← Nat.mod_add_mod, Nat.mod_eq_of_lt h]
    rw [e, Nat.add_assoc]
  · have e : (q + 1) % m = 0 := by
      rw [← Nat.mod_add_mod, show q % m + 1 = m from by omega, Nat.mod_self]
    rw [e, Nat.add_zero, hte, hk, show t + m = t + q % m + 1 from by omega]
theorem Ints.cellAt {ww : World} {B gl k cv : Nat} {L : List Int} (h : Ints ww B (.slice (some ⟨gl, 0, none⟩) k cv) L) (j : Nat) (hj : j < L.length) : ww.cell? ⟨gl, j, none⟩ = some (.int .i64 L[j]) := by
  obtain ⟨a, c, hv, -, kk⟩ := h.form
  obtain ⟨g, hg, -, -, hc, -⟩ := kk j hj
  simp only [Value.slice.injEq] at hv
  rw [hg] at hv
  have := hv.1
  simp only [Option.some.injEq, Addr.mk.injEq, and_true] at this
  subst this
  exact hc
theorem l00Max_nat (a b : Nat) (w : World) :
    Calls Try.prog 25 #[.int .i64 (a : Int), .int .i64 (b : Int)] w fun e w' => e = .returned (.int .i64 ((max a b : Nat) : Int)) ∧ w = w' := by
  by_cases h : (a : Int) > b
  all_goals
    go_enter Try.func25, Try.ntmps25
    go_wp2
    go_ret
    exact ⟨ret_int (by omega), rfl⟩
theorem quiet_eqv {P : Program} {f : FuncId} {args : Array Value} {w : World} {n : Nat} {v : Value}
    (h : Calls P f args (w.drewN n) fun e w' => e = .returned v ∧ w.drewN n = w') : Calls P f args (w.drewN n) fun e w'' => e = .returned v ∧ ∃ m, w'' = w.drewN m :=
  h.mono fun _ _ ⟨he, hm⟩ => ⟨he, n, hm.symm⟩

set_option maxHeartbeats 1000000 in
set_option maxRecDepth 100000 in
theorem ringFrom_any (bits : Int) (a : Option Addr) (n cap : Nat) (N : List Int) (x : Int) (w : World) (hn : n = N.length) (hN : N.length ≤ 256) (hin : InN N) (hx : 0 ≤ x ∧ x < (N.length : Int))
    (hr : RowOf w a N) (hlt : ∀ g, a = some ⟨g, 0, none⟩ → g < w.heap.size) :
    Calls Try.prog 27 #[.agg #[.int .i64 bits, .slice a n cap], .int .i64 x] w fun e w' => ∃ (k t m gl cv : Nat), Stop N x k ∧ k = t + m ∧ 1 ≤ m ∧ itr N x t = itr N x k ∧ e = .returned (.slice (some ⟨gl, t, none⟩) m (cv - t)) ∧ k ≤ cv ∧ Ints w' w.heap.size (.slice (some ⟨gl, 0, none⟩) k cv) (pth N x k) ∧ Below w.heap.size w w' := by
  have HR := Lib.hid (fun (w' : World) (hr : RowOf w' a N) (hlt : ∀ g, a = some ⟨g, 0, none⟩ → g < w'.heap.size) => route_any bits a n cap N x w' hn hN hin hx hr hlt)
  have hb0 : Below w.heap.size w (w.alloc (.cells #[.int .i64 bits, .slice a n cap] 28)) := (Below.refl _ _).alloc (Nat.le_refl _) _
  have HR0 := Lib.hid (row_alloc hr hlt hb0 (Nat.le_refl _))
  have HLT0 := Lib.hid (fun g e => Nat.lt_of_lt_of_le (hlt g e) hb0.size)
  have HB0 := Lib.hid hb0
  clear hr hlt hb0 hin hx hn
  go_enter Try.func27, Try.ntmps27
  go_wp2_with fail
  refine (HR.out _ HR0.out HLT0.out).mono ?_
  rintro e w2 ⟨k, t, v, hst, ht, hte, rfl, hi2, hb2⟩
  have HB2 := Lib.hid (HB0.out.trans (hb2.mono (by simp)))
  obtain ⟨av, cv, rfl, hle, hform⟩ := hi2.form
  obtain ⟨gl, hgl, -, hgl2, -, -⟩ := hform 0 (by rw [pth_length]; omega)
  subst hgl
  have hcap : k ≤ cv := by
    have := (hi2.row).2.2.1 (by intro e; have := pth_length N x k; rw [e] at this; simp at this; omega)
    rwa [pth_length] at this
  rw [pth_length] at hi2 ⊢
  have HI2 := Lib.hid hi2
  have HST := Lib.hid hst
  have HTE := Lib.hid hte
  have hct : ¬ cv = t := by omega
  clear hi2 hst hte hform hb2 hle
  go_wp2
  go_ret
  exact ⟨k, t, k - t, gl, cv, HST.out, by omega, by omega, HTE.out, rfl, hcap, HI2.out.lower (by simp), HB2.out⟩
set_option maxHeartbeats 1000000 in
set_option maxRecDepth 100000 in
theorem specMostChanged_t (b : Int) (a : Option Addr) (n cap : Nat) (l : List Int) (x : Int) (w : World) (hn : n = l.length) (hl : n ≤ 1048576) (hr : RowOf w a l) (hlt : ∀ g, a = some ⟨g, 0, none⟩ → g < w.heap.size) (hat : atB b l x = true) (k t m : Nat) (hst : Stop l x k) (hk : k = t + m) (hm : 1 ≤ m) (hte : itr l x t = itr l x k) :
    Calls Try.prog 13 #[.agg #[.int .i64 b, .slice a n cap], .int .i64 x] w fun e w' => e = .returned (.tuple #[.int .i64 ((maxN (ringD l x t m) m : Nat) : Int), .bool true]) ∧ Below w.heap.size w w' := by
  obtain ⟨hN, hin, hx⟩ := at_in hat
  have hb0 : Below w.heap.size w (w.alloc (.cells #[.int .i64 b, .slice a n cap] 28)) := (Below.refl _ _).alloc (Nat.le_refl _) _
  have hr0 := row_alloc hr hlt hb0 (Nat.le_refl _)
  have HA := Lib.hid (l02At_any w.heap.size b x a n cap l (w.alloc (.cells #[.int .i64 b, .slice a n cap] 28)) hn hl (At2.new w _ _ _) hr0)
  rw [hat] at HA
  have HLT := Lib.hid (fun g e => Nat.lt_of_lt_of_le (hlt g e) hb0.size)
  have HR0 := Lib.hid hr0
  have HBW := Lib.hid hb0
  have HIN := Lib.hid hin
  have HX := Lib.hid hx
  have HN := Lib.hid hn
  have hnl : n ≤ 256 := by omega
  clear hr hlt hr0 hb0 hat hn hin hx
  go_enter Try.func13, Try.ntmps13
  go_wp2_with fail
  refine HA.out.mono ?_; rintro e w' ⟨rfl, q, rfl⟩
  have bx := (At2.new w (.int .i64 b) (.slice a n cap) 28).drewN q
  have hr1 : RowOf ((w.alloc (.cells #[.int .i64 b, .slice a n cap] 28)).drewN q) a l := HR0.out
  have HB0 := Lib.hid (bw HBW.out q)
  have hs0 : w.heap.size < ((w.alloc (.cells #[.int .i64 b, .slice a n cap] 28)).drewN q).heap.size := by show w.heap.size < (w.alloc (.cells #[.int .i64 b, .slice a n cap] 28)).heap.size; simp
  have HLT1 : Hid (∀ g, a = some ⟨g, 0, none⟩ → g < ((w.alloc (.cells #[.int .i64 b, .slice a n cap] 28)).drewN q).heap.size) := HLT
  generalize (w.alloc (.cells #[.int .i64 b, .slice a n cap] 28)).drewN q = W0 at *
  have HPX := Lib.hid bx
  obtain ⟨b0, b1, -, -⟩ := bx
  have HR1 := Lib.hid hr1
  clear hr1
  go_wp2_with fail
  refine (specRing_any w.heap.size b a n cap l x W0 HN.out hN HIN.out HX.out HPX.out HR1.out HLT1.out).mono ?_
  rintro e w2 ⟨k', t', ls, v, hst', ht', hte', hls, rfl, hi2, hb2⟩
  obtain rfl := stop_unique hst hst'
  obtain rfl := tail_unique hst (by omega) hte ht' hte'
  have hk256 : k ≤ 256 := Nat.le_trans (pth_le HIN.out HX.out hst.1) hN
  have hlsl : ls < m := by have := hls.1; simp [pth_length] at this; omega
  have HB2 := Lib.hid (HB0.out.trans (hb2.mono (by omega)))
  have hi3 : Ints w2 W0.heap.size v (ringL l x k t ls) := hi2
  have HLEN := Lib.hid (ringL_len l x k t m ls hk hlsl)
  obtain ⟨av, cv, rfl, -, hform⟩ := hi3.form
  obtain ⟨gl, hgl, -, -, -, -⟩ := hform 0 (by rw [HLEN.out]; omega)
  subst hgl
  have HI2 := Lib.hid hi3
  have HGET := Lib.hid (ringL_get l x k t m ls hk hlsl)
  have HNEXT := Lib.hid (ring_next l x k t m hk hm hte)
  have HTURN := Lib.hid (maxN_turn (ringD l x t m) m ls (ringD_mod l x t m) hlsl)
  have hm256 : m ≤ 256 := by omega
  have hne : ((m : Int) == 0) = false := by simp; omega
  have hn0 : ¬ (m : Int) = 0 := by omega
  have hn1 : ¬ m = 0 := by omega
  clear hst hst' hte hte' hb2 hi2 hi3 hls b0 b1 hform hk
  have HE : Hid ((ringL l x k t ls).length = m) := HLEN
  rw [HE.out] at HI2 ⊢
  go_wp2
  go_loopw [8, 9] (fun u i wr => ∃ j : Nat, j ≤ m ∧ i = .int .i64 (j : Int) ∧ u = .int .i64 ((maxN (fun i => ringD l x t m (ls + i)) j : Nat) : Int) ∧ Ints wr W0.heap.size (.slice (some ⟨gl, 0, none⟩) m cv) (ringL l x k t ls) ∧ Below w.heap.size w wr) (fun _ i _ => m - (intOf i).toNat)
  case atStart => exact ⟨0, Nat.zero_le _, rfl, rfl, HI2.out, HB2.out⟩
  case round =>
    obtain ⟨j, hj, rfl, rfl, hii, hbb⟩ := hrel
    have HII := Lib.hid hii
    have HBB := Lib.hid hbb
    clear hii hbb
    obtain ⟨M, hM⟩ : ∃ M, maxN (fun i => ringD l x t m (ls + i)) j = M := ⟨_, rfl⟩
    have HM := Lib.hid hM
    rw [hM]
    clear hM
    by_cases hjm : j < m
    · obtain ⟨r, hr⟩ : ∃ r, (j + 1) % m = r := ⟨_, rfl⟩
      have hrm : r < m := by rw [← hr]; exact Nat.mod_lt _ (by omega)
      have c1 := HII.out.cellAt j (by rw [HLEN.out]; exact hjm)
      have c2 := HII.out.cellAt r (by rw [HLEN.out]; exact hrm)
      rw [HGET.out] at c1 c2
      have e2 : itr l x (t + (ls + r) % m) = itr l x (t + (ls + j) % m + 1) := by
        rw [← HNEXT.out (ls + j), ← hr, Nat.add_mod_mod, Nat.add_assoc]
      rw [e2] at c2
      obtain ⟨y, hy, hy1, -⟩ := row_get (itr_in HIN.out HX.out (t + (ls + j) % m))
      obtain ⟨z, hz, hz1, -⟩ := row_get (itr_in HIN.out HX.out (t + (ls + j) % m + 1))
      have HD := Lib.hid (show ringD l x t m (ls + j) = onesN (y ^^^ z) by unfold ringD; rw [hy1, hz1]; simp)
      rw [hy1] at c1
      rw [hz1] at c2
      obtain ⟨X, hX⟩ : ∃ X, y ^^^ z = X := ⟨_, rfl⟩
      have hX256 : X < 256 := by rw [← hX]; exact Nat.xor_lt_two_pow (n := 8) (by omega) (by omega)
      have hxo : bits .xor .i64 (y : Int) (z : Int) = (X : Int) := by rw [← hX]; exact xor_i64 y z (by omega) (by omega)
      rw [hX] at HD
      obtain ⟨D, hD⟩ : ∃ D, onesN X = D := ⟨_, rfl⟩
      have HON := Lib.hid (fun w => l02Ones_nat X w hX256)
      have HMX := Lib.hid (fun w => l00Max_nat M D w)
      rw [hD] at HD HON
      have HSTEP := Lib.hid (show maxN (fun i => ringD l x t m (ls + i)) (j + 1) = max M D by rw [maxN, HM.out, HD.out])
      have hr1 : ((j : Int) + 1) % (m : Int) = (r : Int) := by rw [← hr]; simp
      have hr2 : IntKind.i64.wrap (((j : Int) + 1).tmod (m : Int)) = (r : Int) := by rw [Int.tmod_eq_emod_of_nonneg (by omega), hr1]; exact IntWalk.i64_in _ (by omega)
      have hr3 : IntKind.i64.wrap ((j : Int) + 1) = (j : Int) + 1 := IntWalk.i64_in _ (by omega)
      have hr4 : (0 : Int) ≤ (j : Int) + 1 := by omega
      have hr5 : (0 : Int) ≤ (r : Int) := by omega
      have hr6 : (r : Int) < (m : Int) := by omega
      have hr7 : (j : Int) < (m : Int) := by omega
      clear hr e2 hy1 hz1 hX hD
      go_wp2
      go_quiet (first | (go_at_call 26; exact quiet_eqv (HON.out _)) | (go_at_call 25; exact quiet_eqv (HMX.out _)))
      clear hr1 hr2 hr3
      go_wp2
      go_roundw
      case rel => exact ⟨j + 1, by omega, by go_num, by rw [HSTEP.out], HII.out.drewN _, bw HBB.out _⟩
      case measure => simp [intOf]; omega
    · obtain rfl : j = m := by omega
      have HE2 := Lib.hid (show maxN (ringD l x t j) j = M by rw [← HTURN.out, HM.out])
      go_wp2
      go_ret2
      exact ⟨by rw [HE2.out]; rfl, HBB.out⟩
set_option maxHeartbeats 1000000 in
set_option maxRecDepth 100000 in
theorem implMostChanged_t (b : Int) (a : Option Addr) (n cap : Nat) (l : List Int) (x : Int) (w : World) (hn : n = l.length) (hl : n ≤ 1048576) (hr : RowOf w a l) (hlt : ∀ g, a = some ⟨g, 0, none⟩ → g < w.heap.size) (hat : atB b l x = true) (k t m : Nat) (hst : Stop l x k) (hk : k = t + m) (hm : 1 ≤ m) (hte : itr l x t = itr l x k) :
    Calls Try.prog 14 #[.agg #[.int .i64 b, .slice a n cap], .int .i64 x] w fun e w' => e = .returned (.tuple #[.int .i64 ((maxN (ringD l x t m) m : Nat) : Int), .bool true]) ∧ Below w.heap.size w w' := by
  obtain ⟨hN, hin, hx⟩ := at_in hat
  have hb0 : Below w.heap.size w (w.alloc (.cells #[.int .i64 b, .slice a n cap] 28)) := (Below.refl _ _).alloc (Nat.le_refl _) _
  have hr0 := row_alloc hr hlt hb0 (Nat.le_refl _)
  have HA := Lib.hid (has_any b x a n cap l (w.alloc (.cells #[.int .i64 b, .slice a n cap] 28)) hn hl hr0 (fun g e => Nat.lt_of_lt_of_le (hlt g e) hb0.size))
  rw [hat] at HA
  have HLT := Lib.hid (fun g e => Nat.lt_of_lt_of_le (hlt g e) hb0.size)
  have HR0 := Lib.hid hr0
  have HBW := Lib.hid hb0
  have HIN := Lib.hid hin
  have HX := Lib.hid hx
  have HN := Lib.hid hn
  have hnl : n ≤ 256 := by omega
  clear hr hlt hr0 hb0 hat hn hin hx
  go_enter Try.func14, Try.ntmps14
  go_wp2_with fail
  refine HA.out.mono ?_; rintro e W0 ⟨rfl, hb1⟩
  have bx := (At2.new w (.int .i64 b) (.slice a n cap) 28).below hb1 (by simp)
  have hr1 := row_alloc HR0.out HLT.out hb1 (Nat.le_refl _)
  have HB0 := Lib.hid (HBW.out.trans (hb1.mono HBW.out.size))
  have hs0 : w.heap.size < W0.heap.size := by have := hb1.size; simp at this; omega
  have HLT1 := Lib.hid (fun g e => Nat.lt_of_lt_of_le (HLT.out g e) hb1.size)
  clear hb1
  have HPX := Lib.hid bx
  obtain ⟨b0, b1, -, -⟩ := bx
  have HR1 := Lib.hid hr1
  clear hr1
  go_wp2_with fail
  refine (ringFrom_any b a n cap l x W0 HN.out hN HIN.out HX.out HR1.out HLT1.out).mono ?_
  rintro e w2 ⟨k', t', m', gl, cv, hst', hk', hm', hte', rfl, hcv, hi2, hb2⟩
  obtain rfl := stop_unique hst hst'
  obtain rfl := tail_unique hst (by omega) hte (by omega) hte'
  obtain rfl : m = m' := by omega
  have hk256 : k ≤ 256 := Nat.le_trans (pth_le HIN.out HX.out hst.1) hN
  have hs2 := hb2.size
  have HB2 := Lib.hid hb2
  have HI2 := Lib.hid hi2
  have HTE := Lib.hid hte
  have HK := Lib.hid hk
  have hm256 : m ≤ 256 := by omega
  clear hst hst' hte hte' hb2 hi2 b0 b1 hk hk' hm'
  go_wp2
  go_loopw [6, 17] (fun u i wr => ∃ j : Nat, j ≤ m ∧ i = .int .i64 (j : Int) ∧ u = .int .i64 ((maxN (ringD l x t m) j : Nat) : Int) ∧ Ints wr W0.heap.size (.slice (some ⟨gl, 0, none⟩) k cv) (pth l x k) ∧ Below W0.heap.size W0 wr) (fun _ i _ => m - (intOf i).toNat)
  case atStart => exact ⟨0, Nat.zero_le _, rfl, rfl, HI2.out, HB2.out⟩
  case round =>
    obtain ⟨j, hj, rfl, rfl, hii, hbb⟩ := hrel
    have HII := Lib.hid hii
    have HBB := Lib.hid hbb
    have hsz := hbb.size
    have HR2 := Lib.hid (row_alloc HR1.out HLT1.out hbb (Nat.le_refl _))
    obtain ⟨b0, b1, -, -⟩ := HPX.out.below hbb (by omega)
    clear hii hbb
    obtain ⟨M, hM⟩ : ∃ M, maxN (ringD l x t m) j = M := ⟨_, rfl⟩
    have HM := Lib.hid hM
    rw [hM]
    clear hM
    by_cases hjm : j < m
    · have c1 := pth_cells HII.out (t + j) (by have := HK.out; omega)
      obtain ⟨y, hy, hy1, hnx⟩ := row_get (itr_in HIN.out HX.out (t + j))
      obtain ⟨z, hz, hz1, -⟩ := row_get (itr_in HIN.out HX.out (t + j + 1))
      have hnz : l[y] = (z : Int) := by rw [← hnx]; exact hz1
      have HD := Lib.hid (show ringD l x t m j = onesN (y ^^^ z) by unfold ringD; rw [Nat.mod_eq_of_lt hjm, hy1, hz1]; simp)
      obtain ⟨g, hg, hcN⟩ := HR2.out y hy
      have hgB := HLT1.out g hg
      rw [hnz] at hcN
      rw [hy1] at c1
      have HAF := Lib.hid (after_any b (z : Int) g n cap y wr (by rw [HN.out]; exact hy) hnl (by omega) hcN)
      obtain ⟨X, hX⟩ : ∃ X, y ^^^ z = X := ⟨_, rfl⟩
      have hX256 : X < 256 := by rw [← hX]; exact Nat.xor_lt_two_pow (n := 8) (by omega) (by omega)
      have hxo : bits .xor .i64 (y : Int) (z : Int) = (X : Int) := by rw [← hX]; exact xor_i64 y z (by omega) (by omega)
      rw [hX] at HD
      obtain ⟨D, hD⟩ : ∃ D, onesN X = D := ⟨_, rfl⟩
      have HON := Lib.hid (fun w => onesOf_nat X w hX256)
      rw [hD] at HD HON
      have HSTEP := Lib.hid (show maxN (ringD l x t m) (j + 1) = max M D by rw [maxN, HM.out, HD.out])
      have hr7 : (j : Int) < (m : Int) := by omega
      subst hg
      clear hy1 hz1 hnx hnz hX hD hcN
      go_wp2_with (first | (go_at_call 29; refine HAF.out.mono ?_; rintro e w3 ⟨rfl, hb3⟩; have HB3 := Lib.hid hb3; clear hb3) | (go_at_call 28; refine (HON.out _).mono ?_; rintro e w' ⟨rfl, rfl⟩))
      go_roundw
      case rel => exact ⟨j + 1, by omega, by go_num, by rw [HSTEP.out]; (first | rfl | go_num | (split <;> (apply congrArg; omega))), HII.out.keep HB3.out (Nat.le_refl _), HBB.out.trans (HB3.out.mono hsz)⟩
      case measure => simp [intOf]; omega
    · obtain rfl : j = m := by omega
      go_wp2
      go_ret2
      exact ⟨by rw [HM.out]; rfl, HB0.out.trans (HBB.out.mono (by omega))⟩
set_option maxRecDepth 100000 in
theorem specMostChanged_f (b : Int) (a : Option Addr) (n cap : Nat) (l : List Int) (x : Int) (w : World) (hn : n = l.length) (hl : n ≤ 1048576) (hr : RowOf w a l) (hlt : ∀ g, a = some ⟨g, 0, none⟩ → g < w.heap.size) (hat : atB b l x = false) :
    Calls Try.prog 13 #[.agg #[.int .i64 b, .slice a n cap], .int .i64 x] w fun e w' => e = .returned (.tuple #[.int .i64 0, .bool false]) ∧ Below w.heap.size w w' := by
  have hb0 : Below w.heap.size w (w.alloc (.cells #[.int .i64 b, .slice a n cap] 28)) := (Below.refl _ _).alloc (Nat.le_refl _) _
  have hr0 := row_alloc hr hlt hb0 (Nat.le_refl _)
  have HA := Lib.hid (l02At_any w.heap.size b x a n cap l (w.alloc (.cells #[.int .i64 b, .slice a n cap] 28)) hn hl (At2.new w _ _ _) hr0)
  have HBW := Lib.hid hb0
  rw [hat] at HA
  clear hr hlt hr0 hb0 hn hat
  go_enter Try.func13, Try.ntmps13
  go_wp2_with fail
  refine HA.out.mono ?_; rintro e w' ⟨rfl, q, rfl⟩
  have HB0 := Lib.hid (bw HBW.out q)
  go_wp2
  go_ret2
  exact ⟨rfl, HB0.out⟩
set_option maxRecDepth 100000 in
theorem implMostChanged_f (b : Int) (a : Option Addr) (n cap : Nat) (l : List Int) (x : Int) (w : World) (hn : n = l.length) (hl : n ≤ 1048576) (hr : RowOf w a l) (hlt : ∀ g, a = some ⟨g, 0, none⟩ → g < w.heap.size) (hat : atB b l x = false) :
    Calls Try.prog 14 #[.agg #[.int .i64 b, .slice a n cap], .int .i64 x] w fun e w' => e = .returned (.tuple #[.int .i64 0, .bool false]) ∧ Below w.heap.size w w' := by
  have hb0 : Below w.heap.size w (w.alloc (.cells #[.int .i64 b, .slice a n cap] 28)) := (Below.refl _ _).alloc (Nat.le_refl _) _
  have hr0 := row_alloc hr hlt hb0 (Nat.le_refl _)
  have HA := Lib.hid (has_any b x a n cap l (w.alloc (.cells #[.int .i64 b, .slice a n cap] 28)) hn hl hr0 (fun g e => Nat.lt_of_lt_of_le (hlt g e) hb0.size))
  have HBW := Lib.hid hb0
  rw [hat] at HA
  clear hr hlt hr0 hb0 hn hat
  go_enter Try.func14, Try.ntmps14
  go_wp2_with fail
  refine HA.out.mono ?_; rintro e w' ⟨rfl, hb1⟩
  have HB0 := Lib.hid (HBW.out.trans (hb1.mono HBW.out.size))
  go_wp2
  go_ret2
  exact ⟨rfl, HB0.out⟩
theorem mostChanged_both (b : Int) (l : List Int) (x : Int) (hl : l.length ≤ 1048576) : ∃ (r : Int) (c : Bool), (∀ (a : Option Addr) (cap : Nat) (w : World), RowOf w a l → (∀ g, a = some ⟨g, 0, none⟩ → g < w.heap.size) → Calls Try.prog 13 #[.agg #[.int .i64 b, .slice a l.length cap], .int .i64 x] w fun e w' => e = .returned (.tuple #[.int .i64 r, .bool c]) ∧ Below w.heap.size w w') ∧ (∀ (a : Option Addr) (cap : Nat) (w : World), RowOf w a l → (∀ g, a = some ⟨g, 0, none⟩ → g < w.heap.size) → Calls Try.prog 14 #[.agg #[.int .i64 b, .slice a l.length cap], .int .i64 x] w fun e w' => e = .returned (.tuple #[.int .i64 r, .bool c]) ∧ Below w.heap.size w w') := by
  cases hat : atB b l x with
  | false => exact ⟨_, _, fun a cap w hr hlt => specMostChanged_f b a l.length cap l x w rfl hl hr hlt hat, fun a cap w hr hlt => implMostChanged_f b a l.length cap l x w rfl hl hr hlt hat⟩
  | true =>
    obtain ⟨-, hin, hx⟩ := at_in hat
    obtain ⟨k, t, hst, ht, hte⟩ := stop_ex hin hx
    exact ⟨_, _, fun a cap w hr hlt => specMostChanged_t b a l.length cap l x w rfl hl hr hlt hat k t (k - t) hst (by omega) (by omega) hte, fun a cap w hr hlt => implMostChanged_t b a l.length cap l x w rfl hl hr hlt hat k t (k - t) hst (by omega) (by omega) hte⟩
end Go.Proofs.Ytomdoamfdidghab
