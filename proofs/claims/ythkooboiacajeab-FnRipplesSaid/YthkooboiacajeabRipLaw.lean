/- The walk of a law: a ripple changes one bit after another, ends at the next state, and goes through the watched one exactly if its state is one of the spikes'. -/
import Derived.Test.YthkooboiacajeabRipT
import Derived.Test.YthkooboiacajeabSpikes
import Derived.Test.YthkooboiacajeabByteArg
import Derived.BigQuiet
import Derived.Deep.QuietTactic
namespace Go.Proofs.Ythkooboiacajeab
open Go.RowKit
set_option linter.unusedVariables false

theorem rip_last_all : ((List.range 7).all fun b => (List.range (2 ^ b)).all fun x => decide (b = 0) || decide ((ripGo b 0 x).getLast? = some ((x + 1) % 2 ^ b)) ) = true := by decide +kernel
theorem rip_last (b x : Nat) (h0 : 1 ≤ b) (h1 : b ≤ 6) (hx : x < 2 ^ b) : (ripGo b 0 x).getLast? = some ((x + 1) % 2 ^ b) := by
  have h := List.all_eq_true.1 rip_last_all b (by simp; omega)
  have h2 := List.all_eq_true.1 h x (by simp; exact hx)
  rw [Bool.or_eq_true, decide_eq_true_eq, decide_eq_true_eq] at h2
  rcases h2 with h2 | h2
  · omega
  · exact h2
theorem rip_end (b x : Nat) (h0 : 1 ≤ b) (h1 : b ≤ 6) (hx : x < 2 ^ b) : ∃ h : 0 < (ripGo b 0 x).length, (ripGo b 0 x)[(ripGo b 0 x).length - 1]'(by omega) = (x + 1) % 2 ^ b := by
  have h := rip_last b x h0 h1 hx
  rw [List.getLast?_eq_getElem?] at h
  obtain ⟨h2, h3⟩ := List.getElem?_eq_some_iff.1 h
  exact ⟨by omega, h3⟩
theorem rip_at (b i y : Nat) (L : List Nat) (hi : i < L.length) (h : L.drop i = ripGo (b - i) i y) : L[i] = y ^^^ 2 ^ i ∧ i < b ∧ (i + 1 < L.length → L.drop (i + 1) = ripGo (b - (i + 1)) (i + 1) L[i]) := by
  rw [List.drop_eq_getElem_cons hi] at h
  obtain ⟨f, hf⟩ : ∃ f, b - i = f + 1 := by
    cases hb : b - i with
    | zero => rw [hb, ripGo] at h; cases h
    | succ f => exact ⟨f, rfl⟩
  rw [hf, ripGo] at h
  obtain ⟨h1, h2⟩ := List.cons.inj h
  refine ⟨h1, by omega, fun h3 => ?_⟩
  rw [h1, show b - (i + 1) = f from by omega]
  split at h2
  · rename_i hc
    have := congrArg List.length h2
    simp at this
    omega
  · exact h2
def thrB (L : List Nat) (m : Int) (i : Nat) : Bool := hasB ((ints L).dropLast.take i) m
theorem thr_in (L : List Nat) (m : Int) (i : Nat) (h : i + 1 < L.length) : thrB L m (i + 1) = (thrB L m i || decide ((L[i] : Int) = m)) := by
  unfold thrB hasB
  have hl : i < (ints L).dropLast.length := by simp [ints]; omega
  rw [List.take_succ_eq_append_getElem hl, List.contains_append]
  congr 1
  have e : (ints L).dropLast[i] = (L[i] : Int) := by rw [List.getElem_dropLast]; simp [ints]
  rw [e]
  rw [Bool.eq_iff_iff]; simp; exact ⟨fun h => h.symm, fun h => h.symm⟩
theorem thr_out (L : List Nat) (m : Int) (i : Nat) (h : ¬ i + 1 < L.length) : thrB L m (i + 1) = thrB L m i := by
  unfold thrB
  have hl : (ints L).dropLast.length ≤ i := by simp [ints]; omega
  rw [List.take_of_length_le hl, List.take_of_length_le (by omega)]
theorem thr_end (L : List Nat) (m : Int) (i : Nat) (h : L.length ≤ i) : thrB L m i = hasB (ints L).dropLast m := by
  unfold thrB; rw [List.take_of_length_le (by simp [ints]; omega)]
theorem xor_back (y p : Nat) : (y ^^^ p) ^^^ y = p := by rw [Nat.xor_comm y p, Nat.xor_assoc, Nat.xor_self, Nat.xor_zero]

theorem spk_has (b : Nat) (m : Int) (x : Nat) (hx : x < 2 ^ b) : hasB (ints (spkL b m (2 ^ b))) (x : Int) = spk b m x := by
  unfold hasB spkL ints
  rw [Bool.eq_iff_iff, List.contains_iff_mem, List.mem_map]
  constructor
  · rintro ⟨y, hy, he⟩
    rw [List.mem_filter] at hy
    have : y = x := by omega
    subst this; exact hy.2
  · intro h
    exact ⟨x, List.mem_filter.2 ⟨List.mem_range.2 hx, h⟩, rfl⟩
theorem ints_at2 (l : List Nat) (k : Nat) (h : k < (ints l).length) : (ints l)[k] = ((l[k]'(by rw [ints_len] at h; exact h) : Nat) : Int) := by simp [ints]
set_option maxRecDepth 100000 in
theorem r8Has_any (a : Option Addr) (l : List Int) (n cap : Nat) (x : Int) (w : World) (hn : n = l.length) (h : RowAt w a l) (hl : l.length ≤ maxLen) :
    Calls Try.prog 9 #[.slice a n cap, .int .i64 x] w fun e w' => e = .returned (.bool (hasB l x)) ∧ w = w' := by
  unfold maxLen at hl
  have HH := Lib.hid h
  have HN := Lib.hid hn
  rw [← hn] at hl
  clear h hn
  go_enter Try.func9, Try.ntmps9
  go_wp2
  go_loop [5] (fun i => ∃ k : Nat, k ≤ n ∧ i = .int .i64 (k : Int) ∧ hasB (l.take k) x = false) (fun i => n - (intOf i).toNat)
  case atStart => exact ⟨0, Nat.zero_le _, rfl, by simp [hasB]⟩
  case round =>
    obtain ⟨k, hk, rfl, h0⟩ := hrel
    have H0 := Lib.hid h0
    clear h0
    by_cases hlt : k < n
    · obtain ⟨g, rfl, hc⟩ := HH.out k (by have := HN.out; omega)
      obtain ⟨y, hy⟩ : ∃ y, l[k]'(by have := HN.out; omega) = y := ⟨_, rfl⟩
      rw [hy] at hc
      by_cases he : y = x
      · have HE := Lib.hid (has_hit l x k (by have := HN.out; omega) (by rw [hy]; exact he))
        have t1 : (y == x) = true := by simp [he]
        clear hy he
        go_wp2
        go_ret
        exact ⟨ret_bool HE.out.symm, rfl⟩
      · have HE := Lib.hid (has_step l x k (by have := HN.out; omega) H0.out (by rw [hy]; exact he))
        have t1 : (y == x) = false := by simp [he]
        clear hy he
        go_wp2
        go_round
        case rel => exact ⟨k + 1, by omega, by go_num, HE.out⟩
        case measure => simp [intOf]; omega
    · have HE := Lib.hid (has_end l x k (by have := HN.out; omega) H0.out)
      go_wp2
      go_ret
      exact ⟨ret_bool HE.out.symm, rfl⟩


theorem xor_int (a b : Nat) (ha : a < 256) (hb : b < 256) : bits .xor .i64 (a : Int) (b : Int) = ((a ^^^ b : Nat) : Int) := xor_i64 a b (by omega) (by omega)

set_option maxHeartbeats 2000000 in
set_option maxRecDepth 100000 in
theorem walk_FnRipples (a : Option Addr) (n cap : Nat) (l : List Int) (a2 : Option Addr) (n2 cap2 : Nat) (l2 : List Int) (w : World) (hn : n = l.length) (hr : ByteRow w a l) (hm : n ≤ maxLen) (hn2 : n2 = l2.length) (hr2 : ByteRow w a2 l2) (hm2 : n2 ≤ maxLen) :
    Calls Try.prog 3 #[.slice a n cap, .slice a2 n2 cap2] w fun e w' => e = .returned (.bool true) ∧ Below w.heap.size w w' := by
  by_cases hlong : n ≤ 48 ∧ n2 ≤ 48
  · obtain ⟨k1, k2⟩ := hlong
    have HLO := Lib.hid (fun w => r8Long_any a a2 n cap n2 cap2 w)
    rw [decide_eq_false (show ¬ 48 < n by omega), decide_eq_false (show ¬ 48 < n2 by omega)] at HLO
    -- the bits
    have hv0 := r8V_bd l 0 6 (by omega)
    have HV0 := Lib.hid (r8At_any a n cap l 0 6 w hn k1 hr (by omega) (by omega) (by omega))
    obtain ⟨v, hv⟩ := Int.eq_ofNat_of_zero_le hv0.1
    rw [hv] at HV0 hv0
    obtain ⟨b, hb⟩ : ∃ b, 1 + v = b := ⟨_, rfl⟩
    have hb1 : 1 ≤ b := by omega
    have hb6 : b ≤ 6 := by omega
    have hbv : (1 : Int) + (v : Int) = (b : Int) := by omega
    obtain ⟨T, hT⟩ : ∃ T, 2 ^ b = T := ⟨_, rfl⟩
    have hT64 : T ≤ 64 := by rw [← hT]; exact Nat.pow_le_pow_right (n := 2) (by omega) hb6
    have hT2 : 2 ≤ T := by rw [← hT]; exact Nat.pow_le_pow_right (n := 2) (by omega) hb1
    have hTi : (2 : Int) ^ b = (T : Int) := by rw [← hT]; simp
    have hTw : IntKind.i64.wrap ((2 : Int) ^ b) = (T : Int) := by rw [hTi]; exact IntWalk.i64_in _ (by omega)
    have hx0 := r8V_bd l2 0 T (by omega)
    have hx1 := r8V_bd l2 1 T (by omega)
    have HX0 := Lib.hid (fun w' (hr : ByteRow w' a2 l2) => r8At_any a2 n2 cap2 l2 0 T w' hn2 k2 hr (by omega) (by omega) (by omega))
    have HX1 := Lib.hid (fun w' (hr : ByteRow w' a2 l2) => r8At_any a2 n2 cap2 l2 1 T w' hn2 k2 hr (by omega) (by omega) (by omega))
    obtain ⟨x, hx⟩ := Int.eq_ofNat_of_zero_le hx0.1
    obtain ⟨m, hmm⟩ := Int.eq_ofNat_of_zero_le hx1.1
    rw [hx] at HX0 hx0
    rw [hmm] at HX1 hx1
    have hxT : x < T := by omega
    have hmT : m < T := by omega
    have hst : st (b : Int) = (T : Int) := by show ((2 ^ b : Nat) : Int) = _; rw [hT]
    have HR2 := Lib.hid hr2
    have HRS := Lib.hid (fun w => implRip_t (b : Int) (x : Int) w ⟨by omega, by omega, by omega, by rw [hst]; omega⟩)
    rw [Int.toNat_natCast, Int.toNat_natCast] at HRS
    have HSP := Lib.hid (fun w => implSpk b (m : Int) w ⟨by omega, by omega, by omega, by rw [hst]; omega⟩)
    have hlast := rip_last b x hb1 hb6 (by rw [hT]; exact hxT)
    rw [List.getLast?_eq_getElem?] at hlast
    have hp : 0 < (ripGo b 0 x).length := by
      obtain ⟨h2, -⟩ := List.getElem?_eq_some_iff.1 hlast
      omega
    have hlen := ripGo_len b 0 x
    have hspk := spk_has b (m : Int) x (by rw [hT]; exact hxT)
    have hspk2 : spk b (m : Int) x = hasB (ints (ripGo b 0 x)).dropLast (m : Int) := rfl
    have hxl : ∀ y ∈ ripGo b 0 x, y < 256 := fun y hy => Nat.lt_of_lt_of_le (ripGo_lt b 0 x b (by rw [hT]; exact hxT) (by omega) y hy) (by rw [hT]; omega)
    rw [hT] at hlast
    obtain ⟨LL, hLL⟩ : ∃ LL, ripGo b 0 x = LL := ⟨_, rfl⟩
    rw [hLL] at hlast hlen hspk2 hxl HRS hp
    have hst0 : LL.drop 0 = ripGo (b - 0) 0 x := by rw [← hLL]; rfl
    clear hLL
    have hmod : ((x : Int) + 1) % (T : Int) = (((x + 1) % T : Nat) : Int) := by simp
    obtain ⟨la, hla⟩ : ∃ la, (x + 1) % T = la := ⟨_, rfl⟩
    have hla2 : la < T := by rw [← hla]; exact Nat.mod_lt _ (by omega)
    rw [hla] at hlast hmod
    have HLAST := Lib.hid hlast
    have htm : IntKind.i64.wrap (((x : Int) + 1).tmod (T : Int)) = (la : Int) := by rw [Int.tmod_eq_emod_of_nonneg (by omega), hmod]; exact IntWalk.i64_in _ (by omega)
    have hTn : ((T : Int) == 0) = false := by simp; omega
    have hTz : ¬ (T : Int) = 0 := by omega
    have HSPK := Lib.hid hspk
    have HSPK2 := Lib.hid hspk2
    have HXL := Lib.hid hxl
    have HST0 := Lib.hid hst0
    clear hspk hspk2 hxl hst0 hla hlast hx hmm hv hr hr2 hn hn2 hst hT hb hv0 hx0 hx1
    go_enter Try.func3, Try.ntmps3
    go_wp2_with fail
    refine (HLO.out _).mono ?_; rintro e w' ⟨rfl, rfl⟩
    go_wp2_with fail
    refine HV0.out.mono ?_; rintro e w' ⟨rfl, rfl⟩
    go_wp2_with fail
    refine (HX0.out _ HR2.out).mono ?_; rintro e w' ⟨rfl, rfl⟩
    go_wp2_with fail
    refine (HX1.out _ HR2.out).mono ?_; rintro e w' ⟨rfl, rfl⟩
    go_wp2_with fail
    refine (HRS.out _).mono ?_; rintro e w1 ⟨v1, rfl, i1, b1⟩
    obtain ⟨av, cv, rfl, hLm, hcells⟩ := i1.form
    have HI1 := Lib.hid i1
    have HB1 := Lib.hid b1
    have hs1 := b1.size
    clear i1 b1 hcells
    go_wp2_with fail
    refine (HSP.out _).mono ?_; rintro e w2 ⟨v2, rfl, i2, b2⟩
    obtain ⟨av2, cv2, rfl, hLm2, hcells2⟩ := i2.form
    have HI2 := Lib.hid i2
    have HI12 := Lib.hid ((HI1.out.keep b2 (Nat.le_refl _)).row)
    have HB2 := Lib.hid (HB1.out.trans (b2.mono hs1))
    clear i2 b2 hcells2
    have hll := ints_len LL
    rw [hll]
    have HLL := Lib.hid hll
    obtain ⟨P, hN⟩ : ∃ P, LL.length = P + 1 := ⟨LL.length - 1, by omega⟩
    rw [hN] at hp hlen
    have HNN := Lib.hid hN
    rw [hN]
    -- the last one
    obtain ⟨g0, hg0, hcl⟩ := HI12.out.1 P (by rw [hll, hN]; omega)
    rw [ints_at2] at hcl
    have hl2 : ((LL[P]'(by omega) : Nat)) = la := by
      have := HLAST.out
      rw [hN, Nat.add_sub_cancel, List.getElem?_eq_getElem (by omega)] at this
      exact Option.some.inj this
    rw [hl2] at hcl
    subst hg0
    have e1 : IntKind.i64.wrap ((P : Int) + 1 - 1) = (P : Int) := by rw [IntWalk.i64_in _ (by omega)]; omega
    have e2 : IntKind.i64.wrap (P : Int) = (P : Int) := IntWalk.i64_in _ (by omega)
    have hNz : (((P : Int) + 1) == 0) = false := by simp; omega
    have hgt : ¬ (b : Int) < (P : Int) + 1 := by omega
    have hgt2 : decide ((b : Int) < (P : Int) + 1) = false := decide_eq_false hgt
    have hgt3 : (P : Int) + 1 ≤ (b : Int) := by omega
    clear hll hN hl2 hp
    go_wp2
    go_quiet (fail)
    go_wp2
    have hlLL : ∀ k, k < P + 1 → k < LL.length := fun k hk => by have := HNN.out; omega
    have HLL2 := Lib.hid hlLL
    clear hlLL hcl hgt hgt2 hgt3 e1 e2 hNz htm hmod hTn hTz
    go_loopw [13, 14, 15] (fun xs ts is wr => ∃ (i y : Nat) (t : Bool), is = .int .i64 (i : Int) ∧ xs = .int .i64 (y : Int) ∧ ts = .bool t ∧ i ≤ P + 1 ∧ y < 256 ∧ t = thrB LL (m : Int) i ∧ (i < P + 1 → LL.drop i = ripGo (b - i) i y) ∧ ∃ q, wr = w2.drewN q) (fun _ _ is _ => P + 1 - (intOf is).toNat)
    case atStart => exact ⟨0, x, false, rfl, rfl, rfl, Nat.zero_le _, by omega, by simp [thrB, hasB], fun _ => HST0.out, _, rfl⟩
    case round =>
      obtain ⟨i, y, t, rfl, rfl, rfl, hi, hy, ht, hd, q, rfl⟩ := hrel
      have HT := Lib.hid ht
      by_cases hlt : i < P + 1
      · have hiL := HLL2.out i hlt
        obtain ⟨hz1, hib, hnx⟩ := rip_at b i y LL hiL (hd hlt)
        obtain ⟨gi, hgi, hci⟩ := HI12.out.1 i (by rw [HLL.out]; exact hiL)
        have hgg : gi = g0 := by simpa using hgi.symm
        subst hgg
        rw [ints_at2] at hci
        have hz := HXL.out LL[i] (List.getElem_mem hiL)
        have hti := fun h => thr_in LL (m : Int) i h
        have hto := fun h => thr_out LL (m : Int) i h
        obtain ⟨z, hzz⟩ : ∃ z, LL[i] = z := ⟨_, rfl⟩
        simp only [hzz] at hz1 hci hz hnx hti
        have HNX := Lib.hid hnx
        have HTI := Lib.hid hti
        have HTO := Lib.hid hto
        obtain ⟨u, hu⟩ : ∃ u, 2 ^ i = u := ⟨_, rfl⟩
        have hu64 : u ≤ 64 := by rw [← hu]; exact Nat.pow_le_pow_right (n := 2) (by omega) (show i ≤ 6 by omega)
        have hui : (2 : Int) ^ i = (u : Int) := by rw [← hu]; simp
        have huw : IntKind.i64.wrap ((2 : Int) ^ i) = (u : Int) := by rw [hui]; exact IntWalk.i64_in _ (by omega)
        have huw2 : IntKind.i64.wrap (u : Int) = (u : Int) := IntWalk.i64_in _ (by omega)
        have hxo : bits .xor .i64 (z : Int) (y : Int) = (u : Int) := by
          rw [xor_int z y hz hy, hz1, hu, xor_back]
        have hmi : ((m : Int) == (m : Int)) = true := by simp
        clear hd ht hz1 hnx hti hto hzz hu hgi
        cases t with
        | true =>
          have HTH := Lib.hid (show true = thrB LL (m : Int) (i + 1) from by
            by_cases h3 : i + 1 < LL.length
            · rw [HTI.out h3, ← HT.out]; rfl
            · rw [HTO.out h3, ← HT.out])
          go_wp2
          go_roundw
          case rel => exact ⟨i + 1, z, true, by go_num, rfl, rfl, by omega, hz, HTH.out, fun h3 => HNX.out (by have := HNN.out; omega), q, rfl⟩
          case measure => simp [intOf]; omega
        | false =>
          by_cases h3 : i < P
          · have h3' : i + 1 < LL.length := by have := HNN.out; omega
            by_cases h4 : z = m
            · have HTH := Lib.hid (show true = thrB LL (m : Int) (i + 1) from by
                rw [HTI.out h3', ← HT.out, decide_eq_true (by rw [h4])]; rfl)
              have h5 : ((z : Int) == (m : Int)) = true := by simp [h4]
              clear h3' h4
              go_wp2
              go_roundw
              case rel => exact ⟨i + 1, z, true, by go_num, rfl, rfl, by omega, hz, HTH.out, fun h3 => HNX.out (by have := HNN.out; omega), q, rfl⟩
              case measure => simp [intOf]; omega
            · have HTH := Lib.hid (show false = thrB LL (m : Int) (i + 1) from by
                rw [HTI.out h3', ← HT.out, decide_eq_false (by omega)]; rfl)
              have h5 : ((z : Int) == (m : Int)) = false := by simp; omega
              clear h3' h4
              go_wp2
              go_roundw
              case rel => exact ⟨i + 1, z, false, by go_num, rfl, rfl, by omega, hz, HTH.out, fun h3 => HNX.out (by have := HNN.out; omega), q, rfl⟩
              case measure => simp [intOf]; omega
          · have HTH := Lib.hid (show false = thrB LL (m : Int) (i + 1) from by
              rw [HTO.out (by have := HNN.out; omega), ← HT.out])
            go_wp2
            go_roundw
            case rel => exact ⟨i + 1, z, false, by go_num, rfl, rfl, by omega, hz, HTH.out, fun h3 => HNX.out (by have := HNN.out; omega), q, rfl⟩
            case measure => simp [intOf]; omega
      · have hie : i = P + 1 := by omega
        have hfin : hasB (ints (spkL b (m : Int) (2 ^ b))) (x : Int) = t := by
          rw [HSPK.out, HSPK2.out, HT.out, thr_end LL (m : Int) i (by have := HNN.out; omega)]
        have HRH := Lib.hid (fun w' (hr : RowAt w' av2 (ints (spkL b (m : Int) (2 ^ b)))) => r8Has_any av2 (ints (spkL b (m : Int) (2 ^ b))) _ cv2 (x : Int) w' rfl hr HI2.out.row.2.1)
        rw [hfin] at HRH
        clear hfin hie ht hd
        go_wp2_with fail
        refine (HRH.out (w2.drewN q) (show RowAt (w2.drewN q) av2 _ from HI2.out.row.1)).mono ?_; rintro e w' ⟨rfl, rfl⟩
        cases t
        all_goals
          go_wp2
          go_ret
          exact ⟨rfl, ⟨HB2.out.os, HB2.out.tape, HB2.out.output, HB2.out.size, HB2.out.block⟩⟩
  · have HLO := Lib.hid (fun w => r8Long_any a a2 n cap n2 cap2 w)
    have hb : (decide (48 < n) || decide (48 < n2)) = true := by simp; omega
    rw [hb] at HLO
    clear hr hr2 hn hn2 hb hlong
    go_enter Try.func3, Try.ntmps3
    go_wp2_with fail
    refine (HLO.out _).mono ?_; rintro e w' ⟨rfl, rfl⟩
    go_wp2
    go_ret
    exact ⟨rfl, Below.refl _ _⟩
end Go.Proofs.Ythkooboiacajeab
