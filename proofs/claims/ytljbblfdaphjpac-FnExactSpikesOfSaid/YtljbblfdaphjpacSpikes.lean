/- The states from which a ripple goes through a state, on both sides; the walk of the law. -/
import Derived.Test.YtljbblfdaphjpacRipCore
import Derived.Test.YtljbblfdaphjpacHas
namespace Go.Proofs.Ytljbblfdaphjpac
open Go.RowKit

def spk (b : Nat) (m : Int) (x : Nat) : Bool := hasB (ints (ripGo b 0 x)).dropLast m
def spkL (b : Nat) (m : Int) (k : Nat) : List Nat := (List.range k).filter (spk b m)
theorem spkL_t (b : Nat) (m : Int) (k : Nat) (h : spk b m k = true) : spkL b m (k + 1) = spkL b m k ++ [k] := by simp [spkL, List.range_succ, h]
theorem spkL_f (b : Nat) (m : Int) (k : Nat) (h : spk b m k = false) : spkL b m (k + 1) = spkL b m k := by simp [spkL, List.range_succ, h]
theorem spkL_len (b : Nat) (m : Int) (k : Nat) : (spkL b m k).length ≤ k := by
  have := List.length_filter_le (spk b m) (List.range k); simpa [spkL] using this
theorem ripGo_pos (b x : Nat) (hb : 1 ≤ b) : 0 < (ints (ripGo b 0 x)).length := by
  obtain ⟨f, rfl⟩ : ∃ f, b = f + 1 := ⟨b - 1, by omega⟩
  simp [ints, ripGo]

set_option maxHeartbeats 2000000 in
set_option maxRecDepth 100000 in
theorem specSpk (b : Nat) (m : Int) (w : World) (h : StateOk (b : Int) m) :
    Calls Try.prog 7 #[.int .i64 (b : Int), .int .i64 m] w fun e w' => ∃ v, e = .returned (.tuple #[v, .bool true]) ∧ Ints w' w.heap.size v (ints (spkL b m (2 ^ b))) ∧ Below w.heap.size w w' := by
  obtain ⟨i0, hi, hz0, hz1, hz2⟩ := info_parts info_i64
  have hb1 : 1 ≤ b := by have := h.1; omega
  have hb2 : b ≤ 8 := by have := h.2.1; omega
  have hst : st (b : Int) = ((2 ^ b : Nat) : Int) := rfl
  have hsb := st_bd (b : Int) h.1 h.2.1
  obtain ⟨n, hn⟩ : ∃ n, 2 ^ b = n := ⟨_, rfl⟩
  rw [hst, hn] at hsb
  rw [hn] at hst ⊢
  have hn256 : n ≤ 256 := by omega
  have st2 : ∀ w, Calls Try.prog 34 #[.int .i64 (b : Int)] w fun e w' => e = .returned (.int .i64 (n : Int)) ∧ w = w' := fun w =>
    (l02Size_any (b : Int) w (by omega) (by omega)).mono fun e w' h => by rw [hst] at h; exact h
  have ST := Lib.hid st2
  have HOK := Lib.hid h
  clear st2 hst hn h
  go_enter Try.func7, Try.ntmps7
  go_wp2_with fail
  refine (l02State_t _ _ _ HOK.out).mono ?_; rintro e w' ⟨rfl, rfl⟩
  go_wp2
  go_loopw [6, 7, 8] (fun v x _ wr => ∃ k : Nat, k ≤ n ∧ x = .int .i64 (k : Int) ∧ Ints wr w.heap.size v (ints (spkL b m k)) ∧ Below w.heap.size w wr) (fun _ x _ _ => n - (intOf x).toNat)
  case atStart => exact ⟨0, Nat.zero_le _, rfl, Ints.lit w, (Below.refl _ _).alloc (Nat.le_refl _) _⟩
  case round =>
    obtain ⟨k, hk, rfl, hbuf, hB⟩ := hrel
    have HB := Lib.hid hbuf
    clear hbuf
    have hsz := hB.size
    have hL : (ints (spkL b m k)).length ≤ k := by rw [ints_len]; exact spkL_len b m k
    have HL := Lib.hid hL
    clear hL
    by_cases hlt : k < n
    · have hpos := ripGo_pos b k hb1
      have HPOS := Lib.hid hpos
      clear hpos
      go_wp2_with fail
      refine (ST.out _).mono ?_; rintro e w' ⟨rfl, rfl⟩
      go_wp2_with fail
      refine (specRipple b k _ hb2 (by omega)).mono ?_; rintro e w1 ⟨v1, rfl, i1, b1⟩
      obtain ⟨a1, c1, rfl, hm1, -⟩ := i1.form
      obtain ⟨hrow, -, hcap, -⟩ := i1.row
      have hcap := hcap (fun e => by have := HPOS.out; rw [e] at this; simp at this)
      have hrow := hrow.prefix
      obtain ⟨r, hr⟩ : ∃ r, (ints (ripGo b 0 k)).length = r + 1 := ⟨(ints (ripGo b 0 k)).length - 1, by have := HPOS.out; omega⟩
      rw [hr] at hcap hm1 ⊢
      have hrl : r = (ints (ripGo b 0 k)).dropLast.length := by rw [List.length_dropLast, hr]; omega
      obtain ⟨g1, ha1⟩ : ∃ g1, a1 = some ⟨g1, 0, none⟩ := by
        obtain ⟨a', cap', hv, _, hk'⟩ := i1.form
        simp only [Value.slice.injEq] at hv
        obtain ⟨rfl, -, -⟩ := hv
        obtain ⟨g, hg, _⟩ := hk' 0 (by have := HPOS.out; omega)
        exact ⟨g, hg⟩
      subst ha1
      have hsz1 := b1.size
      have HROW := Lib.hid hrow
      have HRL := Lib.hid hrl
      have HB1 := Lib.hid (HB.out.keep b1 (Nat.le_refl _))
      have HW1 := Lib.hid (hB.trans (b1.mono hsz))
      have hm2 : r ≤ maxLen := by omega
      unfold maxLen at hm1
      have HM2 := Lib.hid hm2
      clear hrow hrl hr i1 hm2
      cases hsp : spk b m k with
      | true =>
        have HS := Lib.hid (spkL_t b m k hsp)
        have hc : Calls Try.prog 36 #[.slice (some ⟨g1, 0, none⟩) r c1, .int .i64 m] w1 fun e w'' => e = .returned (.bool true) ∧ w1 = w'' :=
          (l00Has_any (some ⟨g1, 0, none⟩) _ r c1 m w1 HRL.out HROW.out (by rw [← HRL.out]; exact HM2.out)).mono fun e w' h => by unfold spk at hsp; rw [hsp] at h; exact h
        have HC := Lib.hid hc
        clear hc hsp
        go_wp2_with fail
        refine HC.out.mono ?_; rintro e w' ⟨rfl, rfl⟩
        go_wp2_with (at_builtin; refine wpList_append_own _ rfl _ _ 22 rfl w.heap.size 2 i0 (.int .i64 0) 1 8 Try.underlying22 hi hz0 hz1 hz2 rfl (by decide) _ _ _ rfl (HB1.out.alloc _) ⟨w1.heap.size, 0, none⟩ 1 1 [.int .i64 (k : Int)] rfl rfl ?c1 ?c2 ?c3 ?c4 ?c5 ?_)
        case c1 => exact cell_one_new _ _ _
        case c2 => simp [Value.oneCell']
        case c3 => have := HL.out; unfold maxLen; omega
        case c4 => have := HL.out; omega
        case c5 => simp; omega
        intro v' w2 hown' hgrow _
        have HO := Lib.hid (Ints.snoc hown')
        have HW := Lib.hid (Ints.below HW1.out HB1.out _ hgrow)
        clear hown' hgrow
        go_wp2
        go_roundw
        case rel => exact ⟨k + 1, by omega, by go_num, by rw [HS.out, ints_snoc]; exact HO.out, HW.out⟩
        case measure => simp [intOf]; omega
      | false =>
        have HS := Lib.hid (spkL_f b m k hsp)
        have hc : Calls Try.prog 36 #[.slice (some ⟨g1, 0, none⟩) r c1, .int .i64 m] w1 fun e w'' => e = .returned (.bool false) ∧ w1 = w'' :=
          (l00Has_any (some ⟨g1, 0, none⟩) _ r c1 m w1 HRL.out HROW.out (by rw [← HRL.out]; exact HM2.out)).mono fun e w' h => by unfold spk at hsp; rw [hsp] at h; exact h
        have HC := Lib.hid hc
        clear hc hsp
        go_wp2_with fail
        refine HC.out.mono ?_; rintro e w' ⟨rfl, rfl⟩
        go_wp2
        go_roundw
        case rel => exact ⟨k + 1, by omega, by go_num, by rw [HS.out]; exact HB1.out, HW1.out⟩
        case measure => simp [intOf]; omega
    · obtain rfl : k = n := by omega
      go_wp2_with fail
      refine (ST.out _).mono ?_; rintro e w' ⟨rfl, rfl⟩
      go_wp2
      go_ret2
      exact ⟨_, rfl, HB.out, hB⟩
theorem specSpk_f (b m : Int) (w : World) (h : ¬ StateOk b m) :
    Calls Try.prog 7 #[.int .i64 b, .int .i64 m] w fun e w' => ∃ v, e = .returned (.tuple #[v, .bool false]) ∧ Ints w' w.heap.size v [] ∧ Below w.heap.size w w' := by
  have HH := Lib.hid h
  clear h
  go_enter Try.func7, Try.ntmps7
  go_wp2_with fail
  refine (l02State_f _ _ _ HH.out).mono ?_; rintro e w' ⟨rfl, rfl⟩
  go_wp2
  go_ret2
  exact ⟨_, rfl, Ints.nil _ _, Below.refl _ _⟩

set_option maxHeartbeats 2000000 in
set_option maxRecDepth 100000 in
theorem implSpk (b : Nat) (m : Int) (w : World) (h : StateOk (b : Int) m) :
    Calls Try.prog 8 #[.int .i64 (b : Int), .int .i64 m] w fun e w' => ∃ v, e = .returned (.tuple #[v, .bool true]) ∧ Ints w' w.heap.size v (ints (spkL b m (2 ^ b))) ∧ Below w.heap.size w w' := by
  obtain ⟨i0, hi, hz0, hz1, hz2⟩ := info_parts info_i64
  have hb1 : 1 ≤ b := by have := h.1; omega
  have hb2 : b ≤ 8 := by have := h.2.1; omega
  have hst : st (b : Int) = ((2 ^ b : Nat) : Int) := rfl
  have hsb := st_bd (b : Int) h.1 h.2.1
  obtain ⟨n, hn⟩ : ∃ n, 2 ^ b = n := ⟨_, rfl⟩
  rw [hst, hn] at hsb
  rw [hn] at hst ⊢
  have hn256 : n ≤ 256 := by omega
  have st2 : ∀ w, Calls Try.prog 38 #[.int .i64 (b : Int)] w fun e w' => e = .returned (.int .i64 (n : Int)) ∧ w = w' := fun w =>
    (states_any (b : Int) w (by omega) (by omega)).mono fun e w' h => by rw [hst] at h; exact h
  have ST := Lib.hid st2
  have HOK := Lib.hid h
  clear st2 hst hn h
  go_enter Try.func8, Try.ntmps8
  go_wp2_with fail
  refine (has_t _ _ _ HOK.out).mono ?_; rintro e w' ⟨rfl, rfl⟩
  go_wp2_with fail
  refine (ST.out _).mono ?_; rintro e w' ⟨rfl, rfl⟩
  go_wp2
  go_loopw [7, 8, 9, 17] (fun v _ _ x wr => ∃ k : Nat, k ≤ n ∧ x = .int .i64 (k : Int) ∧ Ints wr w.heap.size v (ints (spkL b m k)) ∧ Below w.heap.size w wr) (fun _ _ _ x _ => n - (intOf x).toNat)
  case atStart => exact ⟨0, Nat.zero_le _, rfl, Ints.nil w _, Below.refl _ _⟩
  case round =>
    obtain ⟨k, hk, rfl, hbuf, hB⟩ := hrel
    have HB := Lib.hid hbuf
    clear hbuf
    have hsz := hB.size
    have hL : (ints (spkL b m k)).length ≤ k := by rw [ints_len]; exact spkL_len b m k
    have HL := Lib.hid hL
    clear hL
    by_cases hlt : k < n
    · have hpos := ripGo_pos b k hb1
      have HPOS := Lib.hid hpos
      clear hpos
      go_wp2_with fail
      refine (implRipple b k _ hb2 (by omega)).mono ?_; rintro e w1 ⟨v1, rfl, i1, b1⟩
      obtain ⟨a1, c1, rfl, hm1, -⟩ := i1.form
      obtain ⟨hrow, -, hcap, -⟩ := i1.row
      have hcap := hcap (fun e => by have := HPOS.out; rw [e] at this; simp at this)
      have hrow := hrow.prefix
      obtain ⟨r, hr⟩ : ∃ r, (ints (ripGo b 0 k)).length = r + 1 := ⟨(ints (ripGo b 0 k)).length - 1, by have := HPOS.out; omega⟩
      rw [hr] at hcap hm1 ⊢
      have hrl : r = (ints (ripGo b 0 k)).dropLast.length := by rw [List.length_dropLast, hr]; omega
      obtain ⟨g1, ha1⟩ : ∃ g1, a1 = some ⟨g1, 0, none⟩ := by
        obtain ⟨a', cap', hv, _, hk'⟩ := i1.form
        simp only [Value.slice.injEq] at hv
        obtain ⟨rfl, -, -⟩ := hv
        obtain ⟨g, hg, _⟩ := hk' 0 (by have := HPOS.out; omega)
        exact ⟨g, hg⟩
      subst ha1
      have hsz1 := b1.size
      have HROW := Lib.hid hrow
      have HRL := Lib.hid hrl
      have HB1 := Lib.hid (HB.out.keep b1 (Nat.le_refl _))
      have HW1 := Lib.hid (hB.trans (b1.mono hsz))
      have hm2 : r ≤ maxLen := by omega
      unfold maxLen at hm1
      have HM2 := Lib.hid hm2
      clear hrow hrl hr i1 hm2
      cases hsp : spk b m k with
      | true =>
        have HS := Lib.hid (spkL_t b m k hsp)
        have hc : Calls Try.prog 40 #[.slice (some ⟨g1, 0, none⟩) r c1, .int .i64 m] w1 fun e w'' => e = .returned (.bool true) ∧ w1 = w'' :=
          (contains_any (some ⟨g1, 0, none⟩) _ r c1 m w1 HRL.out HROW.out (by rw [← HRL.out]; exact HM2.out)).mono fun e w' h => by unfold spk at hsp; rw [hsp] at h; exact h
        have HC := Lib.hid hc
        clear hc hsp
        go_wp2_with fail
        refine HC.out.mono ?_; rintro e w' ⟨rfl, rfl⟩
        go_wp2_with (at_builtin; refine wpList_append_own _ rfl _ _ 22 rfl w.heap.size 2 i0 (.int .i64 0) 1 8 Try.underlying22 hi hz0 hz1 hz2 rfl (by decide) _ _ _ rfl (HB1.out.alloc _) ⟨w1.heap.size, 0, none⟩ 1 1 [.int .i64 (k : Int)] rfl rfl ?c1 ?c2 ?c3 ?c4 ?c5 ?_)
        case c1 => exact cell_one_new _ _ _
        case c2 => simp [Value.oneCell']
        case c3 => have := HL.out; unfold maxLen; omega
        case c4 => have := HL.out; omega
        case c5 => simp; omega
        intro v' w2 hown' hgrow _
        have HO := Lib.hid (Ints.snoc hown')
        have HW := Lib.hid (Ints.below HW1.out HB1.out _ hgrow)
        clear hown' hgrow
        go_wp2
        go_roundw
        case rel => exact ⟨k + 1, by omega, by go_num, by rw [HS.out, ints_snoc]; exact HO.out, HW.out⟩
        case measure => simp [intOf]; omega
      | false =>
        have HS := Lib.hid (spkL_f b m k hsp)
        have hc : Calls Try.prog 40 #[.slice (some ⟨g1, 0, none⟩) r c1, .int .i64 m] w1 fun e w'' => e = .returned (.bool false) ∧ w1 = w'' :=
          (contains_any (some ⟨g1, 0, none⟩) _ r c1 m w1 HRL.out HROW.out (by rw [← HRL.out]; exact HM2.out)).mono fun e w' h => by unfold spk at hsp; rw [hsp] at h; exact h
        have HC := Lib.hid hc
        clear hc hsp
        go_wp2_with fail
        refine HC.out.mono ?_; rintro e w' ⟨rfl, rfl⟩
        go_wp2
        go_roundw
        case rel => exact ⟨k + 1, by omega, by go_num, by rw [HS.out]; exact HB1.out, HW1.out⟩
        case measure => simp [intOf]; omega
    · obtain rfl : k = n := by omega
      go_wp2
      go_ret2
      exact ⟨_, rfl, HB.out, hB⟩
theorem implSpk_f (b m : Int) (w : World) (h : ¬ StateOk b m) :
    Calls Try.prog 8 #[.int .i64 b, .int .i64 m] w fun e w' => ∃ v, e = .returned (.tuple #[v, .bool false]) ∧ Ints w' w.heap.size v [] ∧ Below w.heap.size w w' := by
  have HH := Lib.hid h
  clear h
  go_enter Try.func8, Try.ntmps8
  go_wp2_with fail
  refine (has_f _ _ _ HH.out).mono ?_; rintro e w' ⟨rfl, rfl⟩
  go_wp2
  go_ret2
  exact ⟨_, rfl, Ints.nil _ _, Below.refl _ _⟩

set_option maxHeartbeats 1000000 in
set_option maxRecDepth 100000 in
theorem walk_FnExactSpikesOf (b x : Int) (w : World) (_wb : (Lit.int .i64 b).wf = true) (_wx : (Lit.int .i64 x).wf = true) :
    Calls Try.prog 3 #[.int .i64 b, .int .i64 x] w fun e w' => e = .returned (.bool true) ∧ Below w.heap.size w w' := by
  obtain ⟨l, okb, hlen, hS, hI⟩ : ∃ (l : List Int) (okb : Bool), l.length ≤ 1048576 ∧ (∀ w, Calls Try.prog 7 #[.int .i64 b, .int .i64 x] w fun e W' => ∃ v, e = .returned (.tuple #[v, .bool okb]) ∧ Ints W' w.heap.size v l ∧ Below w.heap.size w W') ∧ (∀ w, Calls Try.prog 8 #[.int .i64 b, .int .i64 x] w fun e W' => ∃ v, e = .returned (.tuple #[v, .bool okb]) ∧ Ints W' w.heap.size v l ∧ Below w.heap.size w W') := by
    by_cases h : StateOk b x
    · obtain ⟨y, rfl⟩ := Int.eq_ofNat_of_zero_le (show 0 ≤ b by have := h.1; omega)
      have hp : 2 ^ y ≤ 256 := Nat.pow_le_pow_right (n := 2) (by omega) (show y ≤ 8 by have := h.2.1; omega)
      exact ⟨_, true, (by rw [ints_len]; have := spkL_len y x (2 ^ y); omega), fun w => specSpk y x w h, fun w => implSpk y x w h⟩
    · exact ⟨[], false, (by simp), fun w => specSpk_f b x w h, fun w => implSpk_f b x w h⟩
  have HS := Lib.hid hS
  have HI := Lib.hid hI
  clear hS hI
  go_enter Try.func3, Try.ntmps3
  go_wp2_with fail
  refine (HS.out _).mono ?_; rintro e w1 ⟨v0, rfl, i0, b1⟩
  go_wp2_with fail
  refine (HI.out _).mono ?_; rintro e w2 ⟨v1, rfl, i1, b2⟩
  have HI0 := Lib.hid i0
  have HI1 := Lib.hid i1
  clear i0 i1
  go_wp2_with fail
  refine (eqInts_same _ _ v1 v0 l _ HI1.out (HI0.out.keep b2 (Nat.le_refl _))).mono ?_; rintro e w' ⟨rfl, q, rfl⟩
  go_wp2_with fail
  refine (markInts _ v1 l 1 (w2.drewN q) HI1.out (by omega) (by omega)).mono ?_; rintro e w3 ⟨rfl, i3, b3, z3⟩
  have HI3 := Lib.hid i3
  have HZ := Lib.hid z3
  clear i3 z3
  go_wp2_with fail
  refine (heldInts _ v1 l.length 1 _ HI3.out (by omega) (by omega)).mono ?_; rintro e w' ⟨rfl, rfl⟩
  go_wp2_with fail
  refine (HI.out _).mono ?_; rintro e w4 ⟨v2, rfl, i4, b4⟩
  have HI4 := Lib.hid i4
  have B3 : Below w1.heap.size w2 w3 := ⟨b3.os, b3.tape, b3.output, b3.size, b3.block⟩
  have hs2 := b2.size
  have hs3 := B3.size
  have HI0' := Lib.hid ((HI0.out.keepLt (HI0.out.keep b2 (Nat.le_refl _)) B3 (Nat.le_refl _)).keep b4 (Nat.le_refl _))
  have HI3' := Lib.hid (HI3.out.keep b4 (Nat.le_refl _))
  clear i4 b3
  go_wp2_with fail
  refine (eqInts_same _ _ v2 v0 l _ HI4.out HI0'.out).mono ?_; rintro e w' ⟨rfl, q2, rfl⟩
  go_wp2_with fail
  refine (heldInts _ v1 l.length 1 (w4.drewN q2) HI3'.out (by omega) (by omega)).mono ?_; rintro e w' ⟨rfl, rfl⟩
  go_wp2
  go_ret
  have hs1 := b1.size
  have hfin := (((b1.trans (b2.mono hs1)).trans (B3.mono hs1)).trans (b4.mono (by omega)))
  exact ⟨rfl, ⟨hfin.os, hfin.tape, hfin.output, hfin.size, hfin.block⟩⟩
end Go.Proofs.Ytljbblfdaphjpac
