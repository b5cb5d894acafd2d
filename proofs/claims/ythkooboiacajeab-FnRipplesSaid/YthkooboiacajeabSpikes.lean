/- The states from which a ripple goes through a state, on both sides; the walk of the law. -/
import Derived.Test.YthkooboiacajeabRipCore
import Derived.Test.YthkooboiacajeabHas
namespace Go.Proofs.Ythkooboiacajeab
open Go.RowKit

def spk (b : Nat) (m : Int) (x : Nat) : Bool := hasB (ints (ripGo b 0 x)).dropLast m
def spkL (b : Nat) (m : Int) (k : Nat) : List Nat := (List.range k).filter (spk b m)
theorem spkL_t (b : Nat) (m : Int) (k : Nat) (h : spk b m k = true) : spkL b m (k + 1) = spkL b m k ++ [k] := by simp [spkL, List.range_succ, h]
theorem spkL_f (b : Nat) (m : Int) (k : Nat) (h : spk b m k = false) : spkL b m (k + 1) = spkL b m k := by simp [spkL, List.range_succ, h]
theorem spkL_len (b : Nat) (m : Int) (k : Nat) : (spkL b m k).length ≤ k := by
  have := List.length_filter_le (spk b m) (List.range k); simpa [spkL] using this
theorem ripGo_pos (b x : Nat) (hb : 1 ≤ b) : 0 < (ints (ripGo b 0 x)).length := by
  obtain ⟨f, rfl⟩ : ∃ f, b = f + 1 := ⟨b - 1, by omega⟩
  simp [ints, ripGo]

set_option maxHeartbeats 2000000 in
set_option maxRecDepth 100000 in
theorem implSpk (b : Nat) (m : Int) (w : World) (h : StateOk (b : Int) m) :
    Calls Try.prog 8 #[.int .i64 (b : Int), .int .i64 m] w fun e w' => ∃ v, e = .returned (.tuple #[v, .bool true]) ∧ Ints w' w.heap.size v (ints (spkL b m (2 ^ b))) ∧ Below w.heap.size w w' := by
  obtain ⟨i0, hi, hz0, hz1, hz2⟩ := info_parts info_i64
  have hb1 : 1 ≤ b := by have := h.1; omega
  have hb2 : b ≤ 8 := by have := h.2.1; omega
  have hst : st (b : Int) = ((2 ^ b : Nat) : Int) := rfl
  have hsb := st_bd (b : Int) h.1 h.2.1
  obtain ⟨n, hn⟩ : ∃ n, 2 ^ b = n := ⟨_, rfl⟩
  rw [hst, hn] at hsb
  rw [hn] at hst ⊢
  have hn256 : n ≤ 256 := by omega
  have st2 : ∀ w, Calls Try.prog 14 #[.int .i64 (b : Int)] w fun e w' => e = .returned (.int .i64 (n : Int)) ∧ w = w' := fun w =>
    (states_any (b : Int) w (by omega) (by omega)).mono fun e w' h => by rw [hst] at h; exact h
  have ST := Lib.hid st2
  have HOK := Lib.hid h
  clear st2 hst hn h
  go_enter Try.func8, Try.ntmps8
  go_wp2_with fail
  refine (has_t _ _ _ HOK.out).mono ?_; rintro e w' ⟨rfl, rfl⟩
  go_wp2_with fail
  refine (ST.out _).mono ?_; rintro e w' ⟨rfl, rfl⟩
  go_wp2
  go_loopw [7, 8, 9, 17] (fun v _ _ x wr => ∃ k : Nat, k ≤ n ∧ x = .int .i64 (k : Int) ∧ Ints wr w.heap.size v (ints (spkL b m k)) ∧ Below w.heap.size w wr) (fun _ _ _ x _ => n - (intOf x).toNat)
  case atStart => exact ⟨0, Nat.zero_le _, rfl, Ints.nil w _, Below.refl _ _⟩
  case round =>
    obtain ⟨k, hk, rfl, hbuf, hB⟩ := hrel
    have HB := Lib.hid hbuf
    clear hbuf
    have hsz := hB.size
    have hL : (ints (spkL b m k)).length ≤ k := by rw [ints_len]; exact spkL_len b m k
    have HL := Lib.hid hL
    clear hL
    by_cases hlt : k < n
    · have hpos := ripGo_pos b k hb1
      have HPOS := Lib.hid hpos
      clear hpos
      go_wp2_with fail
      refine (implRipple b k _ hb2 (by omega)).mono ?_; rintro e w1 ⟨v1, rfl, i1, b1⟩
      obtain ⟨a1, c1, rfl, hm1, -⟩ := i1.form
      obtain ⟨hrow, -, hcap, -⟩ := i1.row
      have hcap := hcap (fun e => by have := HPOS.out; rw [e] at this; simp at this)
      have hrow := hrow.prefix
      obtain ⟨r, hr⟩ : ∃ r, (ints (ripGo b 0 k)).length = r + 1 := ⟨(ints (ripGo b 0 k)).length - 1, by have := HPOS.out; omega⟩
      rw [hr] at hcap hm1 ⊢
      have hrl : r = (ints (ripGo b 0 k)).dropLast.length := by rw [List.length_dropLast, hr]; omega
      obtain ⟨g1, ha1⟩ : ∃ g1, a1 = some ⟨g1, 0, none⟩ := by
        obtain ⟨a', cap', hv, _, hk'⟩ := i1.form
        simp only [Value.slice.injEq] at hv
        obtain ⟨rfl, -, -⟩ := hv
        obtain ⟨g, hg, _⟩ := hk' 0 (by have := HPOS.out; omega)
        exact ⟨g, hg⟩
      subst ha1
      have hsz1 := b1.size
      have HROW := Lib.hid hrow
      have HRL := Lib.hid hrl
      have HB1 := Lib.hid (HB.out.keep b1 (Nat.le_refl _))
      have HW1 := Lib.hid (hB.trans (b1.mono hsz))
      have hm2 : r ≤ maxLen := by omega
      unfold maxLen at hm1
      have HM2 := Lib.hid hm2
      clear hrow hrl hr i1 hm2
      cases hsp : spk b m k with
      | true =>
        have HS := Lib.hid (spkL_t b m k hsp)
        have hc : Calls Try.prog 15 #[.slice (some ⟨g1, 0, none⟩) r c1, .int .i64 m] w1 fun e w'' => e = .returned (.bool true) ∧ w1 = w'' :=
          (contains_any (some ⟨g1, 0, none⟩) _ r c1 m w1 HRL.out HROW.out (by rw [← HRL.out]; exact HM2.out)).mono fun e w' h => by unfold spk at hsp; rw [hsp] at h; exact h
        have HC := Lib.hid hc
        clear hc hsp
        go_wp2_with fail
        refine HC.out.mono ?_; rintro e w' ⟨rfl, rfl⟩
        go_wp2_with (at_builtin; refine wpList_append_own _ rfl _ _ 26 rfl w.heap.size 2 i0 (.int .i64 0) 1 8 Try.underlying26 hi hz0 hz1 hz2 rfl (by decide) _ _ _ rfl (HB1.out.alloc _) ⟨w1.heap.size, 0, none⟩ 1 1 [.int .i64 (k : Int)] rfl rfl ?c1 ?c2 ?c3 ?c4 ?c5 ?_)
        case c1 => exact cell_one_new _ _ _
        case c2 => simp [Value.oneCell']
        case c3 => have := HL.out; unfold maxLen; omega
        case c4 => have := HL.out; omega
        case c5 => simp; omega
        intro v' w2 hown' hgrow _
        have HO := Lib.hid (Ints.snoc hown')
        have HW := Lib.hid (Ints.below HW1.out HB1.out _ hgrow)
        clear hown' hgrow
        go_wp2
        go_roundw
        case rel => exact ⟨k + 1, by omega, by go_num, by rw [HS.out, ints_snoc]; exact HO.out, HW.out⟩
        case measure => simp [intOf]; omega
      | false =>
        have HS := Lib.hid (spkL_f b m k hsp)
        have hc : Calls Try.prog 15 #[.slice (some ⟨g1, 0, none⟩) r c1, .int .i64 m] w1 fun e w'' => e = .returned (.bool false) ∧ w1 = w'' :=
          (contains_any (some ⟨g1, 0, none⟩) _ r c1 m w1 HRL.out HROW.out (by rw [← HRL.out]; exact HM2.out)).mono fun e w' h => by unfold spk at hsp; rw [hsp] at h; exact h
        have HC := Lib.hid hc
        clear hc hsp
        go_wp2_with fail
        refine HC.out.mono ?_; rintro e w' ⟨rfl, rfl⟩
        go_wp2
        go_roundw
        case rel => exact ⟨k + 1, by omega, by go_num, by rw [HS.out]; exact HB1.out, HW1.out⟩
        case measure => simp [intOf]; omega
    · obtain rfl : k = n := by omega
      go_wp2
      go_ret2
      exact ⟨_, rfl, HB.out, hB⟩
theorem implSpk_f (b m : Int) (w : World) (h : ¬ StateOk b m) :
    Calls Try.prog 8 #[.int .i64 b, .int .i64 m] w fun e w' => ∃ v, e = .returned (.tuple #[v, .bool false]) ∧ Ints w' w.heap.size v [] ∧ Below w.heap.size w w' := by
  have HH := Lib.hid h
  clear h
  go_enter Try.func8, Try.ntmps8
  go_wp2_with fail
  refine (has_f _ _ _ HH.out).mono ?_; rintro e w' ⟨rfl, rfl⟩
  go_wp2
  go_ret2
  exact ⟨_, rfl, Ints.nil _ _, Below.refl _ _⟩

end Go.Proofs.Ythkooboiacajeab
