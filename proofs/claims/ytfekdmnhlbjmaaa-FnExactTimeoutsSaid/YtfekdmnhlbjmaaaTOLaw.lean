/- When a wave has not gone up for too long: the model's side, and the law's walk. -/
import Derived.Test.YtfekdmnhlbjmaaaTOut
import Derived.Test.YtfekdmnhlbjmaaaCWLaw
namespace Go.Proofs.Ytfekdmnhlbjmaaa
open Go.RowKit Go.Shelf
set_option linter.unusedVariables false
set_option linter.unusedSimpArgs false

def toK (s : ByteArray) (T : Nat) : Nat → List Int
  | 0 => []
  | k + 1 => if quietN (upB s) (k + 1) = T then toK s T k ++ [(k : Int)] else toK s T k
theorem toK_len (s : ByteArray) (T k : Nat) : (toK s T k).length ≤ k := by
  induction k with
  | zero => simp [toK]
  | succ k ih => rw [toK]; split <;> first | (simp; omega) | omega
theorem toK_eq (s : ByteArray) (T : Nat) (hT : 1 ≤ T) (k : Nat) : tmL (upsL s T k) = toK s T k ∧ ltL (upsL s T k) = decide (T ≤ quietN (upB s) k) := by
  induction k with
  | zero => exact ⟨rfl, by simp [quietN, upsL, ltL, stL]; omega⟩
  | succ k ih =>
    have hf := quiet_first (upB s) T k hT
    rw [toK]
    by_cases h : T ≤ k + 1
    · have hl := quiet_last (upB s) T (k + 1) hT h
      have hz : ((((lastC (upB s) T (k + 1) : Nat) : Int) == 0) : Bool) = decide (T ≤ quietN (upB s) (k + 1)) := by
        rw [← hl, Bool.eq_iff_iff]; simp
      rw [upsL_hit s T k h, tmL_snoc, ltL_snoc, ih.1, ih.2]
      dsimp only
      rw [hz]
      refine ⟨?_, rfl⟩
      by_cases hq : quietN (upB s) (k + 1) = T
      · rw [if_pos hq]
        rw [show (quietN (upB s) (k + 1) == T) = true from by simp [hq]] at hf
        rw [← hf, if_pos rfl]
        congr 2; omega
      · rw [if_neg hq]
        rw [show (quietN (upB s) (k + 1) == T) = false from by simp [hq]] at hf
        rw [← hf]; rfl
    · have hle := quietN_le (upB s) (k + 1)
      have hle2 := quietN_le (upB s) k
      rw [upsL_miss s T k h, if_neg (by omega)]
      exact ⟨ih.1, by rw [ih.2, decide_eq_false (show ¬ T ≤ quietN (upB s) k by omega), decide_eq_false (show ¬ T ≤ quietN (upB s) (k + 1) by omega)]⟩
set_option maxHeartbeats 4000000 in
set_option maxRecDepth 100000 in
theorem specTO_t (s : ByteArray) (T : Nat) (w : World) (hs : s.size ≤ maxLen) (hc : canB s (T : Int) = true) :
    Calls Try.prog 36 #[.string s, .int .i64 (T : Int)] w fun e W' => ∃ v, e = .returned (.tuple #[v, .bool true]) ∧ Ints W' w.heap.size v (tmL (upsL s T s.size)) ∧ Below w.heap.size w W' := by
  obtain ⟨hw, hT1, hT2⟩ := canB_t hc
  have hz := wave_le hw
  have HWV := Lib.hid hw
  rw [(toK_eq s T (by omega) s.size).1]
  have HF := Lib.hid (fun w => l09F_any s (T : Int) w hs)
  rw [hc] at HF
  obtain ⟨i0, hi, hz0, hz1, hz2⟩ := info_parts info_i64
  clear hw hc
  go_enter Try.func36, Try.ntmps36
  go_wp2_with fail
  refine (HF.out _).mono ?_; rintro e w1 ⟨rfl, rfl⟩
  go_wp2
  go_loopw [6, 7, 8] (fun v qv i wr => ∃ k q : Nat, k ≤ s.size ∧ i = .int .i64 k ∧ qv = .int .i64 q ∧ Hid (q = quietN (upB s) k) ∧ Hid (Ints wr w.heap.size v (toK s T k)) ∧ Hid (Below w.heap.size w wr)) (fun _ _ i _ => s.size - (intOf i).toNat)
  case atStart => exact ⟨0, 0, Nat.zero_le _, rfl, rfl, rfl, Lib.hid (Ints.lit w), Lib.hid ((Below.refl _ _).alloc (Nat.le_refl _) _)⟩
  case round =>
    obtain ⟨k, q, hk, rfl, rfl, HQ, HBU, HB⟩ := hrel
    by_cases hlt : k < s.size
    · have hlen := toK_len s T k
      have hsz := HB.out.size
      have hqle : q ≤ k := by rw [HQ.out]; exact quietN_le _ _
      have e0 := bit_at s k hlt
      have hwq : IntKind.i64.wrap ((q : Int) + 1) = ((q + 1 : Nat) : Int) := by rw [IntWalk.i64_in _ (by omega)]; omega
      cases hx : bit s k with
      | false =>
        rw [hx] at e0
        have hup : upB s k = false := by simp [upB, hx]
        clear hx
        by_cases hqT : q + 1 = T
        · have hq2 : quietN (upB s) (k + 1) = q + 1 := by rw [quietN, hup, HQ.out]; rfl
          have HQ2 := Lib.hid hq2
          have HS : Hid (toK s T (k + 1) = toK s T k ++ [(k : Int)]) := by show _ = _; rw [toK, hq2, if_pos hqT]
          have ht0 : (((q + 1 : Nat) : Int) == (T : Int)) = true := by rw [hqT]; simp
          have ht1 : ((q : Int) + 1 == (T : Int)) = true := by simp; omega
          clear hq2 hup HQ hqT
          go_wp2_with (at_builtin; refine wpList_append_own _ rfl _ _ 41 rfl w.heap.size 2 i0 (.int .i64 0) 1 8 Try.underlying41 hi hz0 hz1 hz2 rfl (by decide) _ _ _ rfl (HBU.out.alloc _) ⟨wr.heap.size, 0, none⟩ 1 1 [.int .i64 (k : Int)] rfl rfl ?g1 ?g2 ?g3 ?g4 ?g5 ?_)
          case g1 => exact cell_one_atC _ _ _ _ (by first | rfl | simp)
          case g2 => simp [Value.oneCell']
          case g3 => unfold maxLen; omega
          case g4 => omega
          case g5 => first | omega | (simp; omega)
          intro v' w7 hown' hgrow _
          have HO := Lib.hid (Ints.snoc hown')
          have HW7 := Lib.hid (ints_belowC HB.out (by omega) HBU.out _ hgrow)
          clear hown' hgrow
          go_wp2
          go_roundw
          case rel => exact ⟨k + 1, q + 1, by omega, by go_num, by go_num, HQ2.out.symm, by rw [HS.out]; exact HO, HW7⟩
          case measure => simp [intOf]; omega
        · have hq2 : quietN (upB s) (k + 1) = q + 1 := by rw [quietN, hup, HQ.out]; rfl
          have HQ2 := Lib.hid hq2
          have HS : Hid (toK s T (k + 1) = toK s T k) := by show _ = _; rw [toK, hq2, if_neg hqT]
          have ht0 : (((q + 1 : Nat) : Int) == (T : Int)) = false := by simp; omega
          have ht1 : ((q : Int) + 1 == (T : Int)) = false := by simp; omega
          clear hq2 hup HQ
          go_wp2
          go_roundw
          case rel => exact ⟨k + 1, q + 1, by omega, by go_num, by go_num, HQ2.out.symm, by rw [HS.out]; exact HBU, HB⟩
          case measure => simp [intOf]; omega
      | true =>
        rw [hx] at e0
        by_cases hk0 : k = 0
        · have h0 : ((k : Int) == 0) = true := by simp [hk0]
          have hup : upB s k = true := by unfold upB; rw [hx, show decide (0 < k) = false from by simp [hk0]]; rfl
          clear hx hk0
          have hq2 : quietN (upB s) (k + 1) = 0 := by rw [quietN, hup]; rfl
          have HS : Hid (toK s T (k + 1) = toK s T k) := by show _ = _; rw [toK, hq2, if_neg (by omega)]
          have HQ2 := Lib.hid hq2
          have ht0 : ((0 : Int) == (T : Int)) = false := by simp; omega
          clear hq2 hup HQ
          go_wp2
          go_roundw
          case rel => exact ⟨k + 1, 0, by omega, by go_num, rfl, HQ2.out.symm, by rw [HS.out]; exact HBU, HB⟩
          case measure => simp [intOf]; omega
        · obtain ⟨j, hj⟩ : ∃ j, k - 1 = j := ⟨_, rfl⟩
          have h0 : ((k : Int) == 0) = false := by simp [hk0]
          have hwj : IntKind.i64.wrap ((k : Int) - 1) = (j : Int) := by rw [IntWalk.i64_in _ (by omega)]; omega
          have hjs : j < s.size := by omega
          have hjI : (k : Int) - 1 = (j : Int) := by omega
          have ewj := wave_at HWV.out j hjs
          cases hp : bit s j with
          | true =>
            have ej : ((s[j].toNat : Int) == 48) = false := by rw [ewj, hp]; rfl
            have hup : upB s k = false := by unfold upB; rw [hj, hp, hx]; simp; omega
            clear hx hp hj ewj
            by_cases hqT : q + 1 = T
            · have hq2 : quietN (upB s) (k + 1) = q + 1 := by rw [quietN, hup, HQ.out]; rfl
              have HQ2 := Lib.hid hq2
              have HS : Hid (toK s T (k + 1) = toK s T k ++ [(k : Int)]) := by show _ = _; rw [toK, hq2, if_pos hqT]
              have ht0 : (((q + 1 : Nat) : Int) == (T : Int)) = true := by rw [hqT]; simp
              have ht1 : ((q : Int) + 1 == (T : Int)) = true := by simp; omega
              clear hq2 hup HQ hqT
              go_wp2_with (at_builtin; refine wpList_append_own _ rfl _ _ 41 rfl w.heap.size 2 i0 (.int .i64 0) 1 8 Try.underlying41 hi hz0 hz1 hz2 rfl (by decide) _ _ _ rfl (HBU.out.alloc _) ⟨wr.heap.size, 0, none⟩ 1 1 [.int .i64 (k : Int)] rfl rfl ?i1 ?i2 ?i3 ?i4 ?i5 ?_)
              case i1 => exact cell_one_atC _ _ _ _ (by first | rfl | simp)
              case i2 => simp [Value.oneCell']
              case i3 => unfold maxLen; omega
              case i4 => omega
              case i5 => first | omega | (simp; omega)
              intro v' w7 hown' hgrow _
              have HO := Lib.hid (Ints.snoc hown')
              have HW7 := Lib.hid (ints_belowC HB.out (by omega) HBU.out _ hgrow)
              clear hown' hgrow
              go_wp2
              go_roundw
              case rel => exact ⟨k + 1, q + 1, by omega, by go_num, by go_num, HQ2.out.symm, by rw [HS.out]; exact HO, HW7⟩
              case measure => simp [intOf]; omega
            · have hq2 : quietN (upB s) (k + 1) = q + 1 := by rw [quietN, hup, HQ.out]; rfl
              have HQ2 := Lib.hid hq2
              have HS : Hid (toK s T (k + 1) = toK s T k) := by show _ = _; rw [toK, hq2, if_neg hqT]
              have ht0 : (((q + 1 : Nat) : Int) == (T : Int)) = false := by simp; omega
              have ht1 : ((q : Int) + 1 == (T : Int)) = false := by simp; omega
              clear hq2 hup HQ
              go_wp2
              go_roundw
              case rel => exact ⟨k + 1, q + 1, by omega, by go_num, by go_num, HQ2.out.symm, by rw [HS.out]; exact HBU, HB⟩
              case measure => simp [intOf]; omega
          | false =>
            have ej : ((s[j].toNat : Int) == 48) = true := by rw [ewj, hp]; rfl
            have hup : upB s k = true := by unfold upB; rw [hj, hp, hx]; simp
            clear hx hp hj ewj
            have hq2 : quietN (upB s) (k + 1) = 0 := by rw [quietN, hup]; rfl
            have HS : Hid (toK s T (k + 1) = toK s T k) := by show _ = _; rw [toK, hq2, if_neg (by omega)]
            have HQ2 := Lib.hid hq2
            have ht0 : ((0 : Int) == (T : Int)) = false := by simp; omega
            clear hq2 hup HQ
            go_wp2
            go_roundw
            case rel => exact ⟨k + 1, 0, by omega, by go_num, rfl, HQ2.out.symm, by rw [HS.out]; exact HBU, HB⟩
            case measure => simp [intOf]; omega
    · obtain rfl : k = s.size := by omega
      go_wp2
      go_ret2
      exact ⟨_, rfl, HBU.out, HB.out⟩
theorem specTO_f (s : ByteArray) (T : Int) (w : World) (hs : s.size ≤ maxLen) (hc : canB s T = false) :
    Calls Try.prog 36 #[.string s, .int .i64 T] w fun e W' => ∃ v, e = .returned (.tuple #[v, .bool false]) ∧ Ints W' w.heap.size v [] ∧ Below w.heap.size w W' := by
  have HF := Lib.hid (fun w => l09F_any s T w hs)
  rw [hc] at HF
  go_enter Try.func36, Try.ntmps36
  go_wp2_with fail
  refine (HF.out _).mono ?_; rintro e w1 ⟨rfl, rfl⟩
  go_wp2
  go_ret2
  exact ⟨_, rfl, Ints.nil _ _, Below.refl _ _⟩
theorem implTO_f (s : ByteArray) (T : Int) (w : World) (hs : s.size ≤ maxLen) (hc : canB s T = false) :
    Calls Try.prog 37 #[.string s, .int .i64 T] w fun e W' => ∃ v, e = .returned (.tuple #[v, .bool false]) ∧ Ints W' w.heap.size v [] ∧ Below w.heap.size w W' := by
  have HC := Lib.hid (fun w => canF_any s T w hs)
  rw [hc] at HC
  go_enter Try.func37, Try.ntmps37
  go_wp2_with fail
  refine (HC.out _).mono ?_; rintro e w1 ⟨rfl, b1⟩
  have HB1 := Lib.hid b1
  clear b1
  go_wp2
  go_ret2
  refine ⟨_, rfl, Ints.nil _ _, ?_⟩
  first | exact HB1.out | exact ((Below.refl w.heap.size w).alloc (Nat.le_refl _) _).trans (HB1.out.mono (by simp))
theorem to_ex (c : Int) (s : ByteArray) (hs : s.size ≤ maxLen) : ∃ (l : List Int) (b : Bool), l.length ≤ 1048576 ∧
    (∀ w, Calls Try.prog 36 #[.string s, .int .i64 c] w fun e W' => ∃ v, e = .returned (.tuple #[v, .bool b]) ∧ Ints W' w.heap.size v l ∧ Below w.heap.size w W') ∧
    (∀ w, Calls Try.prog 37 #[.string s, .int .i64 c] w fun e W' => ∃ v, e = .returned (.tuple #[v, .bool b]) ∧ Ints W' w.heap.size v l ∧ Below w.heap.size w W') := by
  cases hc : canB s c with
  | false => exact ⟨[], false, Nat.zero_le _, fun w => specTO_f s c w hs hc, fun w => implTO_f s c w hs hc⟩
  | true =>
    obtain ⟨n, rfl⟩ := fraw c (canB_t hc).2
    have hz := wave_le (canB_t hc).1
    exact ⟨_, true, by rw [(toK_eq s n (by have := (canB_t hc).2.1; omega) s.size).1]; have := toK_len s n s.size; omega, fun w => specTO_t s n w hs hc, fun w => callsIn_wide (n := 5).1 (implTO_in 5 (Nat.le_refl _) s n w hs hc)⟩
set_option maxHeartbeats 1000000 in
set_option maxRecDepth 100000 in
theorem walk_FnExactTimeouts (s : ByteArray) (c : Int) (w : World) (hs : s.size ≤ maxLen) (_w0 : (Lit.int .i64 c).wf = true) :
    Calls Try.prog 12 #[.string s, .int .i64 c] w fun e w' => e = .returned (.bool true) ∧ Below w.heap.size w w' := by
  by_cases hl : (s.size : Int) ≤ 1048576
  · obtain ⟨l, b, hlen, hS, hI⟩ : ∃ (l : List Int) (b : Bool), l.length ≤ 1048576 ∧ (∀ w, Calls Try.prog 36 #[.string s, .int .i64 c] w fun e W' => ∃ v, e = .returned (.tuple #[v, .bool b]) ∧ Ints W' w.heap.size v l ∧ Below w.heap.size w W') ∧ (∀ w, Calls Try.prog 37 #[.string s, .int .i64 c] w fun e W' => ∃ v, e = .returned (.tuple #[v, .bool b]) ∧ Ints W' w.heap.size v l ∧ Below w.heap.size w W') := by
      obtain ⟨l, b, hl2, h1, h2⟩ := to_ex c s hs
      exact ⟨l, b, hl2, h1, h2⟩
    have HS := Lib.hid hS
    have HI := Lib.hid hI
    clear hS hI
    go_enter Try.func12, Try.ntmps12
    go_wp2_with fail
    refine (HS.out _).mono ?_; rintro e w1 ⟨v0, rfl, i0, b1⟩
    go_wp2_with fail
    refine (HI.out _).mono ?_; rintro e w2 ⟨v1, rfl, i1, b2⟩
    have HI0 := Lib.hid i0
    have HI1 := Lib.hid i1
    clear i0 i1
    go_wp2_with fail
    refine (eqInts_same _ _ v1 v0 l _ HI1.out (HI0.out.keep b2 (Nat.le_refl _))).mono ?_; rintro e w' ⟨rfl, q, rfl⟩
    go_wp2_with fail
    refine (markInts _ v1 l 1 (w2.drewN q) HI1.out (by omega) (by omega)).mono ?_; rintro e w3 ⟨rfl, i3, b3, z3⟩
    have HI3 := Lib.hid i3
    have HZ := Lib.hid z3
    clear i3 z3
    go_wp2_with fail
    refine (heldInts _ v1 l.length 1 _ HI3.out (by omega) (by omega)).mono ?_; rintro e w' ⟨rfl, rfl⟩
    go_wp2_with fail
    refine (HI.out _).mono ?_; rintro e w4 ⟨v2, rfl, i4, b4⟩
    have HI4 := Lib.hid i4
    have B3 : Below w1.heap.size w2 w3 := ⟨b3.os, b3.tape, b3.output, b3.size, b3.block⟩
    have hs2 := b2.size
    have hs3 := B3.size
    have HI0' := Lib.hid ((HI0.out.keepLt (HI0.out.keep b2 (Nat.le_refl _)) B3 (Nat.le_refl _)).keep b4 (Nat.le_refl _))
    have HI3' := Lib.hid (HI3.out.keep b4 (Nat.le_refl _))
    clear i4 b3
    go_wp2_with fail
    refine (eqInts_same _ _ v2 v0 l _ HI4.out HI0'.out).mono ?_; rintro e w' ⟨rfl, q2, rfl⟩
    go_wp2_with fail
    refine (heldInts _ v1 l.length 1 (w4.drewN q2) HI3'.out (by omega) (by omega)).mono ?_; rintro e w' ⟨rfl, rfl⟩
    go_wp2
    go_ret
    have hs1 := b1.size
    have hfin := (((b1.trans (b2.mono hs1)).trans (B3.mono hs1)).trans (b4.mono (by omega)))
    exact ⟨rfl, ⟨hfin.os, hfin.tape, hfin.output, hfin.size, hfin.block⟩⟩
  · go_enter Try.func12, Try.ntmps12
    go_wp2
    go_ret
    exact ⟨rfl, Below.refl _ _⟩
end Go.Proofs.Ytfekdmnhlbjmaaa
