/- A reset that ends with a clock: both sides and the law's walk. -/
import Derived.Test.YtmhbgpappjfolaaReset
namespace Go.Proofs.Ytmhbgpappjfolaa
open Go.RowKit Go.Shelf
set_option linter.unusedVariables false

def prv (a : ByteArray) (k : Nat) : Bool := decide (0 < k) && bit a (k - 1)
theorem prv_succ (a : ByteArray) (k : Nat) : prv a (k + 1) = bit a k := by simp [prv]
theorem rst_next (a r : ByteArray) (st k : Nat) : rst a r st (k + 1) = relNext (prv a k) (bit a k) (bit r k) st (rst a r st k) := by
  show (if bit r k then st else if upB a k && decide (0 < rst a r st k) then rst a r st k - 1 else rst a r st k) = _
  unfold relNext upB prv
  rw [Bool.and_comm (bit a k)]
set_option maxHeartbeats 2000000 in
set_option maxRecDepth 100000 in
theorem implReset_t (a b : ByteArray) (st : Nat) (w : World) (hs : a.size ≤ maxLen) (hs' : b.size ≤ maxLen) (h : are2B a b = true) (hs1 : 1 ≤ st) (hs4 : st ≤ 4) :
    Calls Try.prog 47 #[.string a, .string b, .int .i64 (st : Int)] w fun e w' => e = .returned (.tuple #[.string (outS (resetF a b st) a.size), .bool true]) ∧ Below w.heap.size w w' := by
  obtain ⟨h1, h2, h4⟩ := (are2B_iff a b).1 h
  have h400 := wave_le h1
  have hle := Nat.le_of_eq h4.symm
  have HA := Lib.hid h
  clear h h1 h2 h4
  go_enter Try.func47, Try.ntmps47
  go_wp2_with fail
  refine (are2_any _ _ a b _ hs hs' (by simp) (by simp [go_sem]) (by simp [go_sem])).mono ?_
  rw [HA.out]
  rintro e w1 ⟨rfl, b1⟩
  have HB1 := Lib.hid (((Below.refl w.heap.size w).alloc (Nat.le_refl _) (.cells #[.string a, .string b] 9)).trans (b1.mono (by simp)))
  clear b1
  have hz1 := HB1.out.size
  go_wp2_with fail
  refine (within_i64_t _ _ _ _ (by omega) (by omega)).mono ?_; rintro e w' ⟨rfl, rfl⟩
  obtain ⟨w2, hw2⟩ : ∃ w2, w1.alloc (.cells #[.bool false, .int .i64 (st : Int), .int .i64 (st : Int)] 106) = w2 := ⟨_, rfl⟩
  have hb2 : Below w.heap.size w w2 := by rw [← hw2]; exact HB1.out.alloc hz1 _
  have hsz2 : w1.heap.size < w2.heap.size := by rw [← hw2]; simp
  have hR2 : RelAt w2 w1.heap.size (prv a 0) st (rst a b st 0) := by
    rw [← hw2]
    exact ⟨by simp [go_sem, prv], by simp [go_sem], by simp [go_sem, rst], by simp [go_sem], by simp [go_sem]⟩
  have HG := Lib.hid (joined_any a b 79 #[.pointer (some ⟨w1.heap.size, 0, none⟩)] #[] (enters_of Try.func79 (by kernel_rfl) rfl) (resetF a b st) (fun k W => RelAt W w1.heap.size (prv a k) st (rst a b st k)) w1.heap.size w2 hle h400 (Nat.le_of_lt hsz2)
    (fun k W hk hW hJ => (show Calls Try.prog 79 #[.pointer (some ⟨w1.heap.size, 0, none⟩), .bool (bit a k), .bool (bit b k)] W _ from (isOn_any w1.heap.size st (rst a b st k) (prv a k) (bit a k) (bit b k) W hs1 hs4 (rst_le a b st k) hJ).mono (fun e w' h => by
      obtain ⟨rfl, hR, hg⟩ := h
      refine ⟨by unfold resetF; rw [rst_next], by rw [rst_next, prv_succ]; exact hR, ⟨hg.os, hg.tape, hg.output, hg.size, fun k2 hk2 => hg.block k2 (Nat.lt_trans hk2 (Nat.lt_trans hsz2 hW)) (by intro e; cases e; omega)⟩, hg.size, fun k2 hk2 hlt => hg.block k2 hlt (by intro e; cases e; omega)⟩)))
    (fun k W W' hJ hb => hJ.below hb hsz2) hR2)
  have HB2 := Lib.hid hb2
  clear hb2 hR2
  go_wp2_with fail
  refine HG.out.mono ?_
  rintro e w3 ⟨rfl, -, b3⟩
  have HB3 := Lib.hid (HB2.out.trans (b3.mono hz1))
  clear b3 HG
  go_wp2
  go_ret2
  exact ⟨rfl, HB3.out⟩
set_option maxHeartbeats 1000000 in
set_option maxRecDepth 100000 in
theorem implReset_f (a b : ByteArray) (st : Int) (w : World) (hs : a.size ≤ maxLen) (hs' : b.size ≤ maxLen) (h : are2B a b = false) :
    Calls Try.prog 47 #[.string a, .string b, .int .i64 st] w fun e w' => e = .returned (.tuple #[.string ⟨#[]⟩, .bool false]) ∧ Below w.heap.size w w' := by
  have HA := Lib.hid h
  clear h
  go_enter Try.func47, Try.ntmps47
  go_wp2_with fail
  refine (are2_any _ _ a b _ hs hs' (by simp) (by simp [go_sem]) (by simp [go_sem])).mono ?_
  rw [HA.out]
  rintro e w1 ⟨rfl, b1⟩
  have HB1 := Lib.hid (((Below.refl w.heap.size w).alloc (Nat.le_refl _) (.cells #[.string a, .string b] 9)).trans (b1.mono (by simp)))
  clear b1
  go_wp2
  go_ret2
  exact ⟨rfl, HB1.out⟩
set_option maxHeartbeats 1000000 in
set_option maxRecDepth 100000 in
theorem implReset_g (a b : ByteArray) (st : Int) (w : World) (hs : a.size ≤ maxLen) (hs' : b.size ≤ maxLen) (h : are2B a b = true) (hst : st < 1 ∨ 4 < st) :
    Calls Try.prog 47 #[.string a, .string b, .int .i64 st] w fun e w' => e = .returned (.tuple #[.string ⟨#[]⟩, .bool false]) ∧ Below w.heap.size w w' := by
  have HA := Lib.hid h
  clear h
  go_enter Try.func47, Try.ntmps47
  go_wp2_with fail
  refine (are2_any _ _ a b _ hs hs' (by simp) (by simp [go_sem]) (by simp [go_sem])).mono ?_
  rw [HA.out]
  rintro e w1 ⟨rfl, b1⟩
  have HB1 := Lib.hid (((Below.refl w.heap.size w).alloc (Nat.le_refl _) (.cells #[.string a, .string b] 9)).trans (b1.mono (by simp)))
  clear b1
  go_wp2_with fail
  refine (within_i64_f _ _ _ _ hst).mono ?_; rintro e w' ⟨rfl, rfl⟩
  go_wp2
  go_ret2
  exact ⟨rfl, HB1.out⟩
set_option maxHeartbeats 4000000 in
set_option maxRecDepth 100000 in
theorem specReset_t (a b : ByteArray) (st : Nat) (w : World) (hs : a.size ≤ maxLen) (hs' : b.size ≤ maxLen) (h : are2B a b = true) (hs1 : 1 ≤ st) (hs4 : st ≤ 4) :
    Calls Try.prog 46 #[.string a, .string b, .int .i64 (st : Int)] w fun e w' => e = .returned (.tuple #[.string (outS (resetF a b st) a.size), .bool true]) ∧ Below w.heap.size w w' := by
  have HT := Lib.hid (l07Three_any a b a w hs hs' hs)
  rw [l7B_are2, h] at HT
  obtain ⟨h1, h2, h4⟩ := (are2B_iff a b).1 h
  have h400 := wave_le h1
  have HW := Lib.hid (And.intro h1 h2)
  have hb := Nat.le_of_eq h4.symm
  obtain ⟨i0, hi, hz0, hz1, hz2⟩ := info_parts info_u8
  clear h h1 h2 h4
  go_enter Try.func46, Try.ntmps46
  go_wp2_with fail
  refine HT.out.mono ?_; rintro e w' ⟨rfl, rfl⟩
  go_wp2_with fail
  refine (l00In_t _ _ _ _ (by omega) (by omega)).mono ?_; rintro e w' ⟨rfl, rfl⟩
  go_wp2
  go_loopw [8, 9, 10, 29, 35] (fun v lv i _ _ wr => ∃ k : Nat, k ≤ a.size ∧ i = .int .i64 k ∧ lv = .int .i64 (rst a b st k : Int) ∧ Hid (Buf wr w.heap.size v (outL (resetF a b st) k)) ∧ Hid (Below w.heap.size w wr)) (fun _ _ i _ _ _ => a.size - (intOf i).toNat)
  case atStart => exact ⟨0, Nat.zero_le _, rfl, rfl, Lib.hid (Buf.lit w), Lib.hid ((Below.refl _ _).alloc (Nat.le_refl _) _)⟩
  case round =>
    obtain ⟨k, hk, rfl, rfl, HB, HBW⟩ := hrel
    by_cases hlt : k < a.size
    · have hltb : k < b.size := by omega
      have HL := Lib.hid (outL_len (resetF a b st) k)
      have hsz := HBW.out.size
      have e1 := bit_at b k hltb
      have e2 := bit_at a k hlt
      have HN := Lib.hid (rst_next a b st k)
      have HF : Hid (resetF a b st k = decide (0 < rst a b st (k + 1))) := rfl
      have hle := rst_le a b st k
      obtain ⟨L, hL⟩ : ∃ L, rst a b st k = L := ⟨_, rfl⟩
      rw [hL] at HN hle
      rw [hL]
      clear hL
      cases hr : bit b k with
      | true =>
        rw [hr] at e1 HN
        have HS : Hid (rst a b st (k + 1) = st) := by show _ = _; rw [HN.out]; simp [relNext]
        have HX : Hid (outL (resetF a b st) k ++ [49] = outL (resetF a b st) (k + 1)) := byCells_out _ k 49 (by rw [HF.out, HS.out, decide_eq_true (show 0 < st by omega)]; rfl)
        have hp : (0 : Int) < (st : Int) := by omega
        have hp3 : 0 < st := by omega
        clear hr e2 HN
        go_wp2_with (first | (at_builtin; refine wpList_append_own _ rfl _ _ 25 rfl w.heap.size 5 i0 (.int .u8 0) 1 1 Try.underlying25 hi hz0 hz1 hz2 rfl (by decide) _ _ _ rfl (HB.out.alloc _) ⟨wr.heap.size, 0, none⟩ 1 1 [.int .u8 ((49 : UInt8).toNat : Int)] rfl rfl ?c1 ?c2 ?c3 ?c4 ?c5 ?_) | (go_at_call 76; (with_reducible refine (l07Level_t _).mono ?_); rintro e w' ⟨rfl, rfl⟩))
        case c1 => exact cell_one_new _ _ _
        case c2 => simp [Value.oneCell']
        case c3 => rw [HL.out]; unfold maxLen; omega
        case c4 => rw [HL.out]; omega
        case c5 => first | omega | (simp; omega)
        intro v' w1 hown' hgrow _
        have HO := Lib.hid (Buf.snoc (b := 49) hown')
        have HW2 := Lib.hid (Buf.below HBW.out HB.out _ hgrow)
        clear hown' hgrow
        go_wp2
        go_roundw
        case rel => exact ⟨k + 1, by omega, by go_num, by rw [HS.out], by rw [← HX.out]; exact HO, HW2⟩
        case measure => simp [intOf]; omega
      | false =>
        rw [hr] at e1 HN
        clear hr
        by_cases hL0 : L = 0
        · subst hL0
          have HS : Hid (rst a b st (k + 1) = 0) := by show _ = _; rw [HN.out]; simp [relNext]
          have HX : Hid (outL (resetF a b st) k ++ [48] = outL (resetF a b st) (k + 1)) := byCells_out _ k 48 (by rw [HF.out, HS.out]; rfl)
          clear e2 HN
          go_wp2_with (first | (at_builtin; refine wpList_append_own _ rfl _ _ 25 rfl w.heap.size 5 i0 (.int .u8 0) 1 1 Try.underlying25 hi hz0 hz1 hz2 rfl (by decide) _ _ _ rfl (HB.out.alloc _) ⟨wr.heap.size, 0, none⟩ 1 1 [.int .u8 ((48 : UInt8).toNat : Int)] rfl rfl ?d1 ?d2 ?d3 ?d4 ?d5 ?_) | (go_at_call 76; (with_reducible refine (l07Level_f _).mono ?_); rintro e w' ⟨rfl, rfl⟩))
          case d1 => exact cell_one_new _ _ _
          case d2 => simp [Value.oneCell']
          case d3 => rw [HL.out]; unfold maxLen; omega
          case d4 => rw [HL.out]; omega
          case d5 => first | omega | (simp; omega)
          intro v' w1 hown' hgrow _
          have HO := Lib.hid (Buf.snoc (b := 48) hown')
          have HW2 := Lib.hid (Buf.below HBW.out HB.out _ hgrow)
          clear hown' hgrow
          go_wp2
          go_roundw
          case rel => exact ⟨k + 1, by omega, by go_num, by rw [HS.out]; rfl, by rw [← HX.out]; exact HO, HW2⟩
          case measure => simp [intOf]; omega
        · have hp : (0 : Int) < (L : Int) := by omega
          have hp3 : 0 < L := by omega
          have hpn : decide (0 < L) = true := decide_eq_true (by omega)
          have HKEEP : Hid ((!prv a k && bit a k) = false → rst a b st (k + 1) = L) := fun q => by rw [HN.out]; simp only [relNext]; rw [q]; simp
          have HDEC : Hid ((!prv a k && bit a k) = true → rst a b st (k + 1) = L - 1) := fun q => by rw [HN.out]; simp only [relNext]; rw [q, hpn]; simp
          have hLd := Lib.hid hpn
          clear hpn
          cases hx : bit a k with
          | false =>
            rw [hx] at e2 HKEEP
            have HS : Hid (rst a b st (k + 1) = L) := by show _ = _; exact HKEEP.out (by simp)
            have HX : Hid (outL (resetF a b st) k ++ [49] = outL (resetF a b st) (k + 1)) := byCells_out _ k 49 (by rw [HF.out, HS.out, hLd.out]; rfl)
            clear hx HKEEP HDEC HN
            go_wp2_with (first | (at_builtin; refine wpList_append_own _ rfl _ _ 25 rfl w.heap.size 5 i0 (.int .u8 0) 1 1 Try.underlying25 hi hz0 hz1 hz2 rfl (by decide) _ _ _ rfl (HB.out.alloc _) ⟨wr.heap.size, 0, none⟩ 1 1 [.int .u8 ((49 : UInt8).toNat : Int)] rfl rfl ?e1 ?e2 ?e3 ?e4 ?e5 ?_) | (go_at_call 76; (with_reducible refine (l07Level_t _).mono ?_); rintro e w' ⟨rfl, rfl⟩))
            case e1 => exact cell_one_new _ _ _
            case e2 => simp [Value.oneCell']
            case e3 => rw [HL.out]; unfold maxLen; omega
            case e4 => rw [HL.out]; omega
            case e5 => first | omega | (simp; omega)
            intro v' w1 hown' hgrow _
            have HO := Lib.hid (Buf.snoc (b := 49) hown')
            have HW2 := Lib.hid (Buf.below HBW.out HB.out _ hgrow)
            clear hown' hgrow
            go_wp2
            go_roundw
            case rel => exact ⟨k + 1, by omega, by go_num, by rw [HS.out], by rw [← HX.out]; exact HO, HW2⟩
            case measure => simp [intOf]; omega
          | true =>
            rw [hx] at e2 HKEEP HDEC
            by_cases hk0 : k = 0
            · have h0 : ((k : Int) == 0) = true := by rw [hk0]; rfl
              have HS : Hid (rst a b st (k + 1) = L - 1) := by show _ = _; exact HDEC.out (by rw [hk0]; rfl)
              obtain ⟨m, rfl⟩ : ∃ m, L = m + 1 := ⟨L - 1, by omega⟩
              have HS2 : Hid (rst a b st (k + 1) = m) := by show _ = _; rw [HS.out]; simp
              have hw1 : IntKind.i64.wrap (((m + 1 : Nat) : Int) - 1) = (m : Int) := by rw [show ((m + 1 : Nat) : Int) - 1 = (m : Int) by omega]; exact IntWalk.i64_in _ (by omega)
              obtain ⟨L2, hL2⟩ : ∃ L2 : Int, ((m + 1 : Nat) : Int) = L2 := ⟨_, rfl⟩
              rw [hL2] at hp hw1 ⊢
              clear hp3
              clear hx HKEEP HDEC HN hk0 HS hL0 hL2 hLd
              by_cases hm : 0 < m
              · have hm2 : (0 : Int) < (m : Int) := by omega
                have HX : Hid (outL (resetF a b st) k ++ [49] = outL (resetF a b st) (k + 1)) := byCells_out _ k 49 (by rw [HF.out, HS2.out, decide_eq_true hm]; rfl)
                go_wp2_with (first | (at_builtin; refine wpList_append_own _ rfl _ _ 25 rfl w.heap.size 5 i0 (.int .u8 0) 1 1 Try.underlying25 hi hz0 hz1 hz2 rfl (by decide) _ _ _ rfl (HB.out.alloc _) ⟨wr.heap.size, 0, none⟩ 1 1 [.int .u8 ((49 : UInt8).toNat : Int)] rfl rfl ?f1 ?f2 ?f3 ?f4 ?f5 ?_) | (go_at_call 76; (with_reducible refine (l07Level_t _).mono ?_); rintro e w' ⟨rfl, rfl⟩))
                case f1 => exact cell_one_new _ _ _
                case f2 => simp [Value.oneCell']
                case f3 => rw [HL.out]; unfold maxLen; omega
                case f4 => rw [HL.out]; omega
                case f5 => first | omega | (simp; omega)
                intro v' w1 hown' hgrow _
                have HO := Lib.hid (Buf.snoc (b := 49) hown')
                have HW2 := Lib.hid (Buf.below HBW.out HB.out _ hgrow)
                clear hown' hgrow
                go_wp2
                go_roundw
                case rel => exact ⟨k + 1, by omega, by go_num, by rw [HS2.out], by rw [← HX.out]; exact HO, HW2⟩
                case measure => simp [intOf]; omega
              · have hm2 : ¬ (0 : Int) < (m : Int) := by omega
                have HX : Hid (outL (resetF a b st) k ++ [48] = outL (resetF a b st) (k + 1)) := byCells_out _ k 48 (by rw [HF.out, HS2.out, decide_eq_false hm]; rfl)
                go_wp2_with (first | (at_builtin; refine wpList_append_own _ rfl _ _ 25 rfl w.heap.size 5 i0 (.int .u8 0) 1 1 Try.underlying25 hi hz0 hz1 hz2 rfl (by decide) _ _ _ rfl (HB.out.alloc _) ⟨wr.heap.size, 0, none⟩ 1 1 [.int .u8 ((48 : UInt8).toNat : Int)] rfl rfl ?g1 ?g2 ?g3 ?g4 ?g5 ?_) | (go_at_call 76; (with_reducible refine (l07Level_f _).mono ?_); rintro e w' ⟨rfl, rfl⟩))
                case g1 => exact cell_one_new _ _ _
                case g2 => simp [Value.oneCell']
                case g3 => rw [HL.out]; unfold maxLen; omega
                case g4 => rw [HL.out]; omega
                case g5 => first | omega | (simp; omega)
                intro v' w1 hown' hgrow _
                have HO := Lib.hid (Buf.snoc (b := 48) hown')
                have HW2 := Lib.hid (Buf.below HBW.out HB.out _ hgrow)
                clear hown' hgrow
                go_wp2
                go_roundw
                case rel => exact ⟨k + 1, by omega, by go_num, by rw [HS2.out], by rw [← HX.out]; exact HO, HW2⟩
                case measure => simp [intOf]; omega
            · have h0 : ((k : Int) == 0) = false := by simp; omega
              obtain ⟨j, hj⟩ : ∃ j, k = j + 1 := ⟨k - 1, by omega⟩
              have hjl : j < a.size := by omega
              have hpj : prv a k = bit a j := by rw [hj]; exact prv_succ a j
              have ej : ((a[j].toNat : Int) == 48) = !bit a j := by rw [wave_at HW.out.1 j hjl]; cases bit a j <;> rfl
              have wj : IntKind.i64.wrap ((k : Int) - 1) = (j : Int) := by rw [show (k : Int) - 1 = (j : Int) by omega]; exact IntWalk.i64_in _ (by omega)
              have wj2 : (k : Int) - 1 = (j : Int) := by omega
              rw [hpj] at HKEEP HDEC
              have HWJ := Lib.hid wj2
              clear hk0 hpj hj hx HN
              cases hz : bit a j with
              | true =>
                rw [hz] at ej HKEEP
                have HS : Hid (rst a b st (k + 1) = L) := by show _ = _; exact HKEEP.out (by rfl)
                have HX : Hid (outL (resetF a b st) k ++ [49] = outL (resetF a b st) (k + 1)) := byCells_out _ k 49 (by rw [HF.out, HS.out, hLd.out]; rfl)
                clear hz HKEEP HDEC
                go_wp2_with (first | (at_builtin; refine wpList_append_own _ rfl _ _ 25 rfl w.heap.size 5 i0 (.int .u8 0) 1 1 Try.underlying25 hi hz0 hz1 hz2 rfl (by decide) _ _ _ rfl (HB.out.alloc _) ⟨wr.heap.size, 0, none⟩ 1 1 [.int .u8 ((49 : UInt8).toNat : Int)] rfl rfl ?h1 ?h2 ?h3 ?h4 ?h5 ?_) | (go_at_call 76; (with_reducible refine (l07Level_t _).mono ?_); rintro e w' ⟨rfl, rfl⟩))
                case h1 => exact cell_one_new _ _ _
                case h2 => simp [Value.oneCell']
                case h3 => rw [HL.out]; unfold maxLen; omega
                case h4 => rw [HL.out]; omega
                case h5 => first | omega | (simp; omega)
                intro v' w1 hown' hgrow _
                have HO := Lib.hid (Buf.snoc (b := 49) hown')
                have HW2 := Lib.hid (Buf.below HBW.out HB.out _ hgrow)
                clear hown' hgrow
                go_wp2
                go_roundw
                case rel => exact ⟨k + 1, by omega, by go_num, by rw [HS.out], by rw [← HX.out]; exact HO, HW2⟩
                case measure => simp [intOf]; omega
              | false =>
                rw [hz] at ej HDEC
                have HS : Hid (rst a b st (k + 1) = L - 1) := by show _ = _; exact HDEC.out (by rfl)
                obtain ⟨m, rfl⟩ : ∃ m, L = m + 1 := ⟨L - 1, by omega⟩
                have HS2 : Hid (rst a b st (k + 1) = m) := by show _ = _; rw [HS.out]; simp
                have hw1 : IntKind.i64.wrap (((m + 1 : Nat) : Int) - 1) = (m : Int) := by rw [show ((m + 1 : Nat) : Int) - 1 = (m : Int) by omega]; exact IntWalk.i64_in _ (by omega)
                obtain ⟨L2, hL2⟩ : ∃ L2 : Int, ((m + 1 : Nat) : Int) = L2 := ⟨_, rfl⟩
                rw [hL2] at hp hw1 ⊢
                clear hp3
                clear hz HKEEP HDEC HS hL0 hL2 hLd
                by_cases hm : 0 < m
                · have hm2 : (0 : Int) < (m : Int) := by omega
                  have HX : Hid (outL (resetF a b st) k ++ [49] = outL (resetF a b st) (k + 1)) := byCells_out _ k 49 (by rw [HF.out, HS2.out, decide_eq_true hm]; rfl)
                  go_wp2_with (first | (at_builtin; refine wpList_append_own _ rfl _ _ 25 rfl w.heap.size 5 i0 (.int .u8 0) 1 1 Try.underlying25 hi hz0 hz1 hz2 rfl (by decide) _ _ _ rfl (HB.out.alloc _) ⟨wr.heap.size, 0, none⟩ 1 1 [.int .u8 ((49 : UInt8).toNat : Int)] rfl rfl ?i1 ?i2 ?i3 ?i4 ?i5 ?_) | (go_at_call 76; (with_reducible refine (l07Level_t _).mono ?_); rintro e w' ⟨rfl, rfl⟩))
                  case i1 => exact cell_one_new _ _ _
                  case i2 => simp [Value.oneCell']
                  case i3 => rw [HL.out]; unfold maxLen; omega
                  case i4 => rw [HL.out]; omega
                  case i5 => first | omega | (simp; omega)
                  intro v' w1 hown' hgrow _
                  have HO := Lib.hid (Buf.snoc (b := 49) hown')
                  have HW2 := Lib.hid (Buf.below HBW.out HB.out _ hgrow)
                  clear hown' hgrow
                  go_wp2
                  go_roundw
                  case rel => exact ⟨k + 1, by omega, by go_num, by rw [HS2.out], by rw [← HX.out]; exact HO, HW2⟩
                  case measure => simp [intOf]; omega
                · have hm2 : ¬ (0 : Int) < (m : Int) := by omega
                  have HX : Hid (outL (resetF a b st) k ++ [48] = outL (resetF a b st) (k + 1)) := byCells_out _ k 48 (by rw [HF.out, HS2.out, decide_eq_false hm]; rfl)
                  go_wp2_with (first | (at_builtin; refine wpList_append_own _ rfl _ _ 25 rfl w.heap.size 5 i0 (.int .u8 0) 1 1 Try.underlying25 hi hz0 hz1 hz2 rfl (by decide) _ _ _ rfl (HB.out.alloc _) ⟨wr.heap.size, 0, none⟩ 1 1 [.int .u8 ((48 : UInt8).toNat : Int)] rfl rfl ?j1 ?j2 ?j3 ?j4 ?j5 ?_) | (go_at_call 76; (with_reducible refine (l07Level_f _).mono ?_); rintro e w' ⟨rfl, rfl⟩))
                  case j1 => exact cell_one_new _ _ _
                  case j2 => simp [Value.oneCell']
                  case j3 => rw [HL.out]; unfold maxLen; omega
                  case j4 => rw [HL.out]; omega
                  case j5 => first | omega | (simp; omega)
                  intro v' w1 hown' hgrow _
                  have HO := Lib.hid (Buf.snoc (b := 48) hown')
                  have HW2 := Lib.hid (Buf.below HBW.out HB.out _ hgrow)
                  clear hown' hgrow
                  go_wp2
                  go_roundw
                  case rel => exact ⟨k + 1, by omega, by go_num, by rw [HS2.out], by rw [← HX.out]; exact HO, HW2⟩
                  case measure => simp [intOf]; omega
    · obtain rfl : k = a.size := by omega
      have hconv := run_buf_string _ _ _ _ HB.out
      go_wp2
      go_ret2
      exact ⟨rfl, HBW.out⟩
set_option maxHeartbeats 1000000 in
theorem specReset_f (a b : ByteArray) (st : Int) (w : World) (hs : a.size ≤ maxLen) (hs' : b.size ≤ maxLen) (h : are2B a b = false) :
    Calls Try.prog 46 #[.string a, .string b, .int .i64 st] w fun e w' => e = .returned (.tuple #[.string ⟨#[]⟩, .bool false]) ∧ Below w.heap.size w w' := by
  have HT := Lib.hid (l07Three_any a b a w hs hs' hs)
  rw [l7B_are2, h] at HT
  clear h
  go_enter Try.func46, Try.ntmps46
  go_wp2_with fail
  refine HT.out.mono ?_; rintro e w' ⟨rfl, rfl⟩
  go_wp2
  go_ret2
  exact ⟨rfl, Below.refl _ _⟩
set_option maxHeartbeats 1000000 in
theorem specReset_g (a b : ByteArray) (st : Int) (w : World) (hs : a.size ≤ maxLen) (hs' : b.size ≤ maxLen) (h : are2B a b = true) (hst : st < 1 ∨ 4 < st) :
    Calls Try.prog 46 #[.string a, .string b, .int .i64 st] w fun e w' => e = .returned (.tuple #[.string ⟨#[]⟩, .bool false]) ∧ Below w.heap.size w w' := by
  have HT := Lib.hid (l07Three_any a b a w hs hs' hs)
  rw [l7B_are2, h] at HT
  clear h
  go_enter Try.func46, Try.ntmps46
  go_wp2_with fail
  refine HT.out.mono ?_; rintro e w' ⟨rfl, rfl⟩
  go_wp2_with fail
  refine (l00In_f _ _ _ _ hst).mono ?_; rintro e w' ⟨rfl, rfl⟩
  go_wp2
  go_ret2
  exact ⟨rfl, Below.refl _ _⟩
theorem reset_both (a : ByteArray) (b : ByteArray) (st : Int) (h_a : a.size ≤ maxLen) (h_b : b.size ≤ maxLen) (h_st : (Lit.int .i64 st).wf = true) (l_a : (a.size : Int) ≤ 1048576) (l_b : (b.size : Int) ≤ 1048576) : ∃ (r0 : ByteArray) (r1 : Bool), (∀ w, Calls Try.prog 46 #[.string a, .string b, .int .i64 st] w fun e w' => e = .returned (.tuple #[.string r0, .bool r1]) ∧ Below w.heap.size w w') ∧ (∀ w, Calls Try.prog 47 #[.string a, .string b, .int .i64 st] w fun e w' => e = .returned (.tuple #[.string r0, .bool r1]) ∧ Below w.heap.size w w') := by
  cases h : are2B a b with
  | true =>
    by_cases hst : 1 ≤ st ∧ st ≤ 4
    · obtain ⟨n, rfl⟩ : ∃ n : Nat, st = (n : Int) := ⟨st.toNat, by omega⟩
      exact ⟨_, _, fun w => specReset_t a b n w h_a h_b h (by omega) (by omega), fun w => implReset_t a b n w h_a h_b h (by omega) (by omega)⟩
    · exact ⟨_, _, fun w => specReset_g a b st w h_a h_b h (by omega), fun w => implReset_g a b st w h_a h_b h (by omega)⟩
  | false => exact ⟨_, _, fun w => specReset_f a b st w h_a h_b h, fun w => implReset_f a b st w h_a h_b h⟩
set_option maxHeartbeats 1000000 in
set_option maxRecDepth 100000 in
theorem walk_FnExactResetWave (a : ByteArray) (b : ByteArray) (st : Int) (w : World) (h_a : a.size ≤ maxLen) (h_b : b.size ≤ maxLen) (h_st : (Lit.int .i64 st).wf = true) :
    Calls Try.prog 14 #[.string a, .string b, .int .i64 st] w fun e w' => e = .returned (.bool true) ∧ Below w.heap.size w w' := by
  by_cases l_a : (a.size : Int) ≤ 1048576
  case neg =>
    go_enter Try.func14, Try.ntmps14
    go_wp2
    go_ret
    exact ⟨rfl, Below.refl _ _⟩
  by_cases l_b : (b.size : Int) ≤ 1048576
  case neg =>
    go_enter Try.func14, Try.ntmps14
    go_wp2
    go_ret
    exact ⟨rfl, Below.refl _ _⟩
  obtain ⟨r0, r1, hS, hI⟩ := reset_both a b st h_a h_b h_st l_a l_b
  have HS := Lib.hid hS
  have HI := Lib.hid hI
  clear hS hI
  go_enter Try.func14, Try.ntmps14
  go_wp2_with fail
  refine (HS.out _).mono ?_; rintro e w1 ⟨rfl, b1⟩
  go_wp2_with fail
  refine (HI.out _).mono ?_; rintro e w2 ⟨rfl, b2⟩
  go_wp2
  go_ret
  exact ⟨rfl, b1.trans (b2.mono b1.size)⟩
end Go.Proofs.Ytmhbgpappjfolaa
