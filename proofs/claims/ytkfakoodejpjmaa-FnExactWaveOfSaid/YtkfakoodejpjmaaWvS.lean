/- WaveOf: the arguments that fail, on both sides, and the model's side. -/
import Derived.Test.YtkfakoodejpjmaaWvI
import Derived.Test.YtkfakoodejpjmaaBytes
namespace Go.Proofs.Ytkfakoodejpjmaa
open Go.RowKit
set_option linter.unusedVariables false
theorem outW_len (p o : Int) (high k : Nat) : (outW p o high k).length = k := by simp [outW]
theorem specWave_v (p o h t : Int) (w : World) (hv : clkB p o = false) :
    Calls Try.prog 8 #[.agg #[.int .i64 p, .int .i64 o], .int .i64 h, .int .i64 t] w fun e w' => e = .returned (.tuple #[.string ⟨#[]⟩, .bool false]) ∧ Below w.heap.size w w' := by
  have HV := Lib.hid hv
  clear hv
  go_enter Try.func8, Try.ntmps8
  go_wp2_with fail
  refine (l10Is_any p o _).mono ?_; rw [HV.out]; rintro e w1 ⟨rfl, hb1⟩
  have HB1 := Lib.hid (bel_call (bel_alloc w _) hb1)
  have A1 := Lib.hid ((CkAt.new w p o _).call hb1)
  obtain ⟨-, c10, c11⟩ := A1.out
  clear hb1
  go_wp2
  go_ret2
  exact ⟨rfl, HB1.out⟩
theorem specWave_h (p o h t : Int) (w : World) (hv : clkB p o = true) (hh : ¬ (0 ≤ h ∧ h ≤ p)) :
    Calls Try.prog 8 #[.agg #[.int .i64 p, .int .i64 o], .int .i64 h, .int .i64 t] w fun e w' => e = .returned (.tuple #[.string ⟨#[]⟩, .bool false]) ∧ Below w.heap.size w w' := by
  have HV := Lib.hid hv
  clear hv
  go_enter Try.func8, Try.ntmps8
  go_wp2_with fail
  refine (l10Is_any p o _).mono ?_; rw [HV.out]; rintro e w1 ⟨rfl, hb1⟩
  have HB1 := Lib.hid (bel_call (bel_alloc w _) hb1)
  have A1 := Lib.hid ((CkAt.new w p o _).call hb1)
  obtain ⟨-, c10, c11⟩ := A1.out
  clear hb1
  go_wp2_with fail
  refine (l00In_f _ _ _ _ (by omega)).mono ?_; rintro e w' ⟨rfl, rfl⟩
  go_wp2
  go_ret2
  exact ⟨rfl, HB1.out⟩
theorem specWave_n (p o h t : Int) (w : World) (hv : clkB p o = true) (hh : 0 ≤ h ∧ h ≤ p) (ht : ¬ (0 ≤ t ∧ t ≤ 400)) :
    Calls Try.prog 8 #[.agg #[.int .i64 p, .int .i64 o], .int .i64 h, .int .i64 t] w fun e w' => e = .returned (.tuple #[.string ⟨#[]⟩, .bool false]) ∧ Below w.heap.size w w' := by
  have HV := Lib.hid hv
  clear hv
  go_enter Try.func8, Try.ntmps8
  go_wp2_with fail
  refine (l10Is_any p o _).mono ?_; rw [HV.out]; rintro e w1 ⟨rfl, hb1⟩
  have HB1 := Lib.hid (bel_call (bel_alloc w _) hb1)
  have A1 := Lib.hid ((CkAt.new w p o _).call hb1)
  obtain ⟨-, c10, c11⟩ := A1.out
  clear hb1
  go_wp2_with fail
  refine (l00In_t _ _ _ _ hh.1 hh.2).mono ?_; rintro e w' ⟨rfl, rfl⟩
  go_wp2_with fail
  refine (l00In_f _ _ _ _ (by omega)).mono ?_; rintro e w' ⟨rfl, rfl⟩
  go_wp2
  go_ret2
  exact ⟨rfl, HB1.out⟩
theorem implWave_v (p o h t : Int) (w : World) (hv : clkB p o = false) :
    Calls Try.prog 10 #[.agg #[.int .i64 p, .int .i64 o], .int .i64 h, .int .i64 t] w fun e w' => e = .returned (.tuple #[.string ⟨#[]⟩, .bool false]) ∧ Below w.heap.size w w' := by
  have HV := Lib.hid hv
  clear hv
  go_enter Try.func10, Try.ntmps10
  go_wp2_with fail
  refine (implVC_any p o _).mono ?_; rw [HV.out]; rintro e w1 ⟨rfl, hb1⟩
  have HB1 := Lib.hid (bel_call (bel_alloc w _) hb1)
  have A1 := Lib.hid ((CkAt.new w p o _).call hb1)
  obtain ⟨-, c10, c11⟩ := A1.out
  clear hb1
  go_wp2
  go_ret2
  exact ⟨rfl, HB1.out⟩
theorem implWave_h (p o h t : Int) (w : World) (hv : clkB p o = true) (hh : ¬ (0 ≤ h ∧ h ≤ p)) :
    Calls Try.prog 10 #[.agg #[.int .i64 p, .int .i64 o], .int .i64 h, .int .i64 t] w fun e w' => e = .returned (.tuple #[.string ⟨#[]⟩, .bool false]) ∧ Below w.heap.size w w' := by
  have HV := Lib.hid hv
  clear hv
  go_enter Try.func10, Try.ntmps10
  go_wp2_with fail
  refine (implVC_any p o _).mono ?_; rw [HV.out]; rintro e w1 ⟨rfl, hb1⟩
  have HB1 := Lib.hid (bel_call (bel_alloc w _) hb1)
  have A1 := Lib.hid ((CkAt.new w p o _).call hb1)
  obtain ⟨-, c10, c11⟩ := A1.out
  clear hb1
  go_wp2_with fail
  refine (within_i64_f _ _ _ _ (by omega)).mono ?_; rintro e w' ⟨rfl, rfl⟩
  go_wp2
  go_ret2
  exact ⟨rfl, HB1.out⟩
theorem implWave_n (p o h t : Int) (w : World) (hv : clkB p o = true) (hh : 0 ≤ h ∧ h ≤ p) (ht : ¬ (0 ≤ t ∧ t ≤ 400)) :
    Calls Try.prog 10 #[.agg #[.int .i64 p, .int .i64 o], .int .i64 h, .int .i64 t] w fun e w' => e = .returned (.tuple #[.string ⟨#[]⟩, .bool false]) ∧ Below w.heap.size w w' := by
  have HV := Lib.hid hv
  clear hv
  go_enter Try.func10, Try.ntmps10
  go_wp2_with fail
  refine (implVC_any p o _).mono ?_; rw [HV.out]; rintro e w1 ⟨rfl, hb1⟩
  have HB1 := Lib.hid (bel_call (bel_alloc w _) hb1)
  have A1 := Lib.hid ((CkAt.new w p o _).call hb1)
  obtain ⟨-, c10, c11⟩ := A1.out
  clear hb1
  go_wp2_with fail
  refine (within_i64_t _ _ _ _ hh.1 hh.2).mono ?_; rintro e w' ⟨rfl, rfl⟩
  go_wp2_with fail
  refine (within_i64_f _ _ _ _ (by omega)).mono ?_; rintro e w' ⟨rfl, rfl⟩
  go_wp2
  go_ret2
  exact ⟨rfl, HB1.out⟩
set_option maxHeartbeats 2000000 in
set_option maxRecDepth 100000 in
theorem specWave_t (p o : Int) (high ticks : Nat) (w : World) (hv : clkB p o = true) (hh : (high : Int) ≤ p) (ht : ticks ≤ 400) :
    Calls Try.prog 8 #[.agg #[.int .i64 p, .int .i64 o], .int .i64 (high : Int), .int .i64 (ticks : Int)] w fun e w' => e = .returned (.tuple #[.string ⟨⟨outW p o high ticks⟩⟩, .bool true]) ∧ Below w.heap.size w w' := by
  obtain ⟨⟨p1, p2⟩, o1, o2⟩ := clkB_iff.1 hv
  have HV := Lib.hid hv
  clear hv
  obtain ⟨i0, hi, hz0, hz1, hz2⟩ := info_parts info_u8
  go_enter Try.func8, Try.ntmps8
  go_wp2_with fail
  refine (l10Is_any p o _).mono ?_; rw [HV.out]; rintro e w1 ⟨rfl, hb1⟩
  have HB1 := Lib.hid (bel_call (bel_alloc w _) hb1)
  have A1 := Lib.hid ((CkAt.new w p o _).call hb1)
  obtain ⟨-, c10, c11⟩ := A1.out
  clear hb1
  go_wp2_with fail
  refine (l00In_t _ _ _ _ (by omega) hh).mono ?_; rintro e w' ⟨rfl, rfl⟩
  go_wp2_with fail
  refine (l00In_t _ _ _ _ (by omega) (by omega)).mono ?_; rintro e w' ⟨rfl, rfl⟩
  go_wp2
  have hw1 := HB1.out.size
  go_loopw [8, 9] (fun v i wr => ∃ k : Nat, k ≤ ticks ∧ i = .int .i64 k ∧ Buf wr w1.heap.size v (outW p o high k) ∧ Below w1.heap.size w1 wr) (fun _ i _ => ticks - (intOf i).toNat)
  case atStart => exact ⟨0, Nat.zero_le _, rfl, Buf.lit w1, (Below.refl _ _).alloc (Nat.le_refl _) _⟩
  case round =>
    obtain ⟨k, hk, rfl, hbuf, hB⟩ := hrel
    obtain ⟨-, c20, c21⟩ := A1.out.call hB
    by_cases hlt : k < ticks
    · have HL := Lib.hid (outW_len p o high k)
      have HB := Lib.hid hbuf
      clear hbuf
      have hsz := hB.size
      have hltI : (k : Int) < (ticks : Int) := by omega
      have r0 := Int.emod_nonneg ((k : Int) - o) (b := p) (by omega)
      have r1 := Int.emod_lt_of_pos ((k : Int) - o) (b := p) (by omega)
      have hne : (p == 0) = false := by simp; omega
      have hn0 : ¬ p = 0 := by omega
      by_cases hko : o ≤ (k : Int)
      · have e1 : ((k : Int) - o).tmod p = ((k : Int) - o) % p := Int.tmod_eq_emod_of_nonneg (by omega)
        have w0 : IntKind.i64.wrap ((k : Int) - o) = (k : Int) - o := IntWalk.i64_in _ (by omega)
        have hS : bitW p o high k = if ((k : Int) - o) % p < (high : Int) then 49 else 48 := by unfold bitW; simp [hko]
        obtain ⟨r, hr⟩ : ∃ r, ((k : Int) - o) % p = r := ⟨_, rfl⟩
        rw [hr] at e1 r0 r1 hS
        have w2 : IntKind.i64.wrap r = r := IntWalk.i64_in _ (by omega)
        clear hr
        have hge : decide (o ≤ (k : Int)) = true := decide_eq_true hko
        by_cases hrh : r < (high : Int)
        · have HS : Hid (bitW p o high k = 49) := by rw [Hid, hS, if_pos hrh]
          have hd : decide (r < (high : Int)) = true := decide_eq_true hrh
          clear hS
          go_wp2_with (at_builtin; refine wpList_append_own _ rfl _ _ 29 rfl w1.heap.size 5 i0 (.int .u8 0) 1 1 Try.underlying29 hi hz0 hz1 hz2 rfl (by decide) _ _ _ rfl (HB.out.alloc _) ⟨wr.heap.size, 0, none⟩ 1 1 [.int .u8 ((49 : UInt8).toNat : Int)] rfl rfl ?c1 ?c2 ?c3 ?c4 ?c5 ?_)
          try (case c1 => exact cell_one_new _ _ _)
          case c2 => simp [Value.oneCell']
          case c3 => rw [HL.out]; unfold maxLen; omega
          case c4 => rw [HL.out]; omega
          case c5 => first | (simp; omega) | omega | skip
          intro v' w2 hown' hgrow _
          have HO := Lib.hid (Buf.snoc (b := 49) hown')
          have HW := Lib.hid (Buf.below hB HB.out _ hgrow)
          clear hown' hgrow
          go_wp2
          go_roundw
          case rel => exact ⟨k + 1, by omega, by go_num, by rw [outW_succ, HS.out]; exact HO.out, HW.out⟩
          case measure => simp [intOf]; omega
        · have HS : Hid (bitW p o high k = 48) := by rw [Hid, hS, if_neg hrh]
          have hd : decide (r < (high : Int)) = false := decide_eq_false hrh
          clear hS
          go_wp2_with (at_builtin; refine wpList_append_own _ rfl _ _ 29 rfl w1.heap.size 5 i0 (.int .u8 0) 1 1 Try.underlying29 hi hz0 hz1 hz2 rfl (by decide) _ _ _ rfl (HB.out.alloc _) ⟨wr.heap.size, 0, none⟩ 1 1 [.int .u8 ((48 : UInt8).toNat : Int)] rfl rfl ?c1 ?c2 ?c3 ?c4 ?c5 ?_)
          try (case c1 => exact cell_one_new _ _ _)
          case c2 => simp [Value.oneCell']
          case c3 => rw [HL.out]; unfold maxLen; omega
          case c4 => rw [HL.out]; omega
          case c5 => first | (simp; omega) | omega | skip
          intro v' w2 hown' hgrow _
          have HO := Lib.hid (Buf.snoc (b := 48) hown')
          have HW := Lib.hid (Buf.below hB HB.out _ hgrow)
          clear hown' hgrow
          go_wp2
          go_roundw
          case rel => exact ⟨k + 1, by omega, by go_num, by rw [outW_succ, HS.out]; exact HO.out, HW.out⟩
          case measure => simp [intOf]; omega
      · have HS : Hid (bitW p o high k = 48) := by rw [Hid]; unfold bitW; rw [if_neg (fun h => hko h.1)]
        have hge : decide (o ≤ (k : Int)) = false := decide_eq_false hko
        go_wp2_with (at_builtin; refine wpList_append_own _ rfl _ _ 29 rfl w1.heap.size 5 i0 (.int .u8 0) 1 1 Try.underlying29 hi hz0 hz1 hz2 rfl (by decide) _ _ _ rfl (HB.out.alloc _) ⟨wr.heap.size, 0, none⟩ 1 1 [.int .u8 ((48 : UInt8).toNat : Int)] rfl rfl ?c1 ?c2 ?c3 ?c4 ?c5 ?_)
        try (case c1 => exact cell_one_new _ _ _)
        case c2 => simp [Value.oneCell']
        case c3 => rw [HL.out]; unfold maxLen; omega
        case c4 => rw [HL.out]; omega
        case c5 => first | (simp; omega) | omega | skip
        intro v' w2 hown' hgrow _
        have HO := Lib.hid (Buf.snoc (b := 48) hown')
        have HW := Lib.hid (Buf.below hB HB.out _ hgrow)
        clear hown' hgrow
        go_wp2
        go_roundw
        case rel => exact ⟨k + 1, by omega, by go_num, by rw [outW_succ, HS.out]; exact HO.out, HW.out⟩
        case measure => simp [intOf]; omega
    · obtain rfl : k = ticks := by omega
      have hconv := run_buf_string _ _ _ _ hbuf
      have HB := Lib.hid hbuf
      clear hbuf
      go_wp2
      go_ret2
      exact ⟨rfl, bel_call HB1.out hB⟩
end Go.Proofs.Ytkfakoodejpjmaa
