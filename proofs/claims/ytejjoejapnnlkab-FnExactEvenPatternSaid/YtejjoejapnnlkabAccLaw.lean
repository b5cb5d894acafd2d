/- The pulses of an accumulator, and an even pattern, on the side of the model, and the walks of two laws. -/
import Derived.Test.YtejjoejapnnlkabAcc
import Derived.Test.YtejjoejapnnlkabStepOk
import Derived.Test.YtejjoejapnnlkabBytes
import Derived.BigQuiet
import Derived.Deep.QuietTactic
namespace Go.Proofs.Ytejjoejapnnlkab
open Go.RowKit
set_option linter.unusedVariables false

theorem cell_keptA {W w1 : World} (hb : Below W.heap.size W w1) {a : Addr} {v : Value} (h : W.cell? a = some v) : w1.cell? a = some v :=
  (hb.cell (World.block_lt_of_cell? W a h)).trans h
theorem accT_hit (s m p t : Nat) (L R : List UInt8) (ht : 0 < t) (h : L ++ accL s m p t = R) (hm : m ≤ p + s) : (L ++ [49]) ++ accL s m (p + s - m) (t - 1) = R := by
  obtain ⟨u, rfl⟩ : ∃ u, t = u + 1 := ⟨t - 1, by omega⟩
  rw [← h, accL, if_pos hm]; simp
theorem accT_miss (s m p t : Nat) (L R : List UInt8) (ht : 0 < t) (h : L ++ accL s m p t = R) (hm : ¬ m ≤ p + s) : (L ++ [48]) ++ accL s m (p + s) (t - 1) = R := by
  obtain ⟨u, rfl⟩ : ∃ u, t = u + 1 := ⟨t - 1, by omega⟩
  rw [← h, accL, if_neg hm]; simp
theorem accT_over (s m p t : Nat) (L R : List UInt8) (ht : ¬ 0 < t) (h : L ++ accL s m p t = R) : L = R := by
  obtain rfl : t = 0 := by omega
  rw [← h, accL]; simp

set_option maxHeartbeats 1000000 in
set_option maxRecDepth 100000 in
theorem specAcc (s m p T : Nat) (w : World) (h1 : s ≤ m) (h2 : m ≤ 1000) (h3 : p < m) (h4 : T ≤ 400) :
    Calls Try.prog 36 #[.int .i64 (s : Int), .int .i64 (m : Int), .int .i64 (p : Int), .int .i64 (T : Int)] w fun e w' => e = .returned (.string ⟨(accL s m p T).toArray⟩) ∧ Below w.heap.size w w' := by
  obtain ⟨i0, hi, hz0, hz1, hz2⟩ := info_parts info_u8
  go_enter Try.func36, Try.ntmps36
  go_wp2
  go_loopw [2, 3, 9, 10] (fun ph tk v _c wr => ∃ (t p' : Nat) (L : List UInt8), tk = .int .i64 (t : Int) ∧ ph = .int .i64 (p' : Int) ∧ p' < m ∧ L.length + t = T ∧ L ++ accL s m p' t = accL s m p T ∧ Buf wr w.heap.size v L ∧ Below w.heap.size w wr) (fun _ tk _ _ _ => (intOf tk).toNat)
  case atStart => exact ⟨T, p, [], rfl, rfl, h3, by simp, rfl, Buf.lit w, (Below.refl _ _).alloc (Nat.le_refl _) _⟩
  case round =>
    obtain ⟨t, p', L, rfl, rfl, hp, hL, hacc, hbuf, hB⟩ := hrel
    have HB := Lib.hid hbuf
    clear hbuf
    have hsz := hB.size
    by_cases hlt : 0 < t
    · by_cases hm : m ≤ p' + s
      · have HS := Lib.hid (accT_hit s m p' t L _ hlt hacc hm)
        clear hacc
        go_wp2_with (at_builtin; refine wpList_append_own _ rfl _ _ 56 rfl w.heap.size 5 i0 (.int .u8 0) 1 1 Try.underlying56 hi hz0 hz1 hz2 rfl (by decide) _ _ _ rfl (HB.out.alloc _) ⟨wr.heap.size, 0, none⟩ 1 1 [.int .u8 49] rfl rfl ?c1 ?c2 ?c3 ?c4 ?c5 ?_)
        case c1 => exact cell_one_new _ _ _
        case c2 => simp [Value.oneCell']
        case c3 => unfold maxLen; omega
        case c4 => omega
        case c5 => simp; omega
        intro v' w1 hown' hgrow _
        have HO := Lib.hid (Buf.snoc (b := (49 : UInt8)) hown')
        have HW := Lib.hid (Buf.below hB HB.out _ hgrow)
        clear hown' hgrow
        go_wp2
        go_roundw
        case rel => exact ⟨t - 1, p' + s - m, L ++ [49], by go_num, by go_num, by omega, by simp; omega, HS.out, HO.out, HW.out⟩
        case measure => simp [intOf]; omega

      · have HS := Lib.hid (accT_miss s m p' t L _ hlt hacc hm)
        clear hacc
        go_wp2_with (at_builtin; refine wpList_append_own _ rfl _ _ 56 rfl w.heap.size 5 i0 (.int .u8 0) 1 1 Try.underlying56 hi hz0 hz1 hz2 rfl (by decide) _ _ _ rfl (HB.out.alloc _) ⟨wr.heap.size, 0, none⟩ 1 1 [.int .u8 48] rfl rfl ?c1 ?c2 ?c3 ?c4 ?c5 ?_)
        case c1 => exact cell_one_new _ _ _
        case c2 => simp [Value.oneCell']
        case c3 => unfold maxLen; omega
        case c4 => omega
        case c5 => simp; omega
        intro v' w1 hown' hgrow _
        have HO := Lib.hid (Buf.snoc (b := (48 : UInt8)) hown')
        have HW := Lib.hid (Buf.below hB HB.out _ hgrow)
        clear hown' hgrow
        go_wp2
        go_roundw
        case rel => exact ⟨t - 1, p' + s, L ++ [48], by go_num, by go_num, by omega, by simp; omega, HS.out, HO.out, HW.out⟩
        case measure => simp [intOf]; omega

    · have HS := Lib.hid (accT_over s m p' t L _ hlt hacc)
      have hconv := run_buf_string _ _ _ _ HB.out
      go_wp2
      go_ret
      exact ⟨by rw [← HS.out]; rfl, hB⟩

theorem specAccW_t (s m p T : Nat) (w : World) (h1 : 1 ≤ m) (h2 : m ≤ 1000) (h3 : 1 ≤ s) (h4 : s ≤ m) (h5 : p < m) (h6 : T ≤ 400) :
    Calls Try.prog 11 #[.int .i64 (s : Int), .int .i64 (m : Int), .int .i64 (p : Int), .int .i64 (T : Int)] w fun e w' => e = .returned (.tuple #[.string ⟨(accL s m p T).toArray⟩, .bool true]) ∧ Below w.heap.size w w' := by
  go_enter Try.func11, Try.ntmps11
  go_wp2_with fail
  refine (l03Steps_t _ _ _ (by omega) (by omega) (by omega) (by omega)).mono ?_; rintro e w' ⟨rfl, rfl⟩
  go_wp2_with fail
  refine (l00In_t _ _ _ _ (by omega) (by omega)).mono ?_; rintro e w' ⟨rfl, rfl⟩
  go_wp2_with fail
  refine (l00In_t _ _ _ _ (by omega) (by omega)).mono ?_; rintro e w' ⟨rfl, rfl⟩
  go_wp2_with fail
  refine (specAcc s m p T _ h4 h2 h5 h6).mono ?_; rintro e w1 ⟨rfl, hb1⟩
  go_wp2
  go_ret2
  exact ⟨rfl, hb1⟩
theorem specAccW_f (s m p T : Int) (w : World) (h : m < 1 ∨ 1000 < m ∨ s < 1 ∨ m < s ∨ p < 0 ∨ m - 1 < p ∨ T < 0 ∨ 400 < T) :
    Calls Try.prog 11 #[.int .i64 s, .int .i64 m, .int .i64 p, .int .i64 T] w fun e w' => e = .returned (.tuple #[.string ⟨#[]⟩, .bool false]) ∧ Below w.heap.size w w' := by
  by_cases k1 : 1 ≤ m ∧ m ≤ 1000 ∧ 1 ≤ s ∧ s ≤ m
  · obtain ⟨k11, k12, k13, k14⟩ := k1
    by_cases k2 : 0 ≤ p ∧ p ≤ m - 1
    · go_enter Try.func11, Try.ntmps11
      go_wp2_with fail
      refine (l03Steps_t _ _ _ k11 k12 k13 k14).mono ?_; rintro e w' ⟨rfl, rfl⟩
      go_wp2_with fail
      refine (l00In_t _ _ _ _ k2.1 k2.2).mono ?_; rintro e w' ⟨rfl, rfl⟩
      go_wp2_with fail
      refine (l00In_f _ _ _ _ (by omega)).mono ?_; rintro e w' ⟨rfl, rfl⟩
      go_wp2
      go_ret2
      exact ⟨rfl, Below.refl _ _⟩
    · go_enter Try.func11, Try.ntmps11
      go_wp2_with fail
      refine (l03Steps_t _ _ _ k11 k12 k13 k14).mono ?_; rintro e w' ⟨rfl, rfl⟩
      go_wp2_with fail
      refine (l00In_f _ _ _ _ (by omega)).mono ?_; rintro e w' ⟨rfl, rfl⟩
      go_wp2
      go_ret2
      exact ⟨rfl, Below.refl _ _⟩
  · go_enter Try.func11, Try.ntmps11
    go_wp2_with fail
    refine (l03Steps_f _ _ _ (by omega)).mono ?_; rintro e w' ⟨rfl, rfl⟩
    go_wp2
    go_ret2
    exact ⟨rfl, Below.refl _ _⟩
theorem implAccW_t (s m p T : Nat) (w : World) (h1 : 1 ≤ m) (h2 : m ≤ 1000) (h3 : 1 ≤ s) (h4 : s ≤ m) (h5 : p < m) (h6 : T ≤ 400) :
    Calls Try.prog 12 #[.int .i64 (s : Int), .int .i64 (m : Int), .int .i64 (p : Int), .int .i64 (T : Int)] w fun e w' => e = .returned (.tuple #[.string ⟨(accL s m p T).toArray⟩, .bool true]) ∧ Below w.heap.size w w' := by
  go_enter Try.func12, Try.ntmps12
  go_wp2_with fail
  refine (accValid_t _ _ _ _ (by omega) (by omega) (by omega) (by omega) (by omega) (by omega)).mono ?_; rintro e w1 ⟨rfl, hb1⟩
  have d0 := cell_keptA hb1 (a := ⟨w.heap.size, 0, none⟩) (v := .int .i64 (s : Int)) (by simp [go_sem])
  have d1 := cell_keptA hb1 (a := ⟨w.heap.size, 1, none⟩) (v := .int .i64 (m : Int)) (by simp [go_sem])
  have d2 := cell_keptA hb1 (a := ⟨w.heap.size, 2, none⟩) (v := .int .i64 (p : Int)) (by simp [go_sem])
  have HB1 := Lib.hid (((Below.refl w.heap.size w).alloc (Nat.le_refl _) _).trans (hb1.mono (by simp)))
  clear hb1
  go_wp2_with fail
  refine (within_i64_t _ _ _ _ (by omega) (by omega)).mono ?_; rintro e w' ⟨rfl, rfl⟩
  go_wp2_with fail
  refine (accWave s m p T _ h4 h2 h5 h6).mono ?_; rintro e w2 ⟨rfl, hb2⟩
  go_wp2
  go_ret2
  exact ⟨rfl, HB1.out.trans (hb2.mono HB1.out.size)⟩
theorem implAccW_f (s m p T : Int) (w : World) (h : m < 1 ∨ 1000 < m ∨ s < 1 ∨ m < s ∨ p < 0 ∨ m - 1 < p ∨ T < 0 ∨ 400 < T) :
    Calls Try.prog 12 #[.int .i64 s, .int .i64 m, .int .i64 p, .int .i64 T] w fun e w' => e = .returned (.tuple #[.string ⟨#[]⟩, .bool false]) ∧ Below w.heap.size w w' := by
  by_cases k1 : 1 ≤ m ∧ m ≤ 1000 ∧ 1 ≤ s ∧ s ≤ m ∧ 0 ≤ p ∧ p ≤ m - 1
  · obtain ⟨k11, k12, k13, k14, k15, k16⟩ := k1
    go_enter Try.func12, Try.ntmps12
    go_wp2_with fail
    refine (accValid_t _ _ _ _ k11 k12 k13 k14 k15 k16).mono ?_; rintro e w1 ⟨rfl, hb1⟩
    go_wp2_with fail
    refine (within_i64_f _ _ _ _ (by omega)).mono ?_; rintro e w' ⟨rfl, rfl⟩
    go_wp2
    go_ret2
    exact ⟨rfl, ((Below.refl _ _).alloc (Nat.le_refl _) _).trans (hb1.mono (by simp))⟩
  · go_enter Try.func12, Try.ntmps12
    go_wp2_with fail
    refine (accValid_f _ _ _ _ (by omega)).mono ?_; rintro e w1 ⟨rfl, hb1⟩
    go_wp2
    go_ret2
    exact ⟨rfl, ((Below.refl _ _).alloc (Nat.le_refl _) _).trans (hb1.mono (by simp))⟩

theorem walk_FnExactAccumulateWave (s m p T : Int) (w : World) (_ws : (Lit.int .i64 s).wf = true) (_wm : (Lit.int .i64 m).wf = true) (_wp : (Lit.int .i64 p).wf = true) (_wT : (Lit.int .i64 T).wf = true) :
    Calls Try.prog 3 #[.int .i64 s, .int .i64 m, .int .i64 p, .int .i64 T] w fun e w' => e = .returned (.bool true) ∧ Below w.heap.size w w' := by
  obtain ⟨r, c, hS, hI⟩ : ∃ (r : ByteArray) (c : Bool), (∀ w, Calls Try.prog 11 #[.int .i64 s, .int .i64 m, .int .i64 p, .int .i64 T] w fun e w' => e = .returned (.tuple #[.string r, .bool c]) ∧ Below w.heap.size w w') ∧ (∀ w, Calls Try.prog 12 #[.int .i64 s, .int .i64 m, .int .i64 p, .int .i64 T] w fun e w' => e = .returned (.tuple #[.string r, .bool c]) ∧ Below w.heap.size w w') := by
    by_cases h : 1 ≤ m ∧ m ≤ 1000 ∧ 1 ≤ s ∧ s ≤ m ∧ 0 ≤ p ∧ p ≤ m - 1 ∧ 0 ≤ T ∧ T ≤ 400
    · obtain ⟨h1, h2, h3, h4, h5, h6, h7, h8⟩ := h
      obtain ⟨a, rfl⟩ := Int.eq_ofNat_of_zero_le (show 0 ≤ s by omega)
      obtain ⟨b, rfl⟩ := Int.eq_ofNat_of_zero_le (show 0 ≤ m by omega)
      obtain ⟨c, rfl⟩ := Int.eq_ofNat_of_zero_le h5
      obtain ⟨d, rfl⟩ := Int.eq_ofNat_of_zero_le h7
      exact ⟨_, _, fun w => specAccW_t a b c d w (by omega) (by omega) (by omega) (by omega) (by omega) (by omega), fun w => implAccW_t a b c d w (by omega) (by omega) (by omega) (by omega) (by omega) (by omega)⟩
    · exact ⟨_, _, fun w => specAccW_f s m p T w (by omega), fun w => implAccW_f s m p T w (by omega)⟩
  have HS := Lib.hid hS
  have HI := Lib.hid hI
  clear hS hI
  go_enter Try.func3, Try.ntmps3
  go_wp2_with fail
  refine (HS.out _).mono ?_; rintro e w1 ⟨rfl, b1⟩
  go_wp2_with fail
  refine (HI.out _).mono ?_; rintro e w2 ⟨rfl, b2⟩
  go_wp2
  go_ret
  exact ⟨rfl, b1.trans (b2.mono b1.size)⟩
end Go.Proofs.Ytejjoejapnnlkab
