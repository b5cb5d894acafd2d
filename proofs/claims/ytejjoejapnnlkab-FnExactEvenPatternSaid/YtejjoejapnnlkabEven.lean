/- An even pattern, on both sides, and the walk of its law. -/
import Derived.Test.YtejjoejapnnlkabAccLaw
namespace Go.Proofs.Ytejjoejapnnlkab
open Go.RowKit
set_option linter.unusedVariables false

theorem even_parts (s m i : Nat) (hm : 0 < m) (hs : s ≤ m) :
    ((i * s) % m < m) ∧ (m ≤ (i * s) % m + s → ((i + 1) * s) / m = i * s / m + 1 ∧ ((i + 1) * s) % m = (i * s) % m + s - m) ∧
    (¬ m ≤ (i * s) % m + s → ((i + 1) * s) / m = i * s / m ∧ ((i + 1) * s) % m = (i * s) % m + s) := by
  have h1 := Nat.mod_lt (i * s) hm
  have h2 := Nat.div_add_mod (i * s) m
  have h3 : (i + 1) * s = i * s + s := by rw [Nat.add_mul, Nat.one_mul]
  generalize hr : (i * s) % m = r at *
  generalize hq : (i * s) / m = q at *
  refine ⟨h1, fun h => ?_, fun h => ?_⟩
  · have e : (i + 1) * s = (r + s - m) + m * (q + 1) := by rw [h3, ← h2, Nat.mul_add, Nat.mul_one]; omega
    rw [e, Nat.add_mul_div_left _ _ hm, Nat.add_mul_mod_self_left, Nat.div_eq_of_lt (by omega), Nat.mod_eq_of_lt (by omega)]
    omega
  · have e : (i + 1) * s = (r + s) + m * q := by rw [h3, ← h2]; omega
    rw [e, Nat.add_mul_div_left _ _ hm, Nat.add_mul_mod_self_left, Nat.div_eq_of_lt (by omega), Nat.mod_eq_of_lt (by omega)]
    omega

set_option maxHeartbeats 1000000 in
set_option maxRecDepth 100000 in
theorem specEven_t (m s : Nat) (w : World) (h1 : 1 ≤ m) (h2 : m ≤ 64) (h4 : s ≤ m) :
    Calls Try.prog 13 #[.int .i64 (m : Int), .int .i64 (s : Int)] w fun e w' => e = .returned (.tuple #[.string ⟨(accL s m 0 m).toArray⟩, .bool true]) ∧ Below w.heap.size w w' := by
  obtain ⟨i0, hi, hz0, hz1, hz2⟩ := info_parts info_u8
  go_enter Try.func13, Try.ntmps13
  go_wp2_with fail
  refine (l00In_t _ _ _ _ (by omega) (by omega)).mono ?_; rintro e w' ⟨rfl, rfl⟩
  go_wp2_with fail
  refine (l00In_t _ _ _ _ (by omega) (by omega)).mono ?_; rintro e w' ⟨rfl, rfl⟩
  go_wp2
  go_loopw [6, 7, 8] (fun v ix _c wr => ∃ (i : Nat) (L : List UInt8), ix = .int .i64 (i : Int) ∧ i ≤ m ∧ L.length = i ∧ L ++ accL s m (i * s % m) (m - i) = accL s m 0 m ∧ Buf wr w.heap.size v L ∧ Below w.heap.size w wr) (fun _ ix _ _ => m - (intOf ix).toNat)
  case atStart => exact ⟨0, [], rfl, Nat.zero_le _, rfl, by simp, Buf.lit w, (Below.refl _ _).alloc (Nat.le_refl _) _⟩
  case round =>
    obtain ⟨i, L, rfl, hk, hL, hacc, hbuf, hB⟩ := hrel
    have HB := Lib.hid hbuf
    have HL := Lib.hid hL
    have hLb : L.length ≤ 64 := by omega
    clear hbuf hL
    have hsz := hB.size
    have hpar := even_parts s m i (by omega) h4
    by_cases hlt : i < m
    · have hn0 : ¬ (m : Int) = 0 := by omega
      have hne : ((m : Int) == 0) = false := by simp; omega
      obtain ⟨q0, hq0⟩ : ∃ q0 : Nat, i * s / m = q0 := ⟨_, rfl⟩
      have hB0 : i * s ≤ 64 * 64 := Nat.mul_le_mul (by omega) (by omega)
      have hq0' : q0 ≤ 4096 := by rw [← hq0]; exact Nat.le_trans (Nat.div_le_self _ _) hB0
      rw [hq0] at hpar
      have d0 : IntKind.i64.wrap (((i : Int) * (s : Int)).tdiv (m : Int)) = (q0 : Int) := by
        rw [show (i : Int) * (s : Int) = ((i * s : Nat) : Int) from by simp, Int.tdiv_eq_ediv_of_nonneg (by omega), show (((i * s : Nat) : Int) / (m : Int)) = ((i * s / m : Nat) : Int) from by simp, hq0]
        exact IntWalk.i64_in _ (by omega)
      have hq0x : ((i : Int) * (s : Int)) / (m : Int) = (q0 : Int) := by rw [← hq0]; simp
      by_cases hm : m ≤ i * s % m + s
      · obtain ⟨q1, hq1, hq2⟩ : ∃ q1 : Nat, ((i + 1) * s) / m = q1 ∧ q1 = q0 + 1 := ⟨_, rfl, (hpar.2.1 hm).1⟩
        have HS := Lib.hid (by have := accT_hit s m (i * s % m) (m - i) L _ (by omega) hacc hm; rw [← (hpar.2.1 hm).2, show m - i - 1 = m - (i + 1) from by omega] at this; exact this)
        have hA : ((i : Int) + 1) * (s : Int) = (((i + 1) * s : Nat) : Int) := by simp
        have hAb : (i + 1) * s ≤ 64 * 64 := Nat.mul_le_mul (by omega) (by omega)
        have hqb : q1 ≤ 4096 := by rw [← hq1]; exact Nat.le_trans (Nat.div_le_self _ _) hAb
        have hqx : (((i : Int) + 1) * (s : Int)) / (m : Int) = (q1 : Int) := by rw [← hq1]; simp
        have d1 : IntKind.i64.wrap ((((i : Int) + 1) * (s : Int)).tdiv (m : Int)) = (q1 : Int) := by
          rw [Int.tdiv_eq_ediv_of_nonneg (by rw [hA]; omega), hqx]
          exact IntWalk.i64_in _ (by omega)
        have wA : IntKind.i64.wrap (((i : Int) + 1) * (s : Int)) = ((i : Int) + 1) * (s : Int) := by rw [hA]; exact IntWalk.i64_in _ (by omega)
        have wB : IntKind.i64.wrap ((i : Int) * (s : Int)) = (i : Int) * (s : Int) := by rw [show (i : Int) * (s : Int) = ((i * s : Nat) : Int) from by simp]; exact IntWalk.i64_in _ (by omega)
        clear hA hAb hB0 hq1 hq0
        clear hacc hpar
        have hm' := Lib.hid hm
        clear hm
        go_wp2
        go_quiet (fail)
        go_wp2_with (at_builtin; refine wpList_append_own _ rfl _ _ 56 rfl w.heap.size 5 i0 (.int .u8 0) 1 1 Try.underlying56 hi hz0 hz1 hz2 rfl (by decide) _ _ _ rfl (HB.out.alloc _) ⟨wr.heap.size, 0, none⟩ 1 1 [.int .u8 49] rfl rfl ?c1 ?c2 ?c3 ?c4 ?c5 ?_)
        case c1 => exact cell_one_new _ _ _
        case c2 => simp [Value.oneCell']
        case c3 => unfold maxLen; omega
        case c4 => omega
        case c5 => simp; omega
        intro v' w1 hown' hgrow _
        have HO := Lib.hid (Buf.snoc (b := (49 : UInt8)) hown')
        have HW := Lib.hid (Buf.below (below_drawnA hB nq) (show Buf (wr.drewN nq) w.heap.size _ L from HB.out) _ hgrow)
        clear hown' hgrow
        go_wp2
        go_roundw
        case rel => exact ⟨i + 1, L ++ [49], by go_num, by omega, by have := HL.out; simp; omega, HS.out, HO.out, HW.out⟩
        case measure => simp [intOf]; omega

      · obtain ⟨q1, hq1, hq2⟩ : ∃ q1 : Nat, ((i + 1) * s) / m = q1 ∧ q1 = q0 := ⟨_, rfl, (hpar.2.2 hm).1⟩
        have HS := Lib.hid (by have := accT_miss s m (i * s % m) (m - i) L _ (by omega) hacc hm; rw [← (hpar.2.2 hm).2, show m - i - 1 = m - (i + 1) from by omega] at this; exact this)
        have hA : ((i : Int) + 1) * (s : Int) = (((i + 1) * s : Nat) : Int) := by simp
        have hAb : (i + 1) * s ≤ 64 * 64 := Nat.mul_le_mul (by omega) (by omega)
        have hqb : q1 ≤ 4096 := by rw [← hq1]; exact Nat.le_trans (Nat.div_le_self _ _) hAb
        have hqx : (((i : Int) + 1) * (s : Int)) / (m : Int) = (q1 : Int) := by rw [← hq1]; simp
        have d1 : IntKind.i64.wrap ((((i : Int) + 1) * (s : Int)).tdiv (m : Int)) = (q1 : Int) := by
          rw [Int.tdiv_eq_ediv_of_nonneg (by rw [hA]; omega), hqx]
          exact IntWalk.i64_in _ (by omega)
        have wA : IntKind.i64.wrap (((i : Int) + 1) * (s : Int)) = ((i : Int) + 1) * (s : Int) := by rw [hA]; exact IntWalk.i64_in _ (by omega)
        have wB : IntKind.i64.wrap ((i : Int) * (s : Int)) = (i : Int) * (s : Int) := by rw [show (i : Int) * (s : Int) = ((i * s : Nat) : Int) from by simp]; exact IntWalk.i64_in _ (by omega)
        clear hA hAb hB0 hq1 hq0
        clear hacc hpar
        have hm' := Lib.hid hm
        clear hm
        go_wp2
        go_quiet (fail)
        go_wp2_with (at_builtin; refine wpList_append_own _ rfl _ _ 56 rfl w.heap.size 5 i0 (.int .u8 0) 1 1 Try.underlying56 hi hz0 hz1 hz2 rfl (by decide) _ _ _ rfl (HB.out.alloc _) ⟨wr.heap.size, 0, none⟩ 1 1 [.int .u8 48] rfl rfl ?c1 ?c2 ?c3 ?c4 ?c5 ?_)
        case c1 => exact cell_one_new _ _ _
        case c2 => simp [Value.oneCell']
        case c3 => unfold maxLen; omega
        case c4 => omega
        case c5 => simp; omega
        intro v' w1 hown' hgrow _
        have HO := Lib.hid (Buf.snoc (b := (48 : UInt8)) hown')
        have HW := Lib.hid (Buf.below (below_drawnA hB nq) (show Buf (wr.drewN nq) w.heap.size _ L from HB.out) _ hgrow)
        clear hown' hgrow
        go_wp2
        go_roundw
        case rel => exact ⟨i + 1, L ++ [48], by go_num, by omega, by have := HL.out; simp; omega, HS.out, HO.out, HW.out⟩
        case measure => simp [intOf]; omega

    · have HS := Lib.hid (accT_over s m (i * s % m) (m - i) L _ (by omega) hacc)
      have hconv := run_buf_string _ _ _ _ HB.out
      go_wp2
      go_ret2
      exact ⟨by rw [← HS.out]; rfl, hB⟩
theorem specEven_f (m s : Int) (w : World) (h : m < 1 ∨ 64 < m ∨ s < 0 ∨ m < s) :
    Calls Try.prog 13 #[.int .i64 m, .int .i64 s] w fun e w' => e = .returned (.tuple #[.string ⟨#[]⟩, .bool false]) ∧ Below w.heap.size w w' := by
  by_cases k1 : 1 ≤ m ∧ m ≤ 64
  · go_enter Try.func13, Try.ntmps13
    go_wp2_with fail
    refine (l00In_t _ _ _ _ k1.1 k1.2).mono ?_; rintro e w' ⟨rfl, rfl⟩
    go_wp2_with fail
    refine (l00In_f _ _ _ _ (by omega)).mono ?_; rintro e w' ⟨rfl, rfl⟩
    go_wp2
    go_ret2
    exact ⟨rfl, Below.refl _ _⟩
  · go_enter Try.func13, Try.ntmps13
    go_wp2_with fail
    refine (l00In_f _ _ _ _ (by omega)).mono ?_; rintro e w' ⟨rfl, rfl⟩
    go_wp2
    go_ret2
    exact ⟨rfl, Below.refl _ _⟩
theorem implEven_f (m s : Int) (w : World) (h : m < 1 ∨ 64 < m ∨ s < 0 ∨ m < s) :
    Calls Try.prog 14 #[.int .i64 m, .int .i64 s] w fun e w' => e = .returned (.tuple #[.string ⟨#[]⟩, .bool false]) ∧ Below w.heap.size w w' := by
  by_cases k1 : 1 ≤ m ∧ m ≤ 64
  · go_enter Try.func14, Try.ntmps14
    go_wp2_with fail
    refine (within_i64_t _ _ _ _ k1.1 k1.2).mono ?_; rintro e w' ⟨rfl, rfl⟩
    go_wp2_with fail
    refine (within_i64_f _ _ _ _ (by omega)).mono ?_; rintro e w' ⟨rfl, rfl⟩
    go_wp2
    go_ret2
    exact ⟨rfl, Below.refl _ _⟩
  · go_enter Try.func14, Try.ntmps14
    go_wp2_with fail
    refine (within_i64_f _ _ _ _ (by omega)).mono ?_; rintro e w' ⟨rfl, rfl⟩
    go_wp2
    go_ret2
    exact ⟨rfl, Below.refl _ _⟩
theorem implEven_t (m s : Nat) (w : World) (h1 : 1 ≤ m) (h2 : m ≤ 64) (h4 : s ≤ m) :
    Calls Try.prog 14 #[.int .i64 (m : Int), .int .i64 (s : Int)] w fun e w' => e = .returned (.tuple #[.string ⟨(accL s m 0 m).toArray⟩, .bool true]) ∧ Below w.heap.size w w' := by
  go_enter Try.func14, Try.ntmps14
  go_wp2_with fail
  refine (within_i64_t _ _ _ _ (by omega) (by omega)).mono ?_; rintro e w' ⟨rfl, rfl⟩
  go_wp2_with fail
  refine (within_i64_t _ _ _ _ (by omega) (by omega)).mono ?_; rintro e w' ⟨rfl, rfl⟩
  go_wp2_with fail
  refine (accWave s m 0 m _ h4 (by omega) (by omega) (by omega)).mono ?_; rintro e w2 ⟨rfl, hb2⟩
  go_wp2
  go_ret2
  exact ⟨rfl, hb2⟩

theorem walk_FnExactEvenPattern (m s : Int) (w : World) (_wm : (Lit.int .i64 m).wf = true) (_ws : (Lit.int .i64 s).wf = true) :
    Calls Try.prog 4 #[.int .i64 m, .int .i64 s] w fun e w' => e = .returned (.bool true) ∧ Below w.heap.size w w' := by
  obtain ⟨r, c, hS, hI⟩ : ∃ (r : ByteArray) (c : Bool), (∀ w, Calls Try.prog 13 #[.int .i64 m, .int .i64 s] w fun e w' => e = .returned (.tuple #[.string r, .bool c]) ∧ Below w.heap.size w w') ∧ (∀ w, Calls Try.prog 14 #[.int .i64 m, .int .i64 s] w fun e w' => e = .returned (.tuple #[.string r, .bool c]) ∧ Below w.heap.size w w') := by
    by_cases h : 1 ≤ m ∧ m ≤ 64 ∧ 0 ≤ s ∧ s ≤ m
    · obtain ⟨h1, h2, h3, h4⟩ := h
      obtain ⟨a, rfl⟩ := Int.eq_ofNat_of_zero_le h3
      obtain ⟨b, rfl⟩ := Int.eq_ofNat_of_zero_le (show 0 ≤ m by omega)
      exact ⟨_, _, fun w => specEven_t b a w (by omega) (by omega) (by omega), fun w => implEven_t b a w (by omega) (by omega) (by omega)⟩
    · exact ⟨_, _, fun w => specEven_f m s w (by omega), fun w => implEven_f m s w (by omega)⟩
  have HS := Lib.hid hS
  have HI := Lib.hid hI
  clear hS hI
  go_enter Try.func4, Try.ntmps4
  go_wp2_with fail
  refine (HS.out _).mono ?_; rintro e w1 ⟨rfl, b1⟩
  go_wp2_with fail
  refine (HI.out _).mono ?_; rintro e w2 ⟨rfl, b2⟩
  go_wp2
  go_ret
  exact ⟨rfl, b1.trans (b2.mono b1.size)⟩
end Go.Proofs.Ytejjoejapnnlkab
