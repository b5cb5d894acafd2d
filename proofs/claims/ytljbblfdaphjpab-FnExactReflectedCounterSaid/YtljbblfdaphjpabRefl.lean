/- Contracts and walks: reflected codes, on both sides. -/
import Derived.Test.YtljbblfdaphjpabState
import Derived.Test.YtljbblfdaphjpabBits
import Derived.LoopTactic
namespace Go.Proofs.Ytljbblfdaphjpab
open Go.RowKit

theorem l02Code_nat (n : Nat) (w : World) (h : n < 256) :
    Calls Try.prog 52 #[.int .i64 (n : Int)] w fun e w' => e = .returned (.int .i64 (codeN n : Int)) ∧ w = w' := by
  have hx : bits .xor .i64 (n : Int) ((n : Int) / 2) = (codeN n : Int) := xor_i64 n (n / 2) (by omega) (by omega)
  go_enter Try.func52, Try.ntmps52
  go_wp2
  go_ret
  exact ⟨rfl, rfl⟩
theorem reflected_nat (n : Nat) (w : World) (h : n < 256) :
    Calls Try.prog 63 #[.int .i64 (n : Int)] w fun e w' => e = .returned (.int .i64 (codeN n : Int)) ∧ w = w' := by
  have hx : bits .xor .i64 (n : Int) ((n : Int) / 2) = (codeN n : Int) := xor_i64 n (n / 2) (by omega) (by omega)
  go_enter Try.func63, Try.ntmps63
  go_wp2
  go_ret
  exact ⟨rfl, rfl⟩
theorem specRefl_t (b x : Int) (w : World) (h : StateOk b x) :
    Calls Try.prog 26 #[.int .i64 b, .int .i64 x] w fun e w' => e = .returned (.tuple #[.int .i64 (codeN x.toNat : Int), .bool true]) ∧ Below w.heap.size w w' := by
  obtain ⟨n, rfl⟩ := Int.eq_ofNat_of_zero_le h.2.2.1
  have hb := st_bd b h.1 h.2.1
  have hn : n < 256 := by have := h.2.2.2; omega
  have HH := Lib.hid h
  clear h
  rw [Int.toNat_natCast]
  go_enter Try.func26, Try.ntmps26
  go_wp2_with fail
  refine (l02State_t _ _ _ HH.out).mono ?_; rintro e w' ⟨rfl, rfl⟩
  go_wp2_with fail
  refine (l02Code_nat n _ hn).mono ?_; rintro e w' ⟨rfl, rfl⟩
  go_wp2
  go_ret2
  exact ⟨rfl, Below.refl _ _⟩
theorem specRefl_f (b x : Int) (w : World) (h : ¬ StateOk b x) :
    Calls Try.prog 26 #[.int .i64 b, .int .i64 x] w fun e w' => e = .returned (.tuple #[.int .i64 0, .bool false]) ∧ Below w.heap.size w w' := by
  have HH := Lib.hid h
  clear h
  go_enter Try.func26, Try.ntmps26
  go_wp2_with fail
  refine (l02State_f _ _ _ HH.out).mono ?_; rintro e w' ⟨rfl, rfl⟩
  go_wp2
  go_ret2
  exact ⟨rfl, Below.refl _ _⟩
theorem implRefl_t (b x : Int) (w : World) (h : StateOk b x) :
    Calls Try.prog 27 #[.int .i64 b, .int .i64 x] w fun e w' => e = .returned (.tuple #[.int .i64 (codeN x.toNat : Int), .bool true]) ∧ Below w.heap.size w w' := by
  obtain ⟨n, rfl⟩ := Int.eq_ofNat_of_zero_le h.2.2.1
  have hb := st_bd b h.1 h.2.1
  have hn : n < 256 := by have := h.2.2.2; omega
  have HH := Lib.hid h
  clear h
  rw [Int.toNat_natCast]
  go_enter Try.func27, Try.ntmps27
  go_wp2_with fail
  refine (has_t _ _ _ HH.out).mono ?_; rintro e w' ⟨rfl, rfl⟩
  go_wp2_with fail
  refine (reflected_nat n _ hn).mono ?_; rintro e w' ⟨rfl, rfl⟩
  go_wp2
  go_ret2
  exact ⟨rfl, Below.refl _ _⟩
theorem implRefl_f (b x : Int) (w : World) (h : ¬ StateOk b x) :
    Calls Try.prog 27 #[.int .i64 b, .int .i64 x] w fun e w' => e = .returned (.tuple #[.int .i64 0, .bool false]) ∧ Below w.heap.size w w' := by
  have HH := Lib.hid h
  clear h
  go_enter Try.func27, Try.ntmps27
  go_wp2_with fail
  refine (has_f _ _ _ HH.out).mono ?_; rintro e w' ⟨rfl, rfl⟩
  go_wp2
  go_ret2
  exact ⟨rfl, Below.refl _ _⟩
theorem walk_FnExactReflectedOf (b x : Int) (w : World) (_wb : (Lit.int .i64 b).wf = true) (_wx : (Lit.int .i64 x).wf = true) :
    Calls Try.prog 7 #[.int .i64 b, .int .i64 x] w fun e w' => e = .returned (.bool true) ∧ Below w.heap.size w w' := by
  obtain ⟨r, c, hS, hI⟩ : ∃ (r : Int) (c : Bool), (∀ w, Calls Try.prog 26 #[.int .i64 b, .int .i64 x] w fun e w' => e = .returned (.tuple #[.int .i64 r, .bool c]) ∧ Below w.heap.size w w') ∧ (∀ w, Calls Try.prog 27 #[.int .i64 b, .int .i64 x] w fun e w' => e = .returned (.tuple #[.int .i64 r, .bool c]) ∧ Below w.heap.size w w') := by
    by_cases h : StateOk b x
    · exact ⟨_, _, fun w => specRefl_t b x w h, fun w => implRefl_t b x w h⟩
    · exact ⟨_, _, fun w => specRefl_f b x w h, fun w => implRefl_f b x w h⟩
  have HS := Lib.hid hS
  have HI := Lib.hid hI
  clear hS hI
  go_enter Try.func7, Try.ntmps7
  go_wp2_with fail
  refine (HS.out _).mono ?_; rintro e w1 ⟨rfl, b1⟩
  go_wp2_with fail
  refine (HI.out _).mono ?_; rintro e w2 ⟨rfl, b2⟩
  go_wp2
  go_ret
  exact ⟨rfl, b1.trans (b2.mono b1.size)⟩

theorem fromReflected_nat (c : Nat) (w : World) (h : c < 256) :
    Calls Try.prog 64 #[.int .i64 (c : Int)] w fun e w' => e = .returned (.int .i64 (unN c : Int)) ∧ w = w' := by
  go_enter Try.func64, Try.ntmps64
  go_wp2
  go_loop [0, 3] (fun i x => ∃ (f y d : Nat), i = .int .i64 (d : Int) ∧ x = .int .i64 (y : Int) ∧ d < 2 ^ f ∧ d < 256 ∧ y < 256 ∧ frN f y d = unN c) (fun i _ => (intOf i).toNat)
  case atStart => exact ⟨8, 0, c, rfl, rfl, h, h, by omega, rfl⟩
  case round =>
    obtain ⟨f, y, d, rfl, rfl, hd, hd2, hy, hf⟩ := hrel
    have HF := Lib.hid hf
    clear hf
    by_cases hlt : 0 < d
    · have hx : bits .xor .i64 (y : Int) (d : Int) = ((y ^^^ d : Nat) : Int) := xor_i64 y d (by omega) (by omega)
      obtain ⟨f', rfl⟩ : ∃ f', f = f' + 1 := by
        cases f with
        | zero => exact absurd hd (by simp; omega)
        | succ f' => exact ⟨f', rfl⟩
      have HS := Lib.hid (frN_step f' y d hlt)
      have HX := Lib.hid (Nat.xor_lt_two_pow (n := 8) (x := y) (y := d) hy hd2)
      have HD := Lib.hid hd
      clear hd
      go_wp2
      go_round
      case rel => exact ⟨f', y ^^^ d, d / 2, by go_num, rfl, by have := HD.out; rw [Nat.pow_succ] at this; omega, by omega, HX.out, by rw [← HS.out, HF.out]⟩
      case measure => simp [intOf]; omega
    · obtain rfl : d = 0 := by omega
      have HE := Lib.hid (frN_zero f y)
      clear hd
      go_wp2
      go_ret
      exact ⟨ret_int (by rw [← HF.out, HE.out]), rfl⟩
theorem specFrom_f (b x : Int) (w : World) (h : ¬ StateOk b x) :
    Calls Try.prog 28 #[.int .i64 b, .int .i64 x] w fun e w' => e = .returned (.tuple #[.int .i64 0, .bool false]) ∧ Below w.heap.size w w' := by
  have HH := Lib.hid h
  clear h
  go_enter Try.func28, Try.ntmps28
  go_wp2_with fail
  refine (l02State_f _ _ _ HH.out).mono ?_; rintro e w' ⟨rfl, rfl⟩
  go_wp2
  go_ret2
  exact ⟨rfl, Below.refl _ _⟩
theorem implFrom_f (b x : Int) (w : World) (h : ¬ StateOk b x) :
    Calls Try.prog 29 #[.int .i64 b, .int .i64 x] w fun e w' => e = .returned (.tuple #[.int .i64 0, .bool false]) ∧ Below w.heap.size w w' := by
  have HH := Lib.hid h
  clear h
  go_enter Try.func29, Try.ntmps29
  go_wp2_with fail
  refine (has_f _ _ _ HH.out).mono ?_; rintro e w' ⟨rfl, rfl⟩
  go_wp2
  go_ret2
  exact ⟨rfl, Below.refl _ _⟩
theorem implFrom_t (b x : Int) (w : World) (h : StateOk b x) :
    Calls Try.prog 29 #[.int .i64 b, .int .i64 x] w fun e w' => e = .returned (.tuple #[.int .i64 (unN x.toNat : Int), .bool true]) ∧ Below w.heap.size w w' := by
  obtain ⟨n, rfl⟩ := Int.eq_ofNat_of_zero_le h.2.2.1
  have hb := st_bd b h.1 h.2.1
  have hn : n < 256 := by have := h.2.2.2; omega
  have HH := Lib.hid h
  clear h
  rw [Int.toNat_natCast]
  go_enter Try.func29, Try.ntmps29
  go_wp2_with fail
  refine (has_t _ _ _ HH.out).mono ?_; rintro e w' ⟨rfl, rfl⟩
  go_wp2_with fail
  refine (fromReflected_nat n _ hn).mono ?_; rintro e w' ⟨rfl, rfl⟩
  go_wp2
  go_ret2
  exact ⟨rfl, Below.refl _ _⟩
theorem specFrom_t (b x : Int) (w : World) (h : StateOk b x) :
    Calls Try.prog 28 #[.int .i64 b, .int .i64 x] w fun e w' => e = .returned (.tuple #[.int .i64 (unN x.toNat : Int), .bool true]) ∧ Below w.heap.size w w' := by
  obtain ⟨n, rfl⟩ := Int.eq_ofNat_of_zero_le h.2.2.1
  have hb := st_bd b h.1 h.2.1
  have hn : n < 256 := by have := h.2.2.2; omega
  have HH := Lib.hid h
  clear h
  rw [Int.toNat_natCast]
  obtain ⟨u1, u2, _, _⟩ := unN_facts n hn
  have HU := Lib.hid u1
  clear u1
  go_enter Try.func28, Try.ntmps28
  go_wp2_with fail
  refine (l02State_t _ _ _ HH.out).mono ?_; rintro e w' ⟨rfl, rfl⟩
  go_wp2
  go_loop [6] (fun i => ∃ k : Nat, i = .int .i64 (k : Int) ∧ k ≤ unN n) (fun i => unN n - (intOf i).toNat)
  case atStart => exact ⟨0, rfl, Nat.zero_le _⟩
  case round =>
    obtain ⟨k, rfl, hk⟩ := hrel
    by_cases he : codeN k = n
    · obtain rfl : k = unN n := by rw [← he]; exact ((unN_facts k (by omega)).2.2.2).symm
      have h1 : ((codeN (unN n) : Int) != (n : Int)) = false := by rw [he]; simp
      clear he
      go_wp2_with fail
      refine (l02Code_nat _ _ (by omega)).mono ?_; rintro e w' ⟨rfl, rfl⟩
      go_wp2
      go_ret2
      exact ⟨rfl, Below.refl _ _⟩
    · have h1 : ((codeN k : Int) != (n : Int)) = true := by simp; omega
      have hne : k ≠ unN n := by intro h; exact he (by rw [h]; exact HU.out)
      have hlt : k < unN n := by omega
      clear he hne
      go_wp2_with fail
      refine (l02Code_nat _ _ (by omega)).mono ?_; rintro e w' ⟨rfl, rfl⟩
      go_wp2
      go_round
      case rel => exact ⟨k + 1, by go_num, by omega⟩
      case measure => simp [intOf]; omega
theorem walk_FnExactFromReflected (b x : Int) (w : World) (_wb : (Lit.int .i64 b).wf = true) (_wx : (Lit.int .i64 x).wf = true) :
    Calls Try.prog 8 #[.int .i64 b, .int .i64 x] w fun e w' => e = .returned (.bool true) ∧ Below w.heap.size w w' := by
  obtain ⟨r, c, hS, hI⟩ : ∃ (r : Int) (c : Bool), (∀ w, Calls Try.prog 28 #[.int .i64 b, .int .i64 x] w fun e w' => e = .returned (.tuple #[.int .i64 r, .bool c]) ∧ Below w.heap.size w w') ∧ (∀ w, Calls Try.prog 29 #[.int .i64 b, .int .i64 x] w fun e w' => e = .returned (.tuple #[.int .i64 r, .bool c]) ∧ Below w.heap.size w w') := by
    by_cases h : StateOk b x
    · exact ⟨_, _, fun w => specFrom_t b x w h, fun w => implFrom_t b x w h⟩
    · exact ⟨_, _, fun w => specFrom_f b x w h, fun w => implFrom_f b x w h⟩
  have HS := Lib.hid hS
  have HI := Lib.hid hI
  clear hS hI
  go_enter Try.func8, Try.ntmps8
  go_wp2_with fail
  refine (HS.out _).mono ?_; rintro e w1 ⟨rfl, b1⟩
  go_wp2_with fail
  refine (HI.out _).mono ?_; rintro e w2 ⟨rfl, b2⟩
  go_wp2
  go_ret
  exact ⟨rfl, b1.trans (b2.mono b1.size)⟩
end Go.Proofs.Ytljbblfdaphjpab
