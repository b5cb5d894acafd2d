/- Filtered waves: the program's side, both sides, and the laws' walks. -/
import Derived.Test.YtfekdmnhlbjmaaaFilt
import Derived.Test.YtfekdmnhlbjmaaaFltS
namespace Go.Proofs.Ytfekdmnhlbjmaaa
open Go.RowKit Go.Shelf
set_option linter.unusedVariables false

theorem filt_none (s : ByteArray) (T : Int) (v : Value) (w : World) (hs : s.size ≤ maxLen) (hc : canB s T = false) :
    Calls Try.prog 48 #[.string s, .int .i64 T, v] w fun e w' => e = .returned (.tuple #[.string ⟨#[]⟩, .bool false]) ∧ Below w.heap.size w w' := by
  have HC := Lib.hid (fun w => canF_any s T w hs)
  rw [hc] at HC
  go_enter Try.func48, Try.ntmps48
  go_wp2_with fail
  refine (HC.out _).mono ?_; rintro e w1 ⟨rfl, b1⟩
  go_wp2
  go_ret2
  exact ⟨rfl, b1⟩
theorem rule_new (w : World) (f : Nat) : RuleAt (w.alloc (.cells #[.bool false, .func (.func f) #[] #[]] TRul)) w.heap.size false f := by unfold RuleAt World.alloc; simp
theorem below_boxed {w w' : World} (o : Obj) (h : (w.alloc o).grownBy w' (some w.heap.size)) : Below w.heap.size w w' := by
  have h0 : Below w.heap.size w (w.alloc o) := (Below.refl _ _).alloc (Nat.le_refl _) _
  exact ⟨h.os.trans h0.os, h.tape.trans h0.tape, h.output.trans h0.output, Nat.le_trans h0.size h.size, fun k hk => (h.block k (Nat.lt_of_lt_of_le hk h0.size) (by simp; omega)).trans (h0.block k hk)⟩
theorem fraw (T : Int) (h : 1 ≤ T ∧ T ≤ 50) : ∃ n : Nat, T = (n : Int) := ⟨T.toNat, by omega⟩
set_option maxHeartbeats 1000000 in
theorem implDeb_t (s : ByteArray) (T : Nat) (w : World) (hs : s.size ≤ maxLen) (hc : canB s (T : Int) = true) :
    Calls Try.prog 22 #[.string s, .int .i64 (T : Int)] w fun e w' => e = .returned (.tuple #[.string (outS (fltL (decDeb T) T s) s.size), .bool true]) ∧ Below w.heap.size w w' := by
  have HF := Lib.hid (filt_any s T 49 w.heap.size (decDeb T) (deb_dec T) _ hs hc (rule_new w 49))
  go_enter Try.func22, Try.ntmps22
  go_wp2_with fail
  refine HF.out.mono ?_; rintro e w1 ⟨rfl, g1⟩
  have HB := Lib.hid (below_boxed _ g1)
  clear g1
  go_wp2
  go_ret2
  exact ⟨rfl, HB.out⟩
theorem implDeb_f (s : ByteArray) (T : Int) (w : World) (hs : s.size ≤ maxLen) (hc : canB s T = false) :
    Calls Try.prog 22 #[.string s, .int .i64 T] w fun e w' => e = .returned (.tuple #[.string ⟨#[]⟩, .bool false]) ∧ Below w.heap.size w w' := by
  go_enter Try.func22, Try.ntmps22
  go_wp2_with fail
  refine (filt_none s T _ _ hs hc).mono ?_; rintro e w1 ⟨rfl, b1⟩
  go_wp2
  go_ret2
  exact ⟨rfl, ((Below.refl _ w).alloc (Nat.le_refl _) _).trans (b1.mono (by simp))⟩
theorem deb_both (s : ByteArray) (T : Int) (h_s : s.size ≤ maxLen) (h_T : (Lit.int .i64 T).wf = true) (l_s : (s.size : Int) ≤ 1048576) : ∃ (r0 : ByteArray) (r1 : Bool), (∀ w, Calls Try.prog 21 #[.string s, .int .i64 T] w fun e w' => e = .returned (.tuple #[.string r0, .bool r1]) ∧ Below w.heap.size w w') ∧ (∀ w, Calls Try.prog 22 #[.string s, .int .i64 T] w fun e w' => e = .returned (.tuple #[.string r0, .bool r1]) ∧ Below w.heap.size w w') := by
  cases hc : canB s T with
  | true =>
    obtain ⟨n, rfl⟩ := fraw T (canB_t hc).2
    exact ⟨_, _, fun w => specDeb_t s n w h_s hc, fun w => implDeb_t s n w h_s hc⟩
  | false => exact ⟨_, _, fun w => specDeb_f s T w h_s hc, fun w => implDeb_f s T w h_s hc⟩
set_option maxHeartbeats 1000000 in
set_option maxRecDepth 100000 in
theorem walk_FnExactDebounce (s : ByteArray) (T : Int) (w : World) (h_s : s.size ≤ maxLen) (h_T : (Lit.int .i64 T).wf = true) :
    Calls Try.prog 6 #[.string s, .int .i64 T] w fun e w' => e = .returned (.bool true) ∧ Below w.heap.size w w' := by
  by_cases l_s : (s.size : Int) ≤ 1048576
  case neg =>
    go_enter Try.func6, Try.ntmps6
    go_wp2
    go_ret
    exact ⟨rfl, Below.refl _ _⟩
  obtain ⟨r0, r1, hS, hI⟩ := deb_both s T h_s h_T l_s
  have HS := Lib.hid hS
  have HI := Lib.hid hI
  clear hS hI
  go_enter Try.func6, Try.ntmps6
  go_wp2_with fail
  refine (HS.out _).mono ?_; rintro e w1 ⟨rfl, b1⟩
  go_wp2_with fail
  refine (HI.out _).mono ?_; rintro e w2 ⟨rfl, b2⟩
  go_wp2
  go_ret
  exact ⟨rfl, b1.trans (b2.mono b1.size)⟩
set_option maxHeartbeats 1000000 in
theorem implStr_t (s : ByteArray) (T : Nat) (w : World) (hs : s.size ≤ maxLen) (hc : canB s (T : Int) = true) :
    Calls Try.prog 24 #[.string s, .int .i64 (T : Int)] w fun e w' => e = .returned (.tuple #[.string (outS (fltL decStr T s) s.size), .bool true]) ∧ Below w.heap.size w w' := by
  have HF := Lib.hid (filt_any s T 52 w.heap.size decStr (str_dec T) _ hs hc (rule_new w 52))
  go_enter Try.func24, Try.ntmps24
  go_wp2_with fail
  refine HF.out.mono ?_; rintro e w1 ⟨rfl, g1⟩
  have HB := Lib.hid (below_boxed _ g1)
  clear g1
  go_wp2
  go_ret2
  exact ⟨rfl, HB.out⟩
theorem implStr_f (s : ByteArray) (T : Int) (w : World) (hs : s.size ≤ maxLen) (hc : canB s T = false) :
    Calls Try.prog 24 #[.string s, .int .i64 T] w fun e w' => e = .returned (.tuple #[.string ⟨#[]⟩, .bool false]) ∧ Below w.heap.size w w' := by
  go_enter Try.func24, Try.ntmps24
  go_wp2_with fail
  refine (filt_none s T _ _ hs hc).mono ?_; rintro e w1 ⟨rfl, b1⟩
  go_wp2
  go_ret2
  exact ⟨rfl, ((Below.refl _ w).alloc (Nat.le_refl _) _).trans (b1.mono (by simp))⟩
theorem str_both (s : ByteArray) (T : Int) (h_s : s.size ≤ maxLen) (h_T : (Lit.int .i64 T).wf = true) (l_s : (s.size : Int) ≤ 1048576) : ∃ (r0 : ByteArray) (r1 : Bool), (∀ w, Calls Try.prog 23 #[.string s, .int .i64 T] w fun e w' => e = .returned (.tuple #[.string r0, .bool r1]) ∧ Below w.heap.size w w') ∧ (∀ w, Calls Try.prog 24 #[.string s, .int .i64 T] w fun e w' => e = .returned (.tuple #[.string r0, .bool r1]) ∧ Below w.heap.size w w') := by
  cases hc : canB s T with
  | true =>
    obtain ⟨n, rfl⟩ := fraw T (canB_t hc).2
    exact ⟨_, _, fun w => specStr_t s n w h_s hc, fun w => implStr_t s n w h_s hc⟩
  | false => exact ⟨_, _, fun w => specStr_f s T w h_s hc, fun w => implStr_f s T w h_s hc⟩
set_option maxHeartbeats 1000000 in
set_option maxRecDepth 100000 in
theorem walk_FnExactStretchPulses (s : ByteArray) (T : Int) (w : World) (h_s : s.size ≤ maxLen) (h_T : (Lit.int .i64 T).wf = true) :
    Calls Try.prog 7 #[.string s, .int .i64 T] w fun e w' => e = .returned (.bool true) ∧ Below w.heap.size w w' := by
  by_cases l_s : (s.size : Int) ≤ 1048576
  case neg =>
    go_enter Try.func7, Try.ntmps7
    go_wp2
    go_ret
    exact ⟨rfl, Below.refl _ _⟩
  obtain ⟨r0, r1, hS, hI⟩ := str_both s T h_s h_T l_s
  have HS := Lib.hid hS
  have HI := Lib.hid hI
  clear hS hI
  go_enter Try.func7, Try.ntmps7
  go_wp2_with fail
  refine (HS.out _).mono ?_; rintro e w1 ⟨rfl, b1⟩
  go_wp2_with fail
  refine (HI.out _).mono ?_; rintro e w2 ⟨rfl, b2⟩
  go_wp2
  go_ret
  exact ⟨rfl, b1.trans (b2.mono b1.size)⟩
set_option maxHeartbeats 1000000 in
theorem implMaj_t (s : ByteArray) (T : Nat) (w : World) (hs : s.size ≤ maxLen) (hc : canB s (T : Int) = true) (hodd : T % 2 = 1) :
    Calls Try.prog 26 #[.string s, .int .i64 (T : Int)] w fun e w' => e = .returned (.tuple #[.string (outS (fltL (decMaj T) T s) s.size), .bool true]) ∧ Below w.heap.size w w' := by
  have hr : Int.tmod (T : Int) 2 = 1 := by rw [show Int.tmod (T : Int) 2 = ((T % 2 : Nat) : Int) from rfl, hodd]; rfl
  have hr2 : (T : Int) % 2 = 1 := by omega
  have HF := Lib.hid (filt_any s T 53 w.heap.size (decMaj T) (maj_dec T) _ hs hc (rule_new w 53))
  go_enter Try.func26, Try.ntmps26
  go_wp2_with fail
  refine HF.out.mono ?_; rintro e w1 ⟨rfl, g1⟩
  have HB := Lib.hid (below_boxed _ g1)
  clear g1
  go_wp2
  go_ret2
  exact ⟨rfl, HB.out⟩
theorem even_tmod (T : Int) (h : T.tmod 2 ≠ 0 → False) : T.tmod 2 = 0 := Decidable.byContradiction fun q => h q
theorem specMaj_f (s : ByteArray) (T : Int) (w : World) (hs : s.size ≤ maxLen) (wT : (Lit.int .i64 T).wf = true) (h : canB s T = false ∨ T.tmod 2 = 0) :
    Calls Try.prog 25 #[.string s, .int .i64 T] w fun e w' => e = .returned (.tuple #[.string ⟨#[]⟩, .bool false]) ∧ Below w.heap.size w w' := by
  have HF := Lib.hid (fun w => l09F_any s T w hs)
  cases hc : canB s T with
  | false =>
    rw [hc] at HF
    go_enter Try.func25, Try.ntmps25
    go_wp2_with fail
    refine (HF.out _).mono ?_; rintro e w1 ⟨rfl, rfl⟩
    go_wp2
    go_ret2
    exact ⟨rfl, Below.refl _ _⟩
  | true =>
    rw [hc] at HF
    have h2 : T.tmod 2 = 0 := h.resolve_left (by rw [hc]; simp)
    go_enter Try.func25, Try.ntmps25
    go_wp2_with fail
    refine (HF.out _).mono ?_; rintro e w1 ⟨rfl, rfl⟩
    go_wp2
    go_ret2
    exact ⟨rfl, Below.refl _ _⟩
theorem implMaj_f (s : ByteArray) (T : Int) (w : World) (hs : s.size ≤ maxLen) (wT : (Lit.int .i64 T).wf = true) (h : canB s T = false ∨ T.tmod 2 = 0) :
    Calls Try.prog 26 #[.string s, .int .i64 T] w fun e w' => e = .returned (.tuple #[.string ⟨#[]⟩, .bool false]) ∧ Below w.heap.size w w' := by
  by_cases h2 : T.tmod 2 = 0
  · go_enter Try.func26, Try.ntmps26
    go_wp2
    go_ret2
    exact ⟨rfl, Below.refl _ _⟩
  · have hc : canB s T = false := h.resolve_right h2
    have h3 : (T.tmod 2 == 0) = false := by simp [h2]
    have h4 : IntKind.i64.wrap (T.tmod 2) = T.tmod 2 := IntWalk.i64_in _ (by have := Int.tmod_lt_of_pos T (show (0 : Int) < 2 by omega); have := Int.lt_tmod_of_pos T (show (0 : Int) < 2 by omega); omega)
    go_enter Try.func26, Try.ntmps26
    go_wp2_with fail
    refine (filt_none s T _ _ hs hc).mono ?_; rintro e w1 ⟨rfl, b1⟩
    go_wp2
    go_ret2
    exact ⟨rfl, ((Below.refl _ w).alloc (Nat.le_refl _) _).trans (b1.mono (by simp))⟩
theorem maj_both (s : ByteArray) (T : Int) (h_s : s.size ≤ maxLen) (h_T : (Lit.int .i64 T).wf = true) (l_s : (s.size : Int) ≤ 1048576) : ∃ (r0 : ByteArray) (r1 : Bool), (∀ w, Calls Try.prog 25 #[.string s, .int .i64 T] w fun e w' => e = .returned (.tuple #[.string r0, .bool r1]) ∧ Below w.heap.size w w') ∧ (∀ w, Calls Try.prog 26 #[.string s, .int .i64 T] w fun e w' => e = .returned (.tuple #[.string r0, .bool r1]) ∧ Below w.heap.size w w') := by
  by_cases h : canB s T = true ∧ T.tmod 2 ≠ 0
  · obtain ⟨hc, h2⟩ := h
    obtain ⟨n, rfl⟩ := fraw T (canB_t hc).2
    have hodd : n % 2 = 1 := by
      have e : Int.tmod (n : Int) 2 = ((n % 2 : Nat) : Int) := rfl
      rw [e] at h2
      omega
    exact ⟨_, _, fun w => specMaj_t s n w h_s hc hodd, fun w => implMaj_t s n w h_s hc hodd⟩
  · have h2 : canB s T = false ∨ T.tmod 2 = 0 := by
      by_cases hc : canB s T = true
      · exact .inr (Decidable.byContradiction fun q => h ⟨hc, q⟩)
      · exact .inl (by simpa using hc)
    exact ⟨_, _, fun w => specMaj_f s T w h_s h_T h2, fun w => implMaj_f s T w h_s h_T h2⟩
set_option maxHeartbeats 1000000 in
set_option maxRecDepth 100000 in
theorem walk_FnExactMajorityWave (s : ByteArray) (T : Int) (w : World) (h_s : s.size ≤ maxLen) (h_T : (Lit.int .i64 T).wf = true) :
    Calls Try.prog 8 #[.string s, .int .i64 T] w fun e w' => e = .returned (.bool true) ∧ Below w.heap.size w w' := by
  by_cases l_s : (s.size : Int) ≤ 1048576
  case neg =>
    go_enter Try.func8, Try.ntmps8
    go_wp2
    go_ret
    exact ⟨rfl, Below.refl _ _⟩
  obtain ⟨r0, r1, hS, hI⟩ := maj_both s T h_s h_T l_s
  have HS := Lib.hid hS
  have HI := Lib.hid hI
  clear hS hI
  go_enter Try.func8, Try.ntmps8
  go_wp2_with fail
  refine (HS.out _).mono ?_; rintro e w1 ⟨rfl, b1⟩
  go_wp2_with fail
  refine (HI.out _).mono ?_; rintro e w2 ⟨rfl, b2⟩
  go_wp2
  go_ret
  exact ⟨rfl, b1.trans (b2.mono b1.size)⟩
end Go.Proofs.Ytfekdmnhlbjmaaa
