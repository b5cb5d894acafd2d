/- Filtered waves: the program's side, both sides, and the laws' walks. -/
import Derived.Test.YtafecdmcbpnniabDoorFilt
import Derived.Test.YtafecdmcbpnniabDoorBytes
import Derived.Test.YtafecdmcbpnniabDoorOnesS
namespace Go.Proofs.YtafecdmcbpnniabDoor
open Go.RowKit Go.Shelf
set_option linter.unusedVariables false

theorem filt_none (s : ByteArray) (T : Int) (v : Value) (w : World) (hs : s.size ≤ maxLen) (hc : canB s T = false) :
    Calls Tryd.prog 17 #[.string s, .int .i64 T, v] w fun e w' => e = .returned (.tuple #[.string ⟨#[]⟩, .bool false]) ∧ Below w.heap.size w w' := by
  have HC := Lib.hid (fun w => canF_any s T w hs)
  rw [hc] at HC
  go_enter Tryd.func17, Tryd.ntmps17
  go_wp2_with fail
  refine (HC.out _).mono ?_; rintro e w1 ⟨rfl, b1⟩
  go_wp2
  go_ret2
  exact ⟨rfl, b1⟩
theorem rule_new (w : World) (f : Nat) : RuleAt (w.alloc (.cells #[.bool false, .func (.func f) #[] #[]] TRul)) w.heap.size false f := by unfold RuleAt World.alloc; simp
theorem below_boxed {w w' : World} (o : Obj) (h : (w.alloc o).grownBy w' (some w.heap.size)) : Below w.heap.size w w' := by
  have h0 : Below w.heap.size w (w.alloc o) := (Below.refl _ _).alloc (Nat.le_refl _) _
  exact ⟨h.os.trans h0.os, h.tape.trans h0.tape, h.output.trans h0.output, Nat.le_trans h0.size h.size, fun k hk => (h.block k (Nat.lt_of_lt_of_le hk h0.size) (by simp; omega)).trans (h0.block k hk)⟩
theorem fraw (T : Int) (h : 1 ≤ T ∧ T ≤ 50) : ∃ n : Nat, T = (n : Int) := ⟨T.toNat, by omega⟩
set_option maxHeartbeats 1000000 in
theorem implDeb_t (s : ByteArray) (T : Nat) (w : World) (hs : s.size ≤ maxLen) (hc : canB s (T : Int) = true) :
    Calls Tryd.prog 7 #[.string s, .int .i64 (T : Int)] w fun e w' => e = .returned (.tuple #[.string (outS (fltL (decDeb T) T s) s.size), .bool true]) ∧ Below w.heap.size w w' := by
  have HF := Lib.hid (filt_any s T 18 w.heap.size (decDeb T) (deb_dec T) _ hs hc (rule_new w 18))
  go_enter Tryd.func7, Tryd.ntmps7
  go_wp2_with fail
  refine HF.out.mono ?_; rintro e w1 ⟨rfl, g1⟩
  have HB := Lib.hid (below_boxed _ g1)
  clear g1
  go_wp2
  go_ret2
  exact ⟨rfl, HB.out⟩
theorem implDeb_f (s : ByteArray) (T : Int) (w : World) (hs : s.size ≤ maxLen) (hc : canB s T = false) :
    Calls Tryd.prog 7 #[.string s, .int .i64 T] w fun e w' => e = .returned (.tuple #[.string ⟨#[]⟩, .bool false]) ∧ Below w.heap.size w w' := by
  go_enter Tryd.func7, Tryd.ntmps7
  go_wp2_with fail
  refine (filt_none s T _ _ hs hc).mono ?_; rintro e w1 ⟨rfl, b1⟩
  go_wp2
  go_ret2
  exact ⟨rfl, ((Below.refl _ w).alloc (Nat.le_refl _) _).trans (b1.mono (by simp))⟩
set_option maxHeartbeats 1000000 in
theorem implStr_t (s : ByteArray) (T : Nat) (w : World) (hs : s.size ≤ maxLen) (hc : canB s (T : Int) = true) :
    Calls Tryd.prog 8 #[.string s, .int .i64 (T : Int)] w fun e w' => e = .returned (.tuple #[.string (outS (fltL decStr T s) s.size), .bool true]) ∧ Below w.heap.size w w' := by
  have HF := Lib.hid (filt_any s T 19 w.heap.size decStr (str_dec T) _ hs hc (rule_new w 19))
  go_enter Tryd.func8, Tryd.ntmps8
  go_wp2_with fail
  refine HF.out.mono ?_; rintro e w1 ⟨rfl, g1⟩
  have HB := Lib.hid (below_boxed _ g1)
  clear g1
  go_wp2
  go_ret2
  exact ⟨rfl, HB.out⟩
theorem implStr_f (s : ByteArray) (T : Int) (w : World) (hs : s.size ≤ maxLen) (hc : canB s T = false) :
    Calls Tryd.prog 8 #[.string s, .int .i64 T] w fun e w' => e = .returned (.tuple #[.string ⟨#[]⟩, .bool false]) ∧ Below w.heap.size w w' := by
  go_enter Tryd.func8, Tryd.ntmps8
  go_wp2_with fail
  refine (filt_none s T _ _ hs hc).mono ?_; rintro e w1 ⟨rfl, b1⟩
  go_wp2
  go_ret2
  exact ⟨rfl, ((Below.refl _ w).alloc (Nat.le_refl _) _).trans (b1.mono (by simp))⟩
set_option maxHeartbeats 1000000 in
theorem implMaj_t (s : ByteArray) (T : Nat) (w : World) (hs : s.size ≤ maxLen) (hc : canB s (T : Int) = true) (hodd : T % 2 = 1) :
    Calls Tryd.prog 13 #[.string s, .int .i64 (T : Int)] w fun e w' => e = .returned (.tuple #[.string (outS (fltL (decMaj T) T s) s.size), .bool true]) ∧ Below w.heap.size w w' := by
  have hr : Int.tmod (T : Int) 2 = 1 := by rw [show Int.tmod (T : Int) 2 = ((T % 2 : Nat) : Int) from rfl, hodd]; rfl
  have hr2 : (T : Int) % 2 = 1 := by omega
  have HF := Lib.hid (filt_any s T 29 w.heap.size (decMaj T) (maj_dec T) _ hs hc (rule_new w 29))
  go_enter Tryd.func13, Tryd.ntmps13
  go_wp2_with fail
  refine HF.out.mono ?_; rintro e w1 ⟨rfl, g1⟩
  have HB := Lib.hid (below_boxed _ g1)
  clear g1
  go_wp2
  go_ret2
  exact ⟨rfl, HB.out⟩
theorem even_tmod (T : Int) (h : T.tmod 2 ≠ 0 → False) : T.tmod 2 = 0 := Decidable.byContradiction fun q => h q
theorem implMaj_f (s : ByteArray) (T : Int) (w : World) (hs : s.size ≤ maxLen) (wT : (Lit.int .i64 T).wf = true) (h : canB s T = false ∨ T.tmod 2 = 0) :
    Calls Tryd.prog 13 #[.string s, .int .i64 T] w fun e w' => e = .returned (.tuple #[.string ⟨#[]⟩, .bool false]) ∧ Below w.heap.size w w' := by
  by_cases h2 : T.tmod 2 = 0
  · go_enter Tryd.func13, Tryd.ntmps13
    go_wp2
    go_ret2
    exact ⟨rfl, Below.refl _ _⟩
  · have hc : canB s T = false := h.resolve_right h2
    have h3 : (T.tmod 2 == 0) = false := by simp [h2]
    have h4 : IntKind.i64.wrap (T.tmod 2) = T.tmod 2 := IntWalk.i64_in _ (by have := Int.tmod_lt_of_pos T (show (0 : Int) < 2 by omega); have := Int.lt_tmod_of_pos T (show (0 : Int) < 2 by omega); omega)
    go_enter Tryd.func13, Tryd.ntmps13
    go_wp2_with fail
    refine (filt_none s T _ _ hs hc).mono ?_; rintro e w1 ⟨rfl, b1⟩
    go_wp2
    go_ret2
    exact ⟨rfl, ((Below.refl _ w).alloc (Nat.le_refl _) _).trans (b1.mono (by simp))⟩
end Go.Proofs.YtafecdmcbpnniabDoor
