/- The walk of a law: how late a pulse is, the same on both sides. -/
import Derived.Test.YtejjoejapnnlkaaTick
import Derived.Test.YtejjoejapnnlkaaMake
namespace Go.Proofs.Ytejjoejapnnlkaa
open Go.RowKit

/-- how late the pulse k is, times the step -/
def lateQ (s m k : Int) : Int := (tkQ s m 0 k + 1) * s - (k + 1) * m
theorem specErr_t (s m k : Int) (w : World) (hk0 : 0 ≤ k) (hk : k ≤ 100000) (h1 : 1 ≤ m) (h2 : m ≤ 1000) (h3 : 1 ≤ s) (h4 : s ≤ m) :
    Calls Try.prog 20 #[.int .i64 s, .int .i64 m, .int .i64 k] w fun e w' => e = .returned (.tuple #[.agg #[.int .i64 (mkN (lateQ s m k) s), .int .i64 (mkD (lateQ s m k) s)], .bool true]) ∧ Below w.heap.size w w' := by
  have TK := Lib.hid (fun w => l03Tick_any s m 0 k w hk0 hk h1 h2 h3 h4 (by omega) (by omega))
  obtain ⟨b1, b2, b3, q0, q1, q2, q3⟩ := tk_bd s m 0 k hk0 hk h1 h2 h3 h4 (by omega) (by omega)
  have hl : (tkQ s m 0 k + 1) * s - (k + 1) * m = lateQ s m k := rfl
  have hl0 : 0 ≤ lateQ s m k ∧ lateQ s m k ≤ 1000 := by rw [← hl]; omega
  have HL := Lib.hid hl
  have HL0 := Lib.hid hl0
  clear hl hl0
  generalize lateQ s m k = late at *
  generalize tkQ s m 0 k = t at *
  have w0 : IntKind.i64.wrap (k + 1) = k + 1 := IntWalk.i64_in _ (by omega)
  have w1 : IntKind.i64.wrap ((k + 1) * m) = (k + 1) * m := IntWalk.i64_in _ (by omega)
  have w2 : IntKind.i64.wrap (t + 1) = t + 1 := IntWalk.i64_in _ (by omega)
  have w3 : IntKind.i64.wrap ((t + 1) * s) = (t + 1) * s := IntWalk.i64_in _ (by omega)
  have w4 : IntKind.i64.wrap ((t + 1) * s - (k + 1) * m) = (t + 1) * s - (k + 1) * m := IntWalk.i64_in _ (by omega)
  go_enter Try.func20, Try.ntmps20
  go_wp2_with fail
  refine (l03Steps_t _ _ _ h1 h2 h3 h4).mono ?_; rintro e w' ⟨rfl, rfl⟩
  go_wp2_with fail
  refine (l00In_t _ _ _ _ hk0 hk).mono ?_; rintro e w' ⟨rfl, rfl⟩
  go_wp2_with fail
  refine (TK.out _).mono ?_; rintro e w' ⟨rfl, rfl⟩
  go_wp2_with fail
  refine (Calls.mono (by rw [HL.out]; exact l01FMake_any late s _ (by have := HL0.out; omega) (by have := HL0.out; omega) (by omega) (by omega) (by omega)) ?_); rintro e w1 ⟨rfl, hb⟩
  obtain ⟨hc, hf⟩ := bcell hb
  go_wp2
  refine bodyPost_ret (v := .tuple #[.agg #[.int .i64 (mkN late s), .int .i64 (mkD late s)], .bool true]) (by simp [results, Try.results20, go_sem, hc]) rfl ⟨rfl, ?_⟩
  exact ((((Below.refl _ _).alloc (Nat.le_refl _) _).trans (hb.mono (by simp))).setCell (Nat.le_refl _) _).setCell (Nat.le_refl _) _
theorem specErr_f (s m k : Int) (w : World) (h : m < 1 ∨ 1000 < m ∨ s < 1 ∨ m < s ∨ k < 0 ∨ 100000 < k) :
    Calls Try.prog 20 #[.int .i64 s, .int .i64 m, .int .i64 k] w fun e w' => e = .returned (.tuple #[.agg #[.int .i64 0, .int .i64 0], .bool false]) ∧ Below w.heap.size w w' := by
  by_cases k1 : 1 ≤ m ∧ m ≤ 1000 ∧ 1 ≤ s ∧ s ≤ m
  · obtain ⟨k11, k12, k13, k14⟩ := k1
    go_enter Try.func20, Try.ntmps20
    go_wp2_with fail
    refine (l03Steps_t _ _ _ k11 k12 k13 k14).mono ?_; rintro e w' ⟨rfl, rfl⟩
    go_wp2_with fail
    refine (l00In_f _ _ _ _ (by omega)).mono ?_; rintro e w' ⟨rfl, rfl⟩
    go_wp2
    exact bodyPost_ret (v := .tuple #[.agg #[.int .i64 0, .int .i64 0], .bool false]) (by simp [results, Try.results20, go_sem]) rfl ⟨rfl, (Below.refl _ _).alloc (Nat.le_refl _) _⟩
  · go_enter Try.func20, Try.ntmps20
    go_wp2_with fail
    refine (l03Steps_f _ _ _ (by omega)).mono ?_; rintro e w' ⟨rfl, rfl⟩
    go_wp2
    exact bodyPost_ret (v := .tuple #[.agg #[.int .i64 0, .int .i64 0], .bool false]) (by simp [results, Try.results20, go_sem]) rfl ⟨rfl, (Below.refl _ _).alloc (Nat.le_refl _) _⟩
theorem implErr_t (s m k : Int) (w : World) (hk0 : 0 ≤ k) (hk : k ≤ 100000) (h1 : 1 ≤ m) (h2 : m ≤ 1000) (h3 : 1 ≤ s) (h4 : s ≤ m) :
    Calls Try.prog 21 #[.int .i64 s, .int .i64 m, .int .i64 k] w fun e w' => e = .returned (.tuple #[.agg #[.int .i64 (mkN (lateQ s m k) s), .int .i64 (mkD (lateQ s m k) s)], .bool true]) ∧ Below w.heap.size w w' := by
  have TK := Lib.hid (fun w => implTick_t s m 0 k w hk0 hk h1 h2 h3 h4 (by omega) (by omega))
  obtain ⟨b1, b2, b3, q0, q1, q2, q3⟩ := tk_bd s m 0 k hk0 hk h1 h2 h3 h4 (by omega) (by omega)
  have hl : (tkQ s m 0 k + 1) * s - (k + 1) * m = lateQ s m k := rfl
  have hl0 : 0 ≤ lateQ s m k ∧ lateQ s m k ≤ 1000 := by rw [← hl]; omega
  have HL := Lib.hid hl
  have HL0 := Lib.hid hl0
  clear hl hl0
  generalize lateQ s m k = late at *
  generalize tkQ s m 0 k = t at *
  have w0 : IntKind.i64.wrap (k + 1) = k + 1 := IntWalk.i64_in _ (by omega)
  have w1 : IntKind.i64.wrap ((k + 1) * m) = (k + 1) * m := IntWalk.i64_in _ (by omega)
  have w2 : IntKind.i64.wrap (t + 1) = t + 1 := IntWalk.i64_in _ (by omega)
  have w3 : IntKind.i64.wrap ((t + 1) * s) = (t + 1) * s := IntWalk.i64_in _ (by omega)
  have w4 : IntKind.i64.wrap ((t + 1) * s - (k + 1) * m) = (t + 1) * s - (k + 1) * m := IntWalk.i64_in _ (by omega)
  go_enter Try.func21, Try.ntmps21
  go_wp2_with fail
  refine (TK.out _).mono ?_; rintro e w1 ⟨rfl, hb1⟩
  obtain ⟨hc1, hf1⟩ := bcell hb1
  go_wp2_with fail
  refine (Calls.mono (by rw [HL.out]; exact implMake_t late s _ (by have := HL0.out; omega) (by have := HL0.out; omega) (by omega) (by omega) (by omega)) ?_); rintro e w2 ⟨rfl, hb⟩
  obtain ⟨hc, hf⟩ := bcell hb
  have hz : w.heap.size < w1.heap.size := by have := hb1.size; simp at this; omega
  go_wp2
  refine bodyPost_ret (v := .tuple #[.agg #[.int .i64 (mkN late s), .int .i64 (mkD late s)], .bool true]) (by simp [results, Try.results21, go_sem, hc, hc1, hz]) rfl ⟨rfl, ?_⟩
  exact ((((Below.refl _ _).alloc (Nat.le_refl _) _).trans ((hb1.trans (hb.mono hb1.size)).mono (by simp))).setCell (Nat.le_refl _) _).setCell (Nat.le_refl _) _
theorem implErr_f (s m k : Int) (w : World) (h : m < 1 ∨ 1000 < m ∨ s < 1 ∨ m < s ∨ k < 0 ∨ 100000 < k) :
    Calls Try.prog 21 #[.int .i64 s, .int .i64 m, .int .i64 k] w fun e w' => e = .returned (.tuple #[.agg #[.int .i64 0, .int .i64 0], .bool false]) ∧ Below w.heap.size w w' := by
  go_enter Try.func21, Try.ntmps21
  go_wp2_with fail
  refine (implTick_f _ _ _ _ _ (by omega)).mono ?_; rintro e w1 ⟨rfl, hb1⟩
  obtain ⟨hc1, hf1⟩ := bcell hb1
  go_wp2
  refine bodyPost_ret (v := .tuple #[.agg #[.int .i64 0, .int .i64 0], .bool false]) (by simp [results, Try.results21, go_sem, hc1]) rfl ⟨rfl, ?_⟩
  first
    | exact ((Below.refl _ _).alloc (Nat.le_refl _) _).trans (hb1.mono (by simp))
    | exact ((((Below.refl _ _).alloc (Nat.le_refl _) _).trans (hb1.mono (by simp))).setCell (Nat.le_refl _) _).setCell (Nat.le_refl _) _

theorem walk_FnExactPulseError (s m k : Int) (w : World) (_ws : (Lit.int .i64 s).wf = true) (_wm : (Lit.int .i64 m).wf = true) (_wk : (Lit.int .i64 k).wf = true) :
    Calls Try.prog 6 #[.int .i64 s, .int .i64 m, .int .i64 k] w fun e w' => e = .returned (.bool true) ∧ Below w.heap.size w w' := by
  obtain ⟨N, D, c, hS, hI⟩ : ∃ (N D : Int) (c : Bool), (∀ w, Calls Try.prog 20 #[.int .i64 s, .int .i64 m, .int .i64 k] w fun e w' => e = .returned (.tuple #[.agg #[.int .i64 N, .int .i64 D], .bool c]) ∧ Below w.heap.size w w') ∧ (∀ w, Calls Try.prog 21 #[.int .i64 s, .int .i64 m, .int .i64 k] w fun e w' => e = .returned (.tuple #[.agg #[.int .i64 N, .int .i64 D], .bool c]) ∧ Below w.heap.size w w') := by
    by_cases h : 1 ≤ m ∧ m ≤ 1000 ∧ 1 ≤ s ∧ s ≤ m ∧ 0 ≤ k ∧ k ≤ 100000
    · obtain ⟨h1, h2, h3, h4, h7, h8⟩ := h
      exact ⟨_, _, _, fun w => specErr_t s m k w h7 h8 h1 h2 h3 h4, fun w => implErr_t s m k w h7 h8 h1 h2 h3 h4⟩
    · exact ⟨_, _, _, fun w => specErr_f s m k w (by omega), fun w => implErr_f s m k w (by omega)⟩
  have HS := Lib.hid hS
  have HI := Lib.hid hI
  clear hS hI
  go_enter Try.func6, Try.ntmps6
  go_wp2_with fail
  refine (HS.out _).mono ?_; rintro e w1 ⟨rfl, hb1⟩
  go_wp2_with fail
  refine (HI.out _).mono ?_; rintro e w2 ⟨rfl, hb2⟩
  have HB := Lib.hid (((hb1.alloc hb1.size _).trans (hb2.mono (by have := hb1.size; simp; omega))))
  obtain ⟨hc, hf⟩ := bcell hb2
  have hz1 := hb1.size
  have hz2 := hb2.size
  simp at hz2
  have hz3 : w1.heap.size < w2.heap.size := by omega
  go_wp2_with fail
  refine (eqFraction_same _ _ _).mono ?_; rintro e w3 ⟨rfl, hb3⟩
  go_wp2
  go_ret
  exact ⟨rfl, (HB.out.alloc (by omega) _).trans (hb3.mono (by simp; omega))⟩
end Go.Proofs.Ytejjoejapnnlkaa
