/- The sum of two fractions: the answers on both sides, for whatever arguments. -/
import Derived.Test.YtomdoamfdidghaaAddBoth
import Derived.Deep.RegionWith
namespace Go.Proofs.Ytomdoamfdidghaa
open Go.RowKit
set_option linter.unusedVariables false
set_option maxRecDepth 100000 in
theorem specAdd_xv (n d p q N D : Int) (c : Bool) (w : World) (hf : fracB n d = true) (hg : fracB p q = true)
    (HM : Hid (∀ w, Calls Try.prog 34 #[.agg #[.int .i64 n, .int .i64 d], .agg #[.int .i64 p, .int .i64 q]] w fun e w' => e = .returned (.tuple #[.agg #[.int .i64 N, .int .i64 D], .bool c]) ∧ Below w.heap.size w w')) :
    Calls Try.prog 13 #[.agg #[.int .i64 n, .int .i64 d], .agg #[.int .i64 p, .int .i64 q]] w fun e w' => e = .returned (.tuple #[.agg #[.int .i64 N, .int .i64 D], .bool c]) ∧ Below w.heap.size w w' := by
  have hnew := At2.new ((w.alloc (.cells #[.int .i64 n, .int .i64 d] 24)).alloc (.cells #[.int .i64 p, .int .i64 q] 24)) (.int .i64 0) (.int .i64 0) 24
  have HNEW := Lib.hid hnew
  have HF := Lib.hid hf
  have HG := Lib.hid hg
  clear hf hg hnew
  go_enter Try.func13, Try.ntmps13
  go_wp2_with fail
  refine (l01FIs_any n d _).mono ?_; rw [HF.out]; rintro e w1 ⟨rfl, hb1⟩
  have j0 := cell_kept hb1 (a := ⟨w.heap.size, 0, none⟩) (v := .int .i64 n) (by simp [go_sem])
  have j1 := cell_kept hb1 (a := ⟨w.heap.size, 1, none⟩) (v := .int .i64 d) (by simp [go_sem])
  have j2 := cell_kept hb1 (a := ⟨w.heap.size + 1, 0, none⟩) (v := .int .i64 p) (by simp [go_sem])
  have j3 := cell_kept hb1 (a := ⟨w.heap.size + 1, 1, none⟩) (v := .int .i64 q) (by simp [go_sem])
  have hp1 := HNEW.out.below hb1 (by simp)
  simp only [World.size_alloc] at hp1
  have HP1 := Lib.hid hp1
  have HB1 := Lib.hid hb1
  clear hb1 hp1
  go_wp2_with fail
  refine (l01FIs_any p q _).mono ?_; rw [HG.out]; rintro e w2 ⟨rfl, hb2⟩
  have k0 := cell_kept hb2 j0
  have k1 := cell_kept hb2 j1
  have k2 := cell_kept hb2 j2
  have k3 := cell_kept hb2 j3
  have HP2 := Lib.hid (HP1.out.below hb2 HP1.out.lt)
  have HB2 := Lib.hid (HB1.out.trans (hb2.mono HB1.out.size))
  clear hb2 j0 j1 j2 j3
  go_wp2_with fail
  refine (HM.out _).mono ?_; rintro e w3 ⟨rfl, hb3⟩
  have hp3 := HP2.out.below hb3 HP2.out.lt
  have HB3 := Lib.hid (HB2.out.trans (hb3.mono HB2.out.size))
  have q0 := Lib.hid (hp3.set0 (.int .i64 N)).1
  have q1 := Lib.hid ((hp3.set0 (.int .i64 N)).set1 (.int .i64 D)).2.1
  obtain ⟨p0, p1, p2, p3⟩ := hp3
  clear hb3 k0 k1 k2 k3
  go_wp2
  refine bodyPost_ret (v := .tuple #[.agg #[.int .i64 N, .int .i64 D], .bool c]) (by simp [results, Try.results13, go_sem, q0.out, q1.out]) rfl ⟨rfl, ?_⟩
  exact (((((Below.refl w.heap.size w).alloc (Nat.le_refl _) _).alloc (by simp) _).alloc (by simp; omega) _).trans (HB3.out.mono (by simp; omega))).setCell (by simp; omega) _ |>.setCell (by simp; omega) _
set_option maxRecDepth 100000 in
theorem specAdd_xi1 (n d p q : Int) (w : World) (hf : fracB n d = false) :
    Calls Try.prog 13 #[.agg #[.int .i64 n, .int .i64 d], .agg #[.int .i64 p, .int .i64 q]] w fun e w' => e = .returned (.tuple #[.agg #[.int .i64 0, .int .i64 0], .bool false]) ∧ Below w.heap.size w w' := by
  have hnew := At2.new ((w.alloc (.cells #[.int .i64 n, .int .i64 d] 24)).alloc (.cells #[.int .i64 p, .int .i64 q] 24)) (.int .i64 0) (.int .i64 0) 24
  have HNEW := Lib.hid hnew
  have HF := Lib.hid hf
  clear hf hnew
  go_enter Try.func13, Try.ntmps13
  go_wp2_with fail
  refine (l01FIs_any n d _).mono ?_; rw [HF.out]; rintro e w1 ⟨rfl, hb1⟩
  have hp1 := HNEW.out.below hb1 (by simp)
  simp only [World.size_alloc] at hp1
  have HB2 := Lib.hid hb1
  have q0 := Lib.hid (hp1.set0 (.int .i64 0)).1
  have q1 := Lib.hid ((hp1.set0 (.int .i64 0)).set1 (.int .i64 0)).2.1
  obtain ⟨p0, p1, p2, p3⟩ := hp1
  clear hb1
  go_wp2
  refine bodyPost_ret (v := .tuple #[.agg #[.int .i64 0, .int .i64 0], .bool false]) (by simp [results, Try.results13, go_sem, q0.out, q1.out]) rfl ⟨rfl, ?_⟩
  exact (((((Below.refl w.heap.size w).alloc (Nat.le_refl _) _).alloc (by simp) _).alloc (by simp; omega) _).trans (HB2.out.mono (by simp; omega))).setCell (by simp; omega) _ |>.setCell (by simp; omega) _
set_option maxRecDepth 100000 in
theorem specAdd_xi2 (n d p q : Int) (w : World) (hf : fracB n d = true) (hg : fracB p q = false) :
    Calls Try.prog 13 #[.agg #[.int .i64 n, .int .i64 d], .agg #[.int .i64 p, .int .i64 q]] w fun e w' => e = .returned (.tuple #[.agg #[.int .i64 0, .int .i64 0], .bool false]) ∧ Below w.heap.size w w' := by
  have hnew := At2.new ((w.alloc (.cells #[.int .i64 n, .int .i64 d] 24)).alloc (.cells #[.int .i64 p, .int .i64 q] 24)) (.int .i64 0) (.int .i64 0) 24
  have HNEW := Lib.hid hnew
  have HF := Lib.hid hf
  have HG := Lib.hid hg
  clear hf hg hnew
  go_enter Try.func13, Try.ntmps13
  go_wp2_with fail
  refine (l01FIs_any n d _).mono ?_; rw [HF.out]; rintro e w1 ⟨rfl, hb1⟩
  have j2 := cell_kept hb1 (a := ⟨w.heap.size + 1, 0, none⟩) (v := .int .i64 p) (by simp [go_sem])
  have j3 := cell_kept hb1 (a := ⟨w.heap.size + 1, 1, none⟩) (v := .int .i64 q) (by simp [go_sem])
  have hp1 := HNEW.out.below hb1 (by simp)
  simp only [World.size_alloc] at hp1
  have HP1 := Lib.hid hp1
  have HB1 := Lib.hid hb1
  clear hb1 hp1
  go_wp2_with fail
  refine (l01FIs_any p q _).mono ?_; rw [HG.out]; rintro e w2 ⟨rfl, hb2⟩
  have hp2 := HP1.out.below hb2 HP1.out.lt
  have HB2 := Lib.hid (HB1.out.trans (hb2.mono HB1.out.size))
  have q0 := Lib.hid (hp2.set0 (.int .i64 0)).1
  have q1 := Lib.hid ((hp2.set0 (.int .i64 0)).set1 (.int .i64 0)).2.1
  obtain ⟨p0, p1, p2, p3⟩ := hp2
  clear hb2 j2 j3
  go_wp2
  refine bodyPost_ret (v := .tuple #[.agg #[.int .i64 0, .int .i64 0], .bool false]) (by simp [results, Try.results13, go_sem, q0.out, q1.out]) rfl ⟨rfl, ?_⟩
  exact (((((Below.refl w.heap.size w).alloc (Nat.le_refl _) _).alloc (by simp) _).alloc (by simp; omega) _).trans (HB2.out.mono (by simp; omega))).setCell (by simp; omega) _ |>.setCell (by simp; omega) _
set_option maxRecDepth 100000 in
theorem implAdd_xi1 (n d p q : Int) (w : World) (hf : fracB n d = false) :
    Calls Try.prog 14 #[.agg #[.int .i64 n, .int .i64 d], .agg #[.int .i64 p, .int .i64 q]] w fun e w' => e = .returned (.tuple #[.agg #[.int .i64 0, .int .i64 0], .bool false]) ∧ Below w.heap.size w w' := by
  have hnew := At2.new ((w.alloc (.cells #[.int .i64 n, .int .i64 d] 24)).alloc (.cells #[.int .i64 p, .int .i64 q] 24)) (.int .i64 0) (.int .i64 0) 24
  have HNEW := Lib.hid hnew
  have HF := Lib.hid hf
  clear hf hnew
  go_enter Try.func14, Try.ntmps14
  go_wp2_with fail
  refine (implValid n d _).mono ?_; rw [HF.out]; rintro e w1 ⟨rfl, hb1⟩
  have hp1 := HNEW.out.below hb1 (by simp)
  simp only [World.size_alloc] at hp1
  have HB2 := Lib.hid hb1
  have q0 := Lib.hid (hp1.set0 (.int .i64 0)).1
  have q1 := Lib.hid ((hp1.set0 (.int .i64 0)).set1 (.int .i64 0)).2.1
  obtain ⟨p0, p1, p2, p3⟩ := hp1
  clear hb1
  go_wp2
  refine bodyPost_ret (v := .tuple #[.agg #[.int .i64 0, .int .i64 0], .bool false]) (by simp [results, Try.results14, go_sem, q0.out, q1.out]) rfl ⟨rfl, ?_⟩
  exact (((((Below.refl w.heap.size w).alloc (Nat.le_refl _) _).alloc (by simp) _).alloc (by simp; omega) _).trans (HB2.out.mono (by simp; omega))).setCell (by simp; omega) _ |>.setCell (by simp; omega) _
set_option maxRecDepth 100000 in
theorem implAdd_xi2 (n d p q : Int) (w : World) (hf : fracB n d = true) (hg : fracB p q = false) :
    Calls Try.prog 14 #[.agg #[.int .i64 n, .int .i64 d], .agg #[.int .i64 p, .int .i64 q]] w fun e w' => e = .returned (.tuple #[.agg #[.int .i64 0, .int .i64 0], .bool false]) ∧ Below w.heap.size w w' := by
  have hnew := At2.new ((w.alloc (.cells #[.int .i64 n, .int .i64 d] 24)).alloc (.cells #[.int .i64 p, .int .i64 q] 24)) (.int .i64 0) (.int .i64 0) 24
  have HNEW := Lib.hid hnew
  have HF := Lib.hid hf
  have HG := Lib.hid hg
  clear hf hg hnew
  go_enter Try.func14, Try.ntmps14
  go_wp2_with fail
  refine (implValid n d _).mono ?_; rw [HF.out]; rintro e w1 ⟨rfl, hb1⟩
  have j2 := cell_kept hb1 (a := ⟨w.heap.size + 1, 0, none⟩) (v := .int .i64 p) (by simp [go_sem])
  have j3 := cell_kept hb1 (a := ⟨w.heap.size + 1, 1, none⟩) (v := .int .i64 q) (by simp [go_sem])
  have hp1 := HNEW.out.below hb1 (by simp)
  simp only [World.size_alloc] at hp1
  have HP1 := Lib.hid hp1
  have HB1 := Lib.hid hb1
  clear hb1 hp1
  go_wp2_with fail
  refine (implValid p q _).mono ?_; rw [HG.out]; rintro e w2 ⟨rfl, hb2⟩
  have hp2 := HP1.out.below hb2 HP1.out.lt
  have HB2 := Lib.hid (HB1.out.trans (hb2.mono HB1.out.size))
  have q0 := Lib.hid (hp2.set0 (.int .i64 0)).1
  have q1 := Lib.hid ((hp2.set0 (.int .i64 0)).set1 (.int .i64 0)).2.1
  obtain ⟨p0, p1, p2, p3⟩ := hp2
  clear hb2 j2 j3
  go_wp2
  refine bodyPost_ret (v := .tuple #[.agg #[.int .i64 0, .int .i64 0], .bool false]) (by simp [results, Try.results14, go_sem, q0.out, q1.out]) rfl ⟨rfl, ?_⟩
  exact (((((Below.refl w.heap.size w).alloc (Nat.le_refl _) _).alloc (by simp) _).alloc (by simp; omega) _).trans (HB2.out.mono (by simp; omega))).setCell (by simp; omega) _ |>.setCell (by simp; omega) _

theorem add_both (n d p q : Int) : ∃ (N D : Int) (c : Bool), (∀ w, Calls Try.prog 13 #[.agg #[.int .i64 n, .int .i64 d], .agg #[.int .i64 p, .int .i64 q]] w fun e w' => e = .returned (.tuple #[.agg #[.int .i64 N, .int .i64 D], .bool c]) ∧ Below w.heap.size w w') ∧ (∀ w, Calls Try.prog 14 #[.agg #[.int .i64 n, .int .i64 d], .agg #[.int .i64 p, .int .i64 q]] w fun e w' => e = .returned (.tuple #[.agg #[.int .i64 N, .int .i64 D], .bool c]) ∧ Below w.heap.size w w') := by
  cases hf : fracB n d with
  | false => exact ⟨_, _, _, fun w => specAdd_xi1 n d p q w hf, fun w => implAdd_xi1 n d p q w hf⟩
  | true =>
    cases hg : fracB p q with
    | false => exact ⟨_, _, _, fun w => specAdd_xi2 n d p q w hf hg, fun w => implAdd_xi2 n d p q w hf hg⟩
    | true =>
      obtain ⟨N, D, c, -, hS, hI⟩ := add_any n d p q hf hg
      exact ⟨N, D, c, fun w => specAdd_xv n d p q N D c w hf hg (Lib.hid hS), hI⟩
end Go.Proofs.Ytomdoamfdidghaa
