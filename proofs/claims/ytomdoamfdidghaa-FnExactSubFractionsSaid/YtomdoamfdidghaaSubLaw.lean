/- The difference of two fractions: the answers on both sides, for whatever arguments. -/
import Derived.Test.YtomdoamfdidghaaAddLaw
namespace Go.Proofs.Ytomdoamfdidghaa
open Go.RowKit
set_option linter.unusedVariables false
set_option maxRecDepth 100000 in
theorem specSub_i1 (n d p q : Int) (w : World) (hf : fracB n d = false) :
    Calls Try.prog 15 #[.agg #[.int .i64 n, .int .i64 d], .agg #[.int .i64 p, .int .i64 q]] w fun e w' => e = .returned (.tuple #[.agg #[.int .i64 0, .int .i64 0], .bool false]) ∧ Below w.heap.size w w' := by
  have hnew := At2.new ((w.alloc (.cells #[.int .i64 n, .int .i64 d] 24)).alloc (.cells #[.int .i64 p, .int .i64 q] 24)) (.int .i64 0) (.int .i64 0) 24
  have HNEW := Lib.hid hnew
  have HF := Lib.hid hf
  clear hf hnew
  go_enter Try.func15, Try.ntmps15
  go_wp2_with fail
  refine (l01FIs_any n d _).mono ?_; rw [HF.out]; rintro e w1 ⟨rfl, hb1⟩
  have hp1 := HNEW.out.below hb1 (by simp)
  simp only [World.size_alloc] at hp1
  have HB2 := Lib.hid hb1
  have q0 := Lib.hid (hp1.set0 (.int .i64 0)).1
  have q1 := Lib.hid ((hp1.set0 (.int .i64 0)).set1 (.int .i64 0)).2.1
  obtain ⟨p0, p1, p2, p3⟩ := hp1
  clear hb1
  go_wp2
  refine bodyPost_ret (v := .tuple #[.agg #[.int .i64 0, .int .i64 0], .bool false]) (by simp [results, Try.results15, go_sem, q0.out, q1.out]) rfl ⟨rfl, ?_⟩
  exact (((((Below.refl w.heap.size w).alloc (Nat.le_refl _) _).alloc (by simp) _).alloc (by simp; omega) _).trans (HB2.out.mono (by simp; omega))).setCell (by simp; omega) _ |>.setCell (by simp; omega) _
set_option maxRecDepth 100000 in
theorem specSub_i2 (n d p q : Int) (w : World) (hf : fracB n d = true) (hg : fracB p q = false) :
    Calls Try.prog 15 #[.agg #[.int .i64 n, .int .i64 d], .agg #[.int .i64 p, .int .i64 q]] w fun e w' => e = .returned (.tuple #[.agg #[.int .i64 0, .int .i64 0], .bool false]) ∧ Below w.heap.size w w' := by
  have hnew := At2.new ((w.alloc (.cells #[.int .i64 n, .int .i64 d] 24)).alloc (.cells #[.int .i64 p, .int .i64 q] 24)) (.int .i64 0) (.int .i64 0) 24
  have HNEW := Lib.hid hnew
  have HF := Lib.hid hf
  have HG := Lib.hid hg
  clear hf hg hnew
  go_enter Try.func15, Try.ntmps15
  go_wp2_with fail
  refine (l01FIs_any n d _).mono ?_; rw [HF.out]; rintro e w1 ⟨rfl, hb1⟩
  have j2 := cell_kept hb1 (a := ⟨w.heap.size + 1, 0, none⟩) (v := .int .i64 p) (by simp [go_sem])
  have j3 := cell_kept hb1 (a := ⟨w.heap.size + 1, 1, none⟩) (v := .int .i64 q) (by simp [go_sem])
  have hp1 := HNEW.out.below hb1 (by simp)
  simp only [World.size_alloc] at hp1
  have HP1 := Lib.hid hp1
  have HB1 := Lib.hid hb1
  clear hb1 hp1
  go_wp2_with fail
  refine (l01FIs_any p q _).mono ?_; rw [HG.out]; rintro e w2 ⟨rfl, hb2⟩
  have hp2 := HP1.out.below hb2 HP1.out.lt
  have HB2 := Lib.hid (HB1.out.trans (hb2.mono HB1.out.size))
  have q0 := Lib.hid (hp2.set0 (.int .i64 0)).1
  have q1 := Lib.hid ((hp2.set0 (.int .i64 0)).set1 (.int .i64 0)).2.1
  obtain ⟨p0, p1, p2, p3⟩ := hp2
  clear hb2 j2 j3
  go_wp2
  refine bodyPost_ret (v := .tuple #[.agg #[.int .i64 0, .int .i64 0], .bool false]) (by simp [results, Try.results15, go_sem, q0.out, q1.out]) rfl ⟨rfl, ?_⟩
  exact (((((Below.refl w.heap.size w).alloc (Nat.le_refl _) _).alloc (by simp) _).alloc (by simp; omega) _).trans (HB2.out.mono (by simp; omega))).setCell (by simp; omega) _ |>.setCell (by simp; omega) _

theorem frac_neg (p q : Int) (h : fracB p q = true) : fracB (-p) q = true := by
  unfold fracB at *
  rw [decide_eq_true_eq] at *
  obtain ⟨h1, h2, h3, h4, h5⟩ := h
  exact ⟨h1, h2, by omega, by omega, by rw [Int.neg_gcd]; exact h5⟩
theorem fneg_any (p q : Int) (w : World) (h1 : -1000000000000000000 ≤ p) (h2 : p ≤ 1000000000000000000) :
    Calls Try.prog 40 #[.agg #[.int .i64 p, .int .i64 q]] w fun e w' => e = .returned (.agg #[.int .i64 (-p), .int .i64 q]) ∧ Below w.heap.size w w' := by
  have wp : IntKind.i64.wrap (-p) = -p := IntWalk.i64_in _ (by omega)
  go_enter Try.func40, Try.ntmps40
  go_wp2
  refine bodyPost_ret (v := .agg #[.int .i64 (-p), .int .i64 q]) (by simp [results, Try.results40, go_sem]) rfl ⟨rfl, ?_⟩
  exact ((Below.refl _ _).alloc (Nat.le_refl _) _).alloc (by simp) _

set_option maxHeartbeats 1000000 in
set_option maxRecDepth 100000 in
theorem specSub_v (n d p q N D : Int) (c : Bool) (w : World) (hf : fracB n d = true) (hg : fracB p q = true) (HA : Hid (∀ w, Calls Try.prog 34 #[.agg #[.int .i64 n, .int .i64 d], .agg #[.int .i64 (-p), .int .i64 q]] w fun e w' => e = .returned (.tuple #[.agg #[.int .i64 N, .int .i64 D], .bool c]) ∧ Below w.heap.size w w')) :
    Calls Try.prog 15 #[.agg #[.int .i64 n, .int .i64 d], .agg #[.int .i64 p, .int .i64 q]] w fun e w' => e = .returned (.tuple #[.agg #[.int .i64 N, .int .i64 D], .bool c]) ∧ Below w.heap.size w w' := by
  have hg1 : -1000000000000000000 ≤ p ∧ p ≤ 1000000000000000000 := by
    simp [fracB] at hg; omega
  have HN := Lib.hid (fun w => fneg_any p q w hg1.1 hg1.2)
  have hnew := At2.new ((w.alloc (.cells #[.int .i64 n, .int .i64 d] 24)).alloc (.cells #[.int .i64 p, .int .i64 q] 24)) (.int .i64 0) (.int .i64 0) 24
  have HNEW := Lib.hid hnew
  have HF := Lib.hid hf
  have HG := Lib.hid hg
  clear hf hg hnew hg1
  go_enter Try.func15, Try.ntmps15
  go_wp2_with fail
  refine (l01FIs_any n d _).mono ?_; rw [HF.out]; rintro e w1 ⟨rfl, hb1⟩
  have j0 := cell_kept hb1 (a := ⟨w.heap.size, 0, none⟩) (v := .int .i64 n) (by simp [go_sem])
  have j1 := cell_kept hb1 (a := ⟨w.heap.size, 1, none⟩) (v := .int .i64 d) (by simp [go_sem])
  have j2 := cell_kept hb1 (a := ⟨w.heap.size + 1, 0, none⟩) (v := .int .i64 p) (by simp [go_sem])
  have j3 := cell_kept hb1 (a := ⟨w.heap.size + 1, 1, none⟩) (v := .int .i64 q) (by simp [go_sem])
  have hp1 := HNEW.out.below hb1 (by simp)
  simp only [World.size_alloc] at hp1
  have HP1 := Lib.hid hp1
  have HB1 := Lib.hid (((((Below.refl w.heap.size w).alloc (Nat.le_refl _) (.cells #[.int .i64 n, .int .i64 d] 24)).alloc (by simp) (.cells #[.int .i64 p, .int .i64 q] 24)).alloc (by simp; omega) (.cells #[.int .i64 0, .int .i64 0] 24)).trans (hb1.mono (by simp; omega)))
  clear hb1 hp1
  go_wp2_with fail
  refine (l01FIs_any p q _).mono ?_; rw [HG.out]; rintro e w2 ⟨rfl, hb2⟩
  have k0 := cell_kept hb2 j0
  have k1 := cell_kept hb2 j1
  have k2 := cell_kept hb2 j2
  have k3 := cell_kept hb2 j3
  have HP2 := Lib.hid (HP1.out.below hb2 HP1.out.lt)
  have HB2 := Lib.hid (HB1.out.trans (hb2.mono HB1.out.size))
  have HDR := Lib.hid (show At2 w2.drew (w.heap.size + 1 + 1) (.int .i64 0) (.int .i64 0) from HP2.out)
  have HLT := Lib.hid HP2.out.lt
  have HQ0 := Lib.hid (fun (W : World) (h : At2 W (w.heap.size + 1 + 1) (.int .i64 0) (.int .i64 0)) => (h.set0 (.int .i64 N)).1)
  have HQ1 := Lib.hid (fun (W : World) (h : At2 W (w.heap.size + 1 + 1) (.int .i64 0) (.int .i64 0)) => ((h.set0 (.int .i64 N)).set1 (.int .i64 D)).2.1)
  clear hb2 j0 j1 j2 j3
  go_wp2_with fail
  go_region_held3 (fun w' => w'.cell? ⟨w.heap.size, 0, none⟩ = some (.int .i64 n) ∧ w'.cell? ⟨w.heap.size, 1, none⟩ = some (.int .i64 d) ∧ w'.cell? ⟨w.heap.size + 1, 0, none⟩ = some (.int .i64 p) ∧ w'.cell? ⟨w.heap.size + 1, 1, none⟩ = some (.int .i64 q)) (first | (go_split_ands; (refine ⟨?_, ?_, ?_, ?_⟩ <;> (with_reducible assumption))) | (go_split_ands; (refine ⟨?_, ?_, ?_, ?_⟩ <;> ((with_reducible apply cell_kept) <;> (with_reducible assumption)))) | (go_split_ands; (refine ⟨?_, ?_, ?_, ?_⟩ <;> ((with_reducible refine cell_alloc_kept ?_); (with_reducible assumption)))) | (go_split_ands; (refine ⟨?_, ?_, ?_, ?_⟩ <;> ((with_reducible refine cell_dr ?_); (with_reducible assumption)))) | (go_split_ands; (refine ⟨?_, ?_, ?_, ?_⟩ <;> ((with_reducible refine cell_alloc_dr ?_); (with_reducible assumption)))) | (go_split_ands; (refine ⟨?_, ?_, ?_, ?_⟩ <;> ((with_reducible refine cell_set_kept ?_ (cell_set_kept ?_ ?_)) <;> (first | (with_reducible assumption) | ((try dsimp only); omega))))) | (go_split_ands; (refine ⟨?_, ?_, ?_, ?_⟩ <;> ((with_reducible apply cell_alloc_other) <;> (first | (with_reducible assumption) | ((try dsimp only); omega)))))) (first | (go_at_call 40; refine (HN.out _).mono ?_; rintro e wa ⟨rfl, hba⟩; have HPA := Lib.hid (HDR.out.below hba HLT.out); have HBA := Lib.hid hba) | (go_at_call 34; refine (HA.out _).mono ?_; rintro e wb ⟨rfl, hbb⟩; have hpb := HPA.out.below hbb HPA.out.lt; have HPB := Lib.hid hpb; have HBB := Lib.hid hbb; have q0 := Lib.hid (HQ0.out _ hpb); have q1 := Lib.hid (HQ1.out _ hpb); obtain ⟨z0, z1, z2, z3⟩ := hpb))
  all_goals
    go_wp2
    refine bodyPost_ret (v := .tuple #[.agg #[.int .i64 N, .int .i64 D], .bool c]) (by simp [results, Try.results15, go_sem, q0.out, q1.out]) rfl ⟨rfl, ?_⟩
    exact ((((HB2.out.drew).trans (HBA.out.mono (by simpa using HB2.out.size))).trans (HBB.out.mono (Nat.le_trans (by simpa using HB2.out.size) HBA.out.size))).setCell (show w.heap.size ≤ w.heap.size + 1 + 1 by omega) _).setCell (show w.heap.size ≤ w.heap.size + 1 + 1 by omega) _

set_option maxRecDepth 100000 in
theorem implSub_v (n d p q N D : Int) (c : Bool) (w : World) (hg : fracB p q = true) (HA : Hid (∀ w, Calls Try.prog 14 #[.agg #[.int .i64 n, .int .i64 d], .agg #[.int .i64 (-p), .int .i64 q]] w fun e w' => e = .returned (.tuple #[.agg #[.int .i64 N, .int .i64 D], .bool c]) ∧ Below w.heap.size w w')) :
    Calls Try.prog 16 #[.agg #[.int .i64 n, .int .i64 d], .agg #[.int .i64 p, .int .i64 q]] w fun e w' => e = .returned (.tuple #[.agg #[.int .i64 N, .int .i64 D], .bool c]) ∧ Below w.heap.size w w' := by
  have hg1 : -1000000000000000000 ≤ p ∧ p ≤ 1000000000000000000 := by
    simp [fracB] at hg; omega
  have wp : IntKind.i64.wrap (-p) = -p := IntWalk.i64_in _ (by omega)
  have hnew := At2.new ((w.alloc (.cells #[.int .i64 n, .int .i64 d] 24)).alloc (.cells #[.int .i64 p, .int .i64 q] 24)) (.int .i64 0) (.int .i64 0) 24
  have HNEW := Lib.hid hnew
  have HG := Lib.hid hg
  clear hg hnew
  go_enter Try.func16, Try.ntmps16
  go_wp2_with fail
  refine (implValid p q _).mono ?_; rw [HG.out]; rintro e w1 ⟨rfl, hb1⟩
  have j0 := cell_kept hb1 (a := ⟨w.heap.size, 0, none⟩) (v := .int .i64 n) (by simp [go_sem])
  have j1 := cell_kept hb1 (a := ⟨w.heap.size, 1, none⟩) (v := .int .i64 d) (by simp [go_sem])
  have j2 := cell_kept hb1 (a := ⟨w.heap.size + 1, 0, none⟩) (v := .int .i64 p) (by simp [go_sem])
  have j3 := cell_kept hb1 (a := ⟨w.heap.size + 1, 1, none⟩) (v := .int .i64 q) (by simp [go_sem])
  have hp1 := HNEW.out.below hb1 (by simp)
  simp only [World.size_alloc] at hp1
  have HP1 := Lib.hid hp1
  have HB1 := Lib.hid (((((Below.refl w.heap.size w).alloc (Nat.le_refl _) (.cells #[.int .i64 n, .int .i64 d] 24)).alloc (by simp) (.cells #[.int .i64 p, .int .i64 q] 24)).alloc (by simp; omega) (.cells #[.int .i64 0, .int .i64 0] 24)).trans (hb1.mono (by simp; omega)))
  clear hb1 hp1
  go_wp2_with fail
  refine (HA.out _).mono ?_; rintro e w2 ⟨rfl, hb2⟩
  have hp2 := HP1.out.below hb2 HP1.out.lt
  have q0 := Lib.hid (hp2.set0 (.int .i64 N)).1
  have q1 := Lib.hid ((hp2.set0 (.int .i64 N)).set1 (.int .i64 D)).2.1
  have HB2 := Lib.hid (HB1.out.trans (hb2.mono HB1.out.size))
  obtain ⟨z0, z1, z2, z3⟩ := hp2
  clear hb2 j0 j1 j2 j3
  go_wp2
  refine bodyPost_ret (v := .tuple #[.agg #[.int .i64 N, .int .i64 D], .bool c]) (by simp [results, Try.results16, go_sem, q0.out, q1.out]) rfl ⟨rfl, ?_⟩
  exact (HB2.out.setCell (show w.heap.size ≤ w.heap.size + 1 + 1 by omega) _).setCell (show w.heap.size ≤ w.heap.size + 1 + 1 by omega) _
set_option maxRecDepth 100000 in
theorem implSub_i (n d p q : Int) (w : World) (hg : fracB p q = false) :
    Calls Try.prog 16 #[.agg #[.int .i64 n, .int .i64 d], .agg #[.int .i64 p, .int .i64 q]] w fun e w' => e = .returned (.tuple #[.agg #[.int .i64 0, .int .i64 0], .bool false]) ∧ Below w.heap.size w w' := by
  have hnew := At2.new ((w.alloc (.cells #[.int .i64 n, .int .i64 d] 24)).alloc (.cells #[.int .i64 p, .int .i64 q] 24)) (.int .i64 0) (.int .i64 0) 24
  have HNEW := Lib.hid hnew
  have HG := Lib.hid hg
  clear hg hnew
  go_enter Try.func16, Try.ntmps16
  go_wp2_with fail
  refine (implValid p q _).mono ?_; rw [HG.out]; rintro e w1 ⟨rfl, hb1⟩
  have hp1 := HNEW.out.below hb1 (by simp)
  simp only [World.size_alloc] at hp1
  have q0 := Lib.hid (hp1.set0 (.int .i64 0)).1
  have q1 := Lib.hid ((hp1.set0 (.int .i64 0)).set1 (.int .i64 0)).2.1
  have HB1 := Lib.hid (((((Below.refl w.heap.size w).alloc (Nat.le_refl _) (.cells #[.int .i64 n, .int .i64 d] 24)).alloc (by simp) (.cells #[.int .i64 p, .int .i64 q] 24)).alloc (by simp; omega) (.cells #[.int .i64 0, .int .i64 0] 24)).trans (hb1.mono (by simp; omega)))
  obtain ⟨z0, z1, z2, z3⟩ := hp1
  clear hb1
  go_wp2
  refine bodyPost_ret (v := .tuple #[.agg #[.int .i64 0, .int .i64 0], .bool false]) (by simp [results, Try.results16, go_sem, q0.out, q1.out]) rfl ⟨rfl, ?_⟩
  exact (HB1.out.setCell (show w.heap.size ≤ w.heap.size + 1 + 1 by omega) _).setCell (show w.heap.size ≤ w.heap.size + 1 + 1 by omega) _
theorem sub_both (n d p q : Int) : ∃ (N D : Int) (c : Bool), (∀ w, Calls Try.prog 15 #[.agg #[.int .i64 n, .int .i64 d], .agg #[.int .i64 p, .int .i64 q]] w fun e w' => e = .returned (.tuple #[.agg #[.int .i64 N, .int .i64 D], .bool c]) ∧ Below w.heap.size w w') ∧ (∀ w, Calls Try.prog 16 #[.agg #[.int .i64 n, .int .i64 d], .agg #[.int .i64 p, .int .i64 q]] w fun e w' => e = .returned (.tuple #[.agg #[.int .i64 N, .int .i64 D], .bool c]) ∧ Below w.heap.size w w') := by
  cases hg : fracB p q with
  | false =>
    cases hf : fracB n d with
    | false => exact ⟨_, _, _, fun w => specSub_i1 n d p q w hf, fun w => implSub_i n d p q w hg⟩
    | true => exact ⟨_, _, _, fun w => specSub_i2 n d p q w hf hg, fun w => implSub_i n d p q w hg⟩
  | true =>
    cases hf : fracB n d with
    | false => exact ⟨_, _, _, fun w => specSub_i1 n d p q w hf, fun w => implSub_v n d p q _ _ _ w hg (Lib.hid fun w => implAdd_xi1 n d (-p) q w hf)⟩
    | true =>
      obtain ⟨N, D, c, -, hS, hI⟩ := add_any n d (-p) q hf (frac_neg p q hg)
      exact ⟨N, D, c, fun w => specSub_v n d p q N D c w hf hg (Lib.hid hS), fun w => implSub_v n d p q N D c w hg (Lib.hid hI)⟩
end Go.Proofs.Ytomdoamfdidghaa
