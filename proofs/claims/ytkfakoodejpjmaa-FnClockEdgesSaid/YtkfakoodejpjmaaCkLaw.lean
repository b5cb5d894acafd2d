/- The walks of laws: valid clocks, edges, the next edge, edges in a time. -/
import Derived.Test.YtkfakoodejpjmaaCk
import Derived.Deep.RegionHeld3
namespace Go.Proofs.Ytkfakoodejpjmaa
open Go.RowKit
set_option linter.unusedVariables false
theorem bel_alloc (w : World) (ob : Obj) : Below w.heap.size w (w.alloc ob) := (Below.refl _ _).alloc (Nat.le_refl _) _
theorem bel_call {w w1 w2 : World} (h : Below w.heap.size w w1) (h2 : Below w1.heap.size w1 w2) : Below w.heap.size w w2 := h.trans (h2.mono h.size)
/-- a clock lies at g -/
def CkAt (w : World) (g : Nat) (p o : Int) : Prop := g < w.heap.size ∧ w.cell? ⟨g, 0, none⟩ = some (.int .i64 p) ∧ w.cell? ⟨g, 1, none⟩ = some (.int .i64 o)
theorem CkAt.call {w w' : World} {g : Nat} {p o : Int} (h : CkAt w g p o) (b : Below w.heap.size w w') : CkAt w' g p o :=
  ⟨Nat.lt_of_lt_of_le h.1 b.size, (b.cell (p := ⟨g, 0, none⟩) h.1).trans h.2.1, (b.cell (p := ⟨g, 1, none⟩) h.1).trans h.2.2⟩
theorem CkAt.drew {w : World} {g : Nat} {p o : Int} (h : CkAt w g p o) : CkAt w.drew g p o := h.call (Below.refl _ _).drew
theorem CkAt.drewN {w : World} {g : Nat} {p o : Int} (h : CkAt w g p o) (n : Nat) : CkAt (w.drewN n) g p o := h.call (below_drk (Below.refl _ _) n)
theorem CkAt.alloc {w : World} {g : Nat} {p o : Int} (h : CkAt w g p o) (ob : Obj) : CkAt (w.alloc ob) g p o := h.call (bel_alloc w ob)
theorem CkAt.new (w : World) (p o : Int) (T : TypeId) : CkAt (w.alloc (.cells #[.int .i64 p, .int .i64 o] T)) w.heap.size p o := by
  refine ⟨?_, ?_, ?_⟩ <;> simp
/-- the world lies behind this one -/
def CkDn (w W : World) : Prop := Below w.heap.size w W
theorem CkDn.dr {w W : World} (h : CkDn w W) : CkDn w W.drew := Below.drew h
theorem CkDn.call {w W W' : World} (h : CkDn w W) (b : Below W.heap.size W W') : CkDn w W' := Below.trans h (b.mono (Below.size h))
theorem cell_drK {W : World} {a : Addr} {v : Value} (h : W.cell? a = some v) : W.drew.cell? a = some v := h
theorem cell_keptK {w w' : World} {a : Addr} {v : Value} (b : Below w.heap.size w w') (h : w.cell? a = some v) : w'.cell? a = some v :=
  (b.cell (World.block_lt_of_cell? w _ h)).trans h
theorem bel_drew {w w1 : World} (h : Below w.heap.size w w1) : Below w.heap.size w w1.drew := h.drew
theorem isMoment_t (m : Int) (w : World) (h : 0 ≤ m ∧ m ≤ 1000000000000) :
    Calls Try.prog 51 #[.int .i64 m] w fun e w' => e = .returned (.bool true) ∧ w = w' := by
  go_enter Try.func51, Try.ntmps51
  go_wp2_with fail
  refine (within_i64_t _ _ _ _ h.1 h.2).mono ?_; rintro e w' ⟨rfl, rfl⟩
  go_wp2
  go_ret
  exact ⟨rfl, rfl⟩
theorem isMoment_f (m : Int) (w : World) (h : ¬ (0 ≤ m ∧ m ≤ 1000000000000)) :
    Calls Try.prog 51 #[.int .i64 m] w fun e w' => e = .returned (.bool false) ∧ w = w' := by
  go_enter Try.func51, Try.ntmps51
  go_wp2_with fail
  refine (within_i64_f _ _ _ _ (by omega)).mono ?_; rintro e w' ⟨rfl, rfl⟩
  go_wp2
  go_ret
  exact ⟨rfl, rfl⟩
theorem implNextEdge_v (p o : Int) (m : Int) (w : World) (hv : clkB p o = false) :
    Calls Try.prog 14 #[.agg #[.int .i64 p, .int .i64 o], .int .i64 m] w fun e w' => e = .returned (.tuple #[.int .i64 0, .bool false]) ∧ Below w.heap.size w w' := by
  have HV := Lib.hid hv
  clear hv
  go_enter Try.func14, Try.ntmps14
  go_wp2_with fail
  refine (implVC_any p o _).mono ?_; rw [HV.out]; rintro e w1 ⟨rfl, hb1⟩
  have HB1 := Lib.hid (bel_call (bel_alloc w _) hb1)
  have A1 := Lib.hid ((CkAt.new w p o _).call hb1)
  obtain ⟨-, c10, c11⟩ := A1.out
  clear hb1
  go_wp2
  go_ret2
  exact ⟨rfl, HB1.out⟩
theorem implNextEdge_f (p o m : Int) (w : World) (hv : clkB p o = true) (hm : ¬ (0 ≤ m ∧ m ≤ 1000000000000)) :
    Calls Try.prog 14 #[.agg #[.int .i64 p, .int .i64 o], .int .i64 m] w fun e w' => e = .returned (.tuple #[.int .i64 0, .bool false]) ∧ Below w.heap.size w w' := by
  have HV := Lib.hid hv
  clear hv
  go_enter Try.func14, Try.ntmps14
  go_wp2_with fail
  refine (implVC_any p o _).mono ?_; rw [HV.out]; rintro e w1 ⟨rfl, hb1⟩
  have HB1 := Lib.hid (bel_call (bel_alloc w _) hb1)
  have A1 := Lib.hid ((CkAt.new w p o _).call hb1)
  obtain ⟨-, c10, c11⟩ := A1.out
  clear hb1
  go_wp2_with fail
  refine (isMoment_f _ _ hm).mono ?_; rintro e w' ⟨rfl, rfl⟩
  go_wp2
  go_ret2
  exact ⟨rfl, HB1.out⟩
set_option maxHeartbeats 1000000 in
theorem implNextEdge_t (p o m : Int) (w : World) (hv : clkB p o = true) (hm : 0 ≤ m ∧ m ≤ 1000000000000) :
    Calls Try.prog 14 #[.agg #[.int .i64 p, .int .i64 o], .int .i64 m] w fun e w' => e = .returned (.tuple #[.int .i64 (o + befZ p o m * p), .bool true]) ∧ Below w.heap.size w w' := by
  obtain ⟨⟨h1, h2⟩, h3, h4⟩ := clkB_iff.1 hv
  obtain ⟨b0, b1⟩ := befZ_mul p o m h1 h3 hm.1
  have HV := Lib.hid hv
  have HBF := Lib.hid (fun w => next_any p o m w h1 (by omega) h3 (by omega) hm.1 (by omega))
  obtain ⟨q, hq⟩ : ∃ q, befZ p o m = q := ⟨_, rfl⟩
  rw [hq] at HBF b0 b1 ⊢
  have w0 : IntKind.i64.wrap (q * p) = q * p := IntWalk.i64_in _ (by omega)
  have w1 : IntKind.i64.wrap (o + q * p) = o + q * p := IntWalk.i64_in _ (by omega)
  clear hv b0 b1 hq
  go_enter Try.func14, Try.ntmps14
  go_wp2_with fail
  refine (implVC_any p o _).mono ?_; rw [HV.out]; rintro e w1 ⟨rfl, hb1⟩
  have HB1 := Lib.hid (bel_call (bel_alloc w _) hb1)
  have A1 := Lib.hid ((CkAt.new w p o _).call hb1)
  obtain ⟨-, c10, c11⟩ := A1.out
  clear hb1
  go_wp2_with fail
  refine (isMoment_t _ _ hm).mono ?_; rintro e w' ⟨rfl, rfl⟩
  go_wp2_with fail
  refine (HBF.out _).mono ?_; rintro e w2 ⟨rfl, hb2⟩
  have HB2 := Lib.hid (bel_call HB1.out hb2)
  go_wp2
  go_ret2
  exact ⟨rfl, HB2.out⟩
theorem implCountEdgesIn_v (p o : Int) (m t : Int) (w : World) (hv : clkB p o = false) :
    Calls Try.prog 15 #[.agg #[.int .i64 p, .int .i64 o], .int .i64 m, .int .i64 t] w fun e w' => e = .returned (.tuple #[.int .i64 0, .bool false]) ∧ Below w.heap.size w w' := by
  have HV := Lib.hid hv
  clear hv
  go_enter Try.func15, Try.ntmps15
  go_wp2_with fail
  refine (implVC_any p o _).mono ?_; rw [HV.out]; rintro e w1 ⟨rfl, hb1⟩
  have HB1 := Lib.hid (bel_call (bel_alloc w _) hb1)
  have A1 := Lib.hid ((CkAt.new w p o _).call hb1)
  obtain ⟨-, c10, c11⟩ := A1.out
  clear hb1
  go_wp2
  go_ret2
  exact ⟨rfl, HB1.out⟩
theorem implCountEdgesIn_f (p o m t : Int) (w : World) (hv : clkB p o = true) (hm : ¬ (0 ≤ m ∧ m ≤ 1000000000000)) :
    Calls Try.prog 15 #[.agg #[.int .i64 p, .int .i64 o], .int .i64 m, .int .i64 t] w fun e w' => e = .returned (.tuple #[.int .i64 0, .bool false]) ∧ Below w.heap.size w w' := by
  have HV := Lib.hid hv
  clear hv
  go_enter Try.func15, Try.ntmps15
  go_wp2_with fail
  refine (implVC_any p o _).mono ?_; rw [HV.out]; rintro e w1 ⟨rfl, hb1⟩
  have HB1 := Lib.hid (bel_call (bel_alloc w _) hb1)
  have A1 := Lib.hid ((CkAt.new w p o _).call hb1)
  obtain ⟨-, c10, c11⟩ := A1.out
  clear hb1
  go_wp2_with fail
  refine (isMoment_f _ _ hm).mono ?_; rintro e w' ⟨rfl, rfl⟩
  go_wp2
  go_ret2
  exact ⟨rfl, HB1.out⟩
theorem implCountEdgesIn_g (p o m t : Int) (w : World) (hv : clkB p o = true) (hm : (0 ≤ m ∧ m ≤ 1000000000000) ∧ ¬ (0 ≤ t ∧ t ≤ 1000000000000)) :
    Calls Try.prog 15 #[.agg #[.int .i64 p, .int .i64 o], .int .i64 m, .int .i64 t] w fun e w' => e = .returned (.tuple #[.int .i64 0, .bool false]) ∧ Below w.heap.size w w' := by
  have HV := Lib.hid hv
  clear hv
  go_enter Try.func15, Try.ntmps15
  go_wp2_with fail
  refine (implVC_any p o _).mono ?_; rw [HV.out]; rintro e w1 ⟨rfl, hb1⟩
  have HB1 := Lib.hid (bel_call (bel_alloc w _) hb1)
  have A1 := Lib.hid ((CkAt.new w p o _).call hb1)
  obtain ⟨-, c10, c11⟩ := A1.out
  clear hb1
  go_wp2_with fail
  refine (isMoment_t _ _ hm.1).mono ?_; rintro e w' ⟨rfl, rfl⟩
  go_wp2_with fail
  refine (isMoment_f _ _ hm.2).mono ?_; rintro e w' ⟨rfl, rfl⟩
  go_wp2
  go_ret2
  exact ⟨rfl, HB1.out⟩
theorem implCountEdgesIn_h (p o m t : Int) (w : World) (hv : clkB p o = true) (hm : ((0 ≤ m ∧ m ≤ 1000000000000) ∧ (0 ≤ t ∧ t ≤ 1000000000000)) ∧ t < m) :
    Calls Try.prog 15 #[.agg #[.int .i64 p, .int .i64 o], .int .i64 m, .int .i64 t] w fun e w' => e = .returned (.tuple #[.int .i64 0, .bool false]) ∧ Below w.heap.size w w' := by
  have HV := Lib.hid hv
  clear hv
  have hlt : t < m := hm.2
  have hl2 : decide (t < m) = true := decide_eq_true hlt
  go_enter Try.func15, Try.ntmps15
  go_wp2_with fail
  refine (implVC_any p o _).mono ?_; rw [HV.out]; rintro e w1 ⟨rfl, hb1⟩
  have HB1 := Lib.hid (bel_call (bel_alloc w _) hb1)
  have A1 := Lib.hid ((CkAt.new w p o _).call hb1)
  obtain ⟨-, c10, c11⟩ := A1.out
  clear hb1
  go_wp2_with fail
  refine (isMoment_t _ _ hm.1.1).mono ?_; rintro e w' ⟨rfl, rfl⟩
  go_wp2_with fail
  refine (isMoment_t _ _ hm.1.2).mono ?_; rintro e w' ⟨rfl, rfl⟩
  go_wp2
  go_ret2
  exact ⟨rfl, HB1.out⟩
set_option maxHeartbeats 2000000 in
theorem implCountEdgesIn_t (p o m t : Int) (w : World) (hv : clkB p o = true) (hm : 0 ≤ m) (hmt : m ≤ t) (ht : t ≤ 1000000000000) :
    Calls Try.prog 15 #[.agg #[.int .i64 p, .int .i64 o], .int .i64 m, .int .i64 t] w fun e w' => e = .returned (.tuple #[.int .i64 (befZ p o t - befZ p o m), .bool true]) ∧ Below w.heap.size w w' := by
  obtain ⟨⟨h1, h2⟩, h3, h4⟩ := clkB_iff.1 hv
  obtain ⟨b0, b1, -, -⟩ := befZ_bd p o m h1 hm h3
  obtain ⟨c0, c1, -, -⟩ := befZ_bd p o t h1 (by omega) h3
  have HV := Lib.hid hv
  have HBM := Lib.hid (fun w => before_any p o m w h1 (by omega) h3 (by omega) hm (by omega))
  have HBT := Lib.hid (fun w => before_any p o t w h1 (by omega) h3 (by omega) (by omega) (by omega))
  obtain ⟨q, hq⟩ : ∃ q, befZ p o m = q := ⟨_, rfl⟩
  obtain ⟨u, hu⟩ : ∃ u, befZ p o t = u := ⟨_, rfl⟩
  rw [hq] at HBM b0 b1 ⊢
  rw [hu] at HBT c0 c1 ⊢
  have w1 : IntKind.i64.wrap (u - q) = u - q := IntWalk.i64_in _ (by omega)
  clear hv b0 b1 c0 c1 hq hu
  go_enter Try.func15, Try.ntmps15
  go_wp2_with fail
  refine (implVC_any p o _).mono ?_; rw [HV.out]; rintro e w1 ⟨rfl, hb1⟩
  have HB1 := Lib.hid (bel_call (bel_alloc w _) hb1)
  have A1 := Lib.hid ((CkAt.new w p o _).call hb1)
  obtain ⟨-, c10, c11⟩ := A1.out
  clear hb1
  go_wp2_with fail
  refine (isMoment_t _ _ ⟨by omega, by omega⟩).mono ?_; rintro e w' ⟨rfl, rfl⟩
  go_wp2_with fail
  refine (isMoment_t _ _ ⟨by omega, by omega⟩).mono ?_; rintro e w' ⟨rfl, rfl⟩
  go_wp2_with fail
  have HD1 : CkDn w w1 := HB1.out
  go_region_held3 (fun W => W.cell? ⟨w.heap.size, 0, none⟩ = some (.int .i64 p) ∧ W.cell? ⟨w.heap.size, 1, none⟩ = some (.int .i64 o) ∧ CkDn w W) (first | (go_split_ands; (refine ⟨?_, ?_, ?_⟩ <;> (first | (with_reducible assumption) | ((with_reducible apply cell_keptK) <;> (with_reducible assumption)) | ((with_reducible refine cell_drK ?_); (with_reducible assumption)) | ((with_reducible refine CkDn.dr ?_); (with_reducible assumption)) | ((with_reducible apply CkDn.call) <;> (with_reducible assumption)))))) (first | (go_at_call 52; first | ((with_reducible refine (HBT.out _).mono ?_); rintro e w2 ⟨rfl, hb2⟩) | ((with_reducible refine (HBM.out _).mono ?_); rintro e w3 ⟨rfl, hb3⟩)))
  all_goals go_wp2
  all_goals go_ret2
  all_goals (rename_i hHeld; exact ⟨rfl, hHeld.2.2⟩)
theorem edge_bd (p o i : Int) (hp : 1 ≤ p) : (1000000000000 - o) / p < i ↔ 1000000000000 < o + i * p := by
  have := @Int.le_ediv_iff_mul_le i (1000000000000 - o) p (by omega)
  omega
theorem implEdgeAt_v (p o : Int) (i : Int) (w : World) (hv : clkB p o = false) :
    Calls Try.prog 16 #[.agg #[.int .i64 p, .int .i64 o], .int .i64 i] w fun e w' => e = .returned (.tuple #[.int .i64 0, .bool false]) ∧ Below w.heap.size w w' := by
  have HV := Lib.hid hv
  clear hv
  go_enter Try.func16, Try.ntmps16
  go_wp2_with fail
  refine (implVC_any p o _).mono ?_; rw [HV.out]; rintro e w1 ⟨rfl, hb1⟩
  have HB1 := Lib.hid (bel_call (bel_alloc w _) hb1)
  have A1 := Lib.hid ((CkAt.new w p o _).call hb1)
  obtain ⟨-, c10, c11⟩ := A1.out
  clear hb1
  go_wp2
  go_ret2
  exact ⟨rfl, HB1.out⟩
theorem implEdgeAt_f (p o i : Int) (w : World) (hv : clkB p o = true) (hi : ¬ (0 ≤ i ∧ i ≤ 1000000000000)) :
    Calls Try.prog 16 #[.agg #[.int .i64 p, .int .i64 o], .int .i64 i] w fun e w' => e = .returned (.tuple #[.int .i64 0, .bool false]) ∧ Below w.heap.size w w' := by
  have HV := Lib.hid hv
  clear hv
  go_enter Try.func16, Try.ntmps16
  go_wp2_with fail
  refine (implVC_any p o _).mono ?_; rw [HV.out]; rintro e w1 ⟨rfl, hb1⟩
  have HB1 := Lib.hid (bel_call (bel_alloc w _) hb1)
  have A1 := Lib.hid ((CkAt.new w p o _).call hb1)
  obtain ⟨-, c10, c11⟩ := A1.out
  clear hb1
  go_wp2_with fail
  refine (within_i64_f _ _ _ _ (by omega)).mono ?_; rintro e w' ⟨rfl, rfl⟩
  go_wp2
  go_ret2
  exact ⟨rfl, HB1.out⟩
set_option maxHeartbeats 1000000 in
theorem implEdgeAt_g (p o i : Int) (w : World) (hv : clkB p o = true) (hi : 0 ≤ i ∧ i ≤ 1000000000000) (hio : 1000000000000 < o + i * p) :
    Calls Try.prog 16 #[.agg #[.int .i64 p, .int .i64 o], .int .i64 i] w fun e w' => e = .returned (.tuple #[.int .i64 0, .bool false]) ∧ Below w.heap.size w w' := by
  obtain ⟨⟨h1, h2⟩, h3, h4⟩ := clkB_iff.1 hv
  have m0 : 0 ≤ i * p := Int.mul_nonneg hi.1 (by omega)
  have m1 : i * p ≤ 1000000000000 * 100000 := Int.mul_le_mul hi.2 h2 (by omega) (by omega)
  have HV := Lib.hid hv
  have HAT := Lib.hid (fun w => at_any p o i w m0 (by omega) (by omega) (by omega))
  obtain ⟨v, hvv⟩ : ∃ v, o + i * p = v := ⟨_, rfl⟩
  rw [hvv] at HAT hio 
  have hd : decide (1000000000000 < v) = true := by simp; omega
  clear hv hvv m0 m1
  go_enter Try.func16, Try.ntmps16
  go_wp2_with fail
  refine (implVC_any p o _).mono ?_; rw [HV.out]; rintro e w1 ⟨rfl, hb1⟩
  have HB1 := Lib.hid (bel_call (bel_alloc w _) hb1)
  have A1 := Lib.hid ((CkAt.new w p o _).call hb1)
  obtain ⟨-, c10, c11⟩ := A1.out
  clear hb1
  go_wp2_with fail
  refine (within_i64_t _ _ _ _ hi.1 hi.2).mono ?_; rintro e w' ⟨rfl, rfl⟩
  go_wp2_with fail
  refine (HAT.out _).mono ?_; rintro e w2 ⟨rfl, hb2⟩
  have HB2 := Lib.hid (bel_call HB1.out hb2)
  obtain ⟨-, d0, d1⟩ := A1.out.call hb2
  clear hb2
  go_wp2
  go_ret2
  exact ⟨rfl, HB2.out⟩
set_option maxHeartbeats 1000000 in
theorem implEdgeAt_t (p o i : Int) (w : World) (hv : clkB p o = true) (hi : 0 ≤ i ∧ i ≤ 1000000000000) (hio : o + i * p ≤ 1000000000000) :
    Calls Try.prog 16 #[.agg #[.int .i64 p, .int .i64 o], .int .i64 i] w fun e w' => e = .returned (.tuple #[.int .i64 (o + i * p), .bool true]) ∧ Below w.heap.size w w' := by
  obtain ⟨⟨h1, h2⟩, h3, h4⟩ := clkB_iff.1 hv
  have m0 : 0 ≤ i * p := Int.mul_nonneg hi.1 (by omega)
  have m1 : i * p ≤ 1000000000000 * 100000 := Int.mul_le_mul hi.2 h2 (by omega) (by omega)
  have HV := Lib.hid hv
  have HAT := Lib.hid (fun w => at_any p o i w m0 (by omega) (by omega) (by omega))
  obtain ⟨v, hvv⟩ : ∃ v, o + i * p = v := ⟨_, rfl⟩
  rw [hvv] at HAT hio ⊢
  have hd : decide (1000000000000 < v) = false := by simp; omega
  clear hv hvv m0 m1
  go_enter Try.func16, Try.ntmps16
  go_wp2_with fail
  refine (implVC_any p o _).mono ?_; rw [HV.out]; rintro e w1 ⟨rfl, hb1⟩
  have HB1 := Lib.hid (bel_call (bel_alloc w _) hb1)
  have A1 := Lib.hid ((CkAt.new w p o _).call hb1)
  obtain ⟨-, c10, c11⟩ := A1.out
  clear hb1
  go_wp2_with fail
  refine (within_i64_t _ _ _ _ hi.1 hi.2).mono ?_; rintro e w' ⟨rfl, rfl⟩
  go_wp2_with fail
  refine (HAT.out _).mono ?_; rintro e w2 ⟨rfl, hb2⟩
  have HB2 := Lib.hid (bel_call HB1.out hb2)
  obtain ⟨-, d0, d1⟩ := A1.out.call hb2
  clear hb2
  go_wp2_with fail
  refine (HAT.out _).mono ?_; rintro e w3 ⟨rfl, hb3⟩
  have HB3 := Lib.hid (bel_call HB2.out hb3)
  go_wp2
  go_ret2
  exact ⟨rfl, HB3.out⟩
end Go.Proofs.Ytkfakoodejpjmaa
