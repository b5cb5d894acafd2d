/- The wave of a clock, on the side of the program. -/
import Derived.Test.YtkfakoodejpjmaaChanW
import Derived.Test.YtkfakoodejpjmaaBuilder
import Derived.Test.YtkfakoodejpjmaaCkLaw
import Derived.Test.YtkfakoodejpjmaaWvM
import Derived.Test.YtkfakoodejpjmaaWvK
namespace Go.Proofs.Ytkfakoodejpjmaa
open Go.RowKit Go.Conc
set_option linter.unusedVariables false
theorem info_rune : (Try.prog.info? 21).map (·.bytes) = some 4 := by kernel_rfl
theorem mkC (n : Nat) (hn : n ≤ 400) (w : World) : (Instr.makeChan 70 (.int .i64 (n : Int))).run Try.prog w = .ok (.chan (some w.heap.size)) (w.alloc (.chan n #[] false 0 0 false)) := by
  obtain ⟨i, hi, hb⟩ := Option.map_eq_some_iff.1 info_rune
  exact run_makeChan (P := Try.prog) (w := w) Try.underlying70 hi .i64 n (by omega) (by rw [hb]; omega)
theorem cap_chan (c C s r : Nat) (q : Array Value) (d : Bool) (w : World) (h : w.heap[c]? = some (.chan C q d s r false)) : (Builtin.cap_ #[70] 3 #[.chan (some c)]).run Try.prog w = .ok (.int .i64 (C : Int)) w := by
  have hu := Try.underlying70
  simp [Builtin.cap_, run_underlying, hu, getObj, Sem.run, h, goInt, pure]
/-- what holds at the outer loop's head -/
def WvInv (p o : Int) (high ticks C : Nat) (w w1 : World) (m : Nat) (a : Act) (W : World) : Prop := ∃ (t : Nat) (u4 u5 u10 u11 u12 u13 u14 u15 u16 u17 u18 u19 u20 u21 u22 u23 u24 u25 u26 u27 u28 u29 u30 u33 u34 u35 u36 u37 u38 u39 u40 u41 u42 u43 u44 u45 u46 u47 u48 u49 u50 u51 u52 u53 u54 u55 u56 u57 : Value), a = { tmps := #[.agg #[.int .i64 p, .int .i64 o], .int .i64 (high : Int), .int .i64 (ticks : Int), .pointer (some ⟨w.heap.size, 0, none⟩), u4, u5, .string ⟨#[]⟩, .bool false, .pointer (some ⟨w1.heap.size, 0, none⟩), .chan (some (w1.heap.size + 1)), u10, u11, u12, u13, u14, u15, u16, u17, u18, u19, u20, u21, u22, u23, u24, u25, u26, u27, u28, u29, u30, .int .i64 (ticks : Int), .int .i64 (t : Int), u33, u34, u35, u36, u37, u38, u39, u40, u41, u42, u43, u44, u45, u46, u47, u48, u49, u50, u51, u52, u53, u54, u55, u56, u57], defers := [] } ∧ t ≤ ticks ∧ m = ticks - t ∧ Hid (CkAt W w.heap.size p o) ∧ Hid (Lib.IsBuilderF TB TU w1.heap.size w1.heap.size (Lib.byteCells (outW p o high t)) W) ∧ (∃ s r, W.heap[w1.heap.size + 1]? = some (.chan C (Array.replicate (preW p o C t) (.int .i32 49)) false s r false)) ∧ Hid (Below w.heap.size w W)
/-- what holds at the inner loop's head -/
def WvIn (p o : Int) (high ticks C t : Nat) (w w1 : World) (m : Nat) (a : Act) (W : World) : Prop := ∃ (k : Nat) (u4 u5 u10 u11 u12 u13 u14 u15 u16 u17 u18 u19 u20 u21 u22 u23 u24 u25 u26 u27 u28 u29 u30 u33 u34 u35 u36 u37 u38 u39 u40 u43 u44 u45 u46 u47 u48 u49 u50 u51 u52 u53 u54 u55 u56 u57 : Value), a = { tmps := #[.agg #[.int .i64 p, .int .i64 o], .int .i64 (high : Int), .int .i64 (ticks : Int), .pointer (some ⟨w.heap.size, 0, none⟩), u4, u5, .string ⟨#[]⟩, .bool false, .pointer (some ⟨w1.heap.size, 0, none⟩), .chan (some (w1.heap.size + 1)), u10, u11, u12, u13, u14, u15, u16, u17, u18, u19, u20, u21, u22, u23, u24, u25, u26, u27, u28, u29, u30, .int .i64 (ticks : Int), .int .i64 (t : Int), u33, u34, u35, u36, u37, u38, u39, u40, .int .i64 (C : Int), .int .i64 (k : Int), u43, u44, u45, u46, u47, u48, u49, u50, u51, u52, u53, u54, u55, u56, u57], defers := [] } ∧ k ≤ C ∧ m = C - k ∧ Hid (CkAt W w.heap.size p o) ∧ Hid (Lib.IsBuilderF TB TU w1.heap.size w1.heap.size (Lib.byteCells (outW p o high t)) W) ∧ (∃ s r, W.heap[w1.heap.size + 1]? = some (.chan C (Array.replicate k (.int .i32 49)) false s r false)) ∧ Hid (Below w.heap.size w W)
set_option maxHeartbeats 4000000 in
set_option maxRecDepth 100000 in
theorem implWave_t (p o : Int) (high ticks C : Nat) (w : World) (hv : clkB p o = true) (hh : (high : Int) ≤ p) (ht : ticks ≤ 400) (hC : C = min high ticks) :
    Calls Try.prog 10 #[.agg #[.int .i64 p, .int .i64 o], .int .i64 (high : Int), .int .i64 (ticks : Int)] w fun e w' => e = .returned (.tuple #[.string ⟨⟨outW p o high ticks⟩⟩, .bool true]) ∧ Below w.heap.size w w' := by
  obtain ⟨⟨p1, p2⟩, o1, o2⟩ := clkB_iff.1 hv
  have HV := Lib.hid hv
  have hmk : ∀ w : World, (Instr.makeChan 70 (.int .i64 (min (high : Int) (ticks : Int)))).run Try.prog w = .ok (.chan (some w.heap.size)) (w.alloc (.chan C #[] false 0 0 false)) := fun w => by rw [show min (high : Int) (ticks : Int) = (C : Int) by omega]; exact mkC C (by omega) w
  clear hv
  have HC := Lib.hid hC
  have hCt : C ≤ 400 := by omega
  clear hC
  refine calls_of_wpN Try.func10 rfl (fun w h => by simp at h) ?_
  simp only [Try.ntmps10, List.size_toArray, List.length_cons, List.length_nil, Nat.reduceAdd, Nat.reduceSub, Array.replicate_succ, Array.replicate_zero, List.push_toArray, List.append_toArray, List.nil_append, List.cons_append]
  refine WpN.seq_k ?_; intro K1 hK1; refine WpN.of_wp ?_
  go_wp2
  refine WpN.seq_k ?_; intro K2 hK2; refine WpN.of_wp ?_
  go_wp2_with fail
  refine (implVC_any p o _).mono ?_; rw [HV.out]; rintro e w1 ⟨rfl, hb1⟩
  have HB1 := Lib.hid (bel_call (bel_alloc w _) hb1)
  have A1 := Lib.hid ((CkAt.new w p o _).call hb1)
  obtain ⟨-, c10, c11⟩ := A1.out
  clear hb1
  go_wp2_with fail
  refine (within_i64_t _ _ _ _ (by omega) hh).mono ?_; rintro e w' ⟨rfl, rfl⟩
  go_wp2_with fail
  refine (within_i64_t _ _ _ _ (by omega) (by omega)).mono ?_; rintro e w' ⟨rfl, rfl⟩
  go_wp2
  refine WpN.seq_k ?_; intro K3 hK3; refine WpN.of_wp ?_
  go_wp2
  refine WpN.seq_k ?_; intro K4 hK4; refine WpN.of_wp ?_
  go_wp2
  refine WpN.seq_k ?_; intro K5 hK5; have HK5 := Lib.hid hK5; clear hK5
  refine WpN.seq_k ?_; intro K6 hK6; refine WpN.of_wp ?_
  go_wp2
  refine WpN.block ?_
  refine WpN.loop (WvInv p o high ticks C w w1) ticks ?h0 ?round
  case h0 =>
    refine ⟨0, _, _, _, _, _, _, _, _, _, _, _, _, _, _, _, _, _, _, _, _, _, _, _, _, _, _, _, _, _, _, _, _, _, _, _, _, _, _, _, _, _, _, _, _, _, _, _, _, rfl, Nat.zero_le _, rfl, (A1.out.alloc _).alloc _, ?_, ⟨0, 0, ?_⟩, ((HB1.out.alloc HB1.out.size _).alloc (by have := HB1.out.size; simp; omega) _)⟩
    · show Lib.IsBuilderF TB TU w1.heap.size w1.heap.size [] _
      exact (Lib.IsBuilderF.of (Lib.fresh_isBuilder TB TU w1)).alloc _
    · have hp0 := preW0 p o C o1
      rw [hp0]
      have := heap_alloc_new (w1.alloc (.cells #[.pointer none, .slice none 0 0] TB)) (.chan C #[] false 0 0 false)
      simpa using this
  case round =>
    rintro m a W ⟨t, u4, u5, u10, u11, u12, u13, u14, u15, u16, u17, u18, u19, u20, u21, u22, u23, u24, u25, u26, u27, u28, u29, u30, u33, u34, u35, u36, u37, u38, u39, u40, u41, u42, u43, u44, u45, u46, u47, u48, u49, u50, u51, u52, u53, u54, u55, u56, u57, rfl, ht2, rfl, HCK, HBU, ⟨sn, rc, hch⟩, HBW⟩
    obtain ⟨-, c20, c21⟩ := HCK.out
    by_cases hlt : t < ticks
    · have hltI : (t : Int) < (ticks : Int) := by omega
      have HNX := Lib.hid (fun w => next_any p o (t : Int) w p1 (by omega) o1 (by omega) (by omega) (by omega))
      refine WpN.seq_k ?_; intro Ka hKa; refine WpN.of_wp ?_
      go_wp2
      refine WpN.seq_k ?_; intro Kb hKb; refine WpN.of_wp ?_
      go_wp2
      refine WpN.seq_k ?_; intro Kc hKc; have HKc := Lib.hid hKc; clear hKc; refine WpN.block ?_
      refine WpN.seq_k ?_; intro Kd hKd; refine WpN.of_wp ?_
      go_wp2
      refine WpN.seq_k ?_; intro Ke hKe; have HKe := Lib.hid hKe; clear hKe
      have HREST : ∀ (q : Nat) (W2 : World) (u4 u5 u10 u11 u12 u13 u14 u15 u16 u17 u18 u19 u20 u21 u22 u23 u24 u25 u26 u27 u28 u29 u30 u33 u34 u35 u36 u37 u38 u39 u40 u41 u42 u43 u44 u45 u46 u47 u48 u49 u50 u51 u52 u53 u54 u55 u56 u57 : Value), Hid (CkAt W2 w.heap.size p o) → Hid (Lib.IsBuilderF TB TU w1.heap.size w1.heap.size (Lib.byteCells (outW p o high t)) W2) → (∃ s r, W2.heap[w1.heap.size + 1]? = some (.chan C (Array.replicate q (.int .i32 49)) false s r false)) → Hid (Below w.heap.size w W2) → q = lvW p o C t → Ke { tmps := #[.agg #[.int .i64 p, .int .i64 o], .int .i64 (high : Int), .int .i64 (ticks : Int), .pointer (some ⟨w.heap.size, 0, none⟩), u4, u5, .string ⟨#[]⟩, .bool false, .pointer (some ⟨w1.heap.size, 0, none⟩), .chan (some (w1.heap.size + 1)), u10, u11, u12, u13, u14, u15, u16, u17, u18, u19, u20, u21, u22, u23, u24, u25, u26, u27, u28, u29, u30, .int .i64 (ticks : Int), .int .i64 (t : Int), u33, u34, u35, u36, u37, u38, u39, u40, u41, u42, u43, u44, u45, u46, u47, u48, u49, u50, u51, u52, u53, u54, u55, u56, u57], defers := [] } W2 := by
        rintro q W2 v4 v5 v10 v11 v12 v13 v14 v15 v16 v17 v18 v19 v20 v21 v22 v23 v24 v25 v26 v27 v28 v29 v30 v33 v34 v35 v36 v37 v38 v39 v40 v41 v42 v43 v44 v45 v46 v47 v48 v49 v50 v51 v52 v53 v54 v55 v56 v57 HCK2 HBU2 ⟨s2, r2, hc2⟩ HB2 hq
        refine HKe.out _ _ ?_
        refine WpN.seq_k ?_; intro K13 hK13; refine WpN.of_wp ?_
        go_wp2
        refine WpN.seq_k ?_; intro K14 hK14; have HK14 := Lib.hid hK14; clear hK14
        refine WpN.region ?_
        show WpRN _ _ _ [0, 1, 2] _ _
        by_cases hq0 : 0 < q
        · refine WpRN.take (z := .int .i32 0) (w1 := W2) rfl rfl (by simp [go_sem, execOp, rcase, Act.eval]) hc2 (by simpa using hq0) ?_
          refine WpRN.of_ops ?_
          have e1 : (Array.replicate q (Value.int .i32 49)).getD 0 undef = .int .i32 49 := by simp [Array.getD, hq0]
          have e2 : (Array.replicate q (Value.int .i32 49)).extract 1 (Array.replicate q (Value.int .i32 49)).size = Array.replicate (q - 1) (.int .i32 49) := by simp
          rw [e1, e2]
          refine ops12 (a' := { tmps := #[.agg #[.int .i64 p, .int .i64 o], .int .i64 (high : Int), .int .i64 (ticks : Int), .pointer (some ⟨w.heap.size, 0, none⟩), v4, v5, .string ⟨#[]⟩, .bool false, .pointer (some ⟨w1.heap.size, 0, none⟩), .chan (some (w1.heap.size + 1)), v10, v11, v12, v13, v14, v15, v16, v17, v18, v19, v20, v21, v22, v23, v24, v25, v26, v27, v28, v29, v30, .int .i64 (ticks : Int), .int .i64 (t : Int), v33, v34, v35, v36, v37, v38, v39, v40, v41, v42, v43, v44, v45, v46, .chan (some (w1.heap.size + 1)), .tuple #[.int .i64 0, .bool true, .int .i32 49], v49, v50, v51, v52, v53, v54, v55, v56, v57], defers := [] }) rfl ?_
          have hc3 := sc_heap W2 (w1.heap.size + 1) C (Array.replicate (q - 1) (.int .i32 49)) false s2 (r2 + 1) false (Array.getElem?_eq_some_iff.1 hc2).1
          have hws : w.heap.size < w1.heap.size + 1 := by have := HB1.out.size; omega
          have HCK3 := Lib.hid (ck_sc HCK2.out (w1.heap.size + 1) C hws (Array.replicate (q - 1) (.int .i32 49)) false s2 (r2 + 1) false)
          have HBU3 := Lib.hid (bld_sc HBU2.out (Array.replicate (q - 1) (.int .i32 49)) false s2 (r2 + 1) false hc2)
          have HB3 := Lib.hid (bel_sc HB2.out (w1.heap.size + 1) C (by omega) (Array.replicate (q - 1) (.int .i32 49)) false s2 (r2 + 1) false)
          generalize W2.setChan (w1.heap.size + 1) C (Array.replicate (q - 1) (.int .i32 49)) false s2 (r2 + 1) false = W3 at hc3 HCK3 HBU3 HB3 ⊢
          go_wp2
          refine HK14.out _ _ (WpN.of_wp ?_)
          have HBT := Lib.hid ((lvW_bit p o C high ticks t p1 HC.out hlt o1).trans (if_pos (by omega)))
          have HPN := Lib.hid ((preW_step p o C t p1 (by have := HC.out; omega)).trans (by rw [← hq]))
          have hbit := HBT.out
          have hpn : preW p o C (t + 1) = q - 1 := HPN.out
          go_wp2_with fail
          refine (writeRune_low w1.heap.size w1.heap.size _ 49 W3 (by omega) (by omega) HBU3.out (by rw [cells_len]; omega) (by have := (Array.getElem?_eq_some_iff.1 hc3).1; omega)).mono ?_; rintro e w4 ⟨rfl, hb4, hB4, hk4⟩
          go_wp2
          refine HKc.out _ _ (WpN.of_wp ?_)
          go_wp2
          exact ⟨ticks - (t + 1), by omega, t + 1, _, _, _, _, _, _, _, _, _, _, _, _, _, _, _, _, _, _, _, _, _, _, _, _, _, _, _, _, _, _, _, _, _, _, _, _, _, _, _, _, _, _, _, _, _, _, _, _, rfl, hlt, rfl, ck_bel HCK3.out hB4 A1.out.1, .inr (by rw [cells_one p o high t 49 hbit]; exact hb4), ⟨_, _, by rw [hpn]; exact oth_chan hk4 hc3 (by omega)⟩, HB3.out.trans (bel_le hB4 HB1.out.size)⟩
        · have HQ := Lib.hid hq
          have hz : q = 0 := by omega
          rw [hz] at hc2
          rw [hz] at HQ
          clear hq hq0 hz
          refine WpRN.default (z := .int .i32 0) (w1 := W2) rfl rfl (by simp [go_sem, execOp, rcase, Act.eval]) hc2 ?_
          refine WpRN.of_ops ?_
          refine ops12 (a' := { tmps := #[.agg #[.int .i64 p, .int .i64 o], .int .i64 (high : Int), .int .i64 (ticks : Int), .pointer (some ⟨w.heap.size, 0, none⟩), v4, v5, .string ⟨#[]⟩, .bool false, .pointer (some ⟨w1.heap.size, 0, none⟩), .chan (some (w1.heap.size + 1)), v10, v11, v12, v13, v14, v15, v16, v17, v18, v19, v20, v21, v22, v23, v24, v25, v26, v27, v28, v29, v30, .int .i64 (ticks : Int), .int .i64 (t : Int), v33, v34, v35, v36, v37, v38, v39, v40, v41, v42, v43, v44, v45, v46, .chan (some (w1.heap.size + 1)), .tuple #[.int .i64 (-1), .bool false, .int .i32 0], v49, v50, v51, v52, v53, v54, v55, v56, v57], defers := [] }) rfl ?_
          go_wp2
          refine HK14.out _ _ (WpN.of_wp ?_)
          go_wp2_with fail
          refine (levelOfW false _).mono ?_
          rintro e w3 ⟨rfl, rfl⟩
          go_wp2_with fail
          have hbit : bitW p o high t = 48 := (lvW_bit p o C high ticks t p1 HC.out hlt o1).trans (if_neg (by have := HQ.out; omega))
          have hpn : preW p o C (t + 1) = 0 := (preW_step p o C t p1 (by have := HC.out; omega)).trans (by have := HQ.out; omega)
          refine (writeRune_low w1.heap.size w1.heap.size _ 48 _ (by omega) (by omega) HBU2.out (by rw [cells_len]; omega) (by have := (Array.getElem?_eq_some_iff.1 hc2).1; omega)).mono ?_; rintro e w4 ⟨rfl, hb4, hB4, hk4⟩
          go_wp2
          refine HKc.out _ _ (WpN.of_wp ?_)
          go_wp2
          exact ⟨ticks - (t + 1), by omega, t + 1, _, _, _, _, _, _, _, _, _, _, _, _, _, _, _, _, _, _, _, _, _, _, _, _, _, _, _, _, _, _, _, _, _, _, _, _, _, _, _, _, _, _, _, _, _, _, _, _, rfl, hlt, rfl, ck_bel HCK2.out hB4 A1.out.1, .inr (by rw [cells_one p o high t 48 hbit]; exact hb4), ⟨_, _, by rw [hpn]; exact oth_chan hk4 hc2 (by omega)⟩, HB2.out.trans (bel_le hB4 HB1.out.size)⟩
      refine WpN.seq_k ?_; intro Kf hKf; refine WpN.of_wp ?_
      go_wp2_with fail
      refine (HNX.out _).mono ?_; rintro e w2 ⟨rfl, hb2⟩
      go_wp2
      have hch2 := (hb2.block (w1.heap.size + 1) (by have := (Array.getElem?_eq_some_iff.1 hch).1; exact this)).trans hch
      by_cases hE : o + befZ p o (t : Int) * p = (t : Int)
      · have hEb : (o + befZ p o (t : Int) * p == (t : Int)) = true := by simp [hE]
        refine WpN.cond (v := true) (by show Value.bool _ = _; rw [hEb]) ?_
        simp only [if_true]
        refine WpN.seq_k ?_; intro Kg hKg; refine WpN.of_wp ?_
        have hcap := cap_chan _ C _ _ _ _ w2 hch2
        go_wp2
        have hEi := (edge_iff p o t p1 o1).1 hE
        have hq0 := preW_edge p o C t hEi.2
        rw [hq0] at hch2
        refine WpN.block ?_
        refine WpN.loop (WvIn p o high ticks C t w w1) C ?i0 ?iround
        case i0 =>
          exact ⟨0, _, _, _, _, _, _, _, _, _, _, _, _, _, _, _, _, _, _, _, _, _, _, _, _, _, _, _, _, _, _, _, _, _, _, _, _, _, _, _, _, _, _, _, _, _, _, rfl, Nat.zero_le _, rfl, HCK.out.call hb2, bld_call HBU.out hb2, ⟨_, _, hch2⟩, bel_call HBW.out hb2⟩
        case iround =>
          rintro m' a' W' ⟨k, v4, v5, v10, v11, v12, v13, v14, v15, v16, v17, v18, v19, v20, v21, v22, v23, v24, v25, v26, v27, v28, v29, v30, v33, v34, v35, v36, v37, v38, v39, v40, v43, v44, v45, v46, v47, v48, v49, v50, v51, v52, v53, v54, v55, v56, v57, rfl, hk, rfl, HCK', HBU', ⟨s', r', hc'⟩, HB'⟩
          by_cases hkC : k < C
          · have hkI : (k : Int) < (C : Int) := by omega
            refine WpN.seq_k ?_; intro K10 hK10; refine WpN.of_wp ?_
            go_wp2
            refine WpN.seq_k ?_; intro K11 hK11; refine WpN.of_wp ?_
            go_wp2
            refine WpN.seq_k ?_; intro K12 hK12; have HK12 := Lib.hid hK12; clear hK12
            refine WpN.block ?_
            refine WpN.region ?_
            show WpRN _ _ _ [0, 1, 2] _ _
            refine WpRN.value rfl rfl rfl ?_
            refine WpRN.call rfl rfl rfl ?_
            refine calls_args (args := #[.bool true]) (by first | rfl | (simp; done) | (simp; rfl)) ?_
            refine (levelOfW true _).mono ?_
            rintro e W'' ⟨rfl, rfl⟩
            refine ⟨_, rfl, ?_⟩
            refine WpRN.send rfl rfl rfl hc' (by simp; omega) ?_
            refine WpRN.done ?_
            show K12 { tmps := #[.agg #[.int .i64 p, .int .i64 o], .int .i64 (high : Int), .int .i64 (ticks : Int), .pointer (some ⟨w.heap.size, 0, none⟩), v4, v5, .string ⟨#[]⟩, .bool false, .pointer (some ⟨w1.heap.size, 0, none⟩), .chan (some (w1.heap.size + 1)), v10, v11, v12, v13, v14, v15, v16, v17, v18, v19, v20, v21, v22, v23, v24, v25, v26, v27, v28, v29, v30, .int .i64 (ticks : Int), .int .i64 (t : Int), v33, v34, v35, v36, v37, v38, v39, v40, .int .i64 (C : Int), .int .i64 (k : Int), .bool true, .chan (some (w1.heap.size + 1)), .int .i32 49, v46, v47, v48, v49, v50, v51, v52, v53, v54, v55, v56, v57], defers := [] } (W''.setChan (w1.heap.size + 1) C ((Array.replicate k (.int .i32 49)).push (.int .i32 49)) false (s' + 1) r' false)
            refine HK12.out _ _ (WpN.of_wp ?_)
            have hlt1 := (Array.getElem?_eq_some_iff.1 hc').1
            have hws : w.heap.size < w1.heap.size + 1 := by have := HB1.out.size; omega
            go_wp2
            exact ⟨C - (k + 1), by omega, k + 1, _, _, _, _, _, _, _, _, _, _, _, _, _, _, _, _, _, _, _, _, _, _, _, _, _, _, _, _, _, _, _, _, _, _, _, _, _, _, _, _, _, _, _, _, _, _, rfl, hkC, rfl, ck_sc HCK'.out _ _ hws _ _ _ _ _, bld_sc HBU'.out _ _ _ _ _ hc', ⟨s' + 1, r', by rw [Array.replicate_succ]; exact sc_heap _ _ _ _ _ _ _ _ hlt1⟩, bel_sc HB'.out _ _ (by omega) _ _ _ _ _⟩
          · obtain rfl : k = C := by omega
            refine WpN.seq_k ?_; intro K10 hK10; refine WpN.of_wp ?_
            go_wp2
            refine WpN.seq_k ?_; intro K11 hK11; refine WpN.of_wp ?_
            go_wp2
            exact HREST _ _ _ _ _ _ _ _ _ _ _ _ _ _ _ _ _ _ _ _ _ _ _ _ _ _ _ _ _ _ _ _ _ _ _ _ _ _ _ _ _ _ _ _ _ _ _ _ _ _ HCK' HBU' ⟨_, _, hc'⟩ HB' (lvW_edge p o _ t hEi).symm
      · have hEb : (o + befZ p o (t : Int) * p == (t : Int)) = false := by simp [hE]
        refine WpN.cond (v := false) (by show Value.bool _ = _; rw [hEb]) ?_
        simp only [Bool.false_eq_true, if_false]
        refine WpN.of_wp ?_
        go_wp2
        exact HREST _ _ _ _ _ _ _ _ _ _ _ _ _ _ _ _ _ _ _ _ _ _ _ _ _ _ _ _ _ _ _ _ _ _ _ _ _ _ _ _ _ _ _ _ _ _ _ _ _ _ (HCK.out.call hb2) (bld_call HBU.out hb2) ⟨_, _, hch2⟩ (bel_call HBW.out hb2) (lvW_else p o C t (fun h => hE ((edge_iff p o t p1 o1).2 h))).symm
    · obtain rfl : t = ticks := by omega
      refine WpN.seq_k ?_; intro Ka hKa; refine WpN.of_wp ?_
      go_wp2
      refine WpN.seq_k ?_; intro Kb hKb; refine WpN.of_wp ?_
      go_wp2
      refine HK5.out _ _ (WpN.of_wp ?_)
      go_wp2_with fail
      have hszW : w1.heap.size ≤ W.heap.size := by have := (Array.getElem?_eq_some_iff.1 hch).1; omega
      refine (Try.Builder_String_any_k w1.heap.size w1.heap.size _ _ HBU.out hszW).mono ?_
      rintro e w5 ⟨rfl, -, hb5, -⟩
      go_wp2
      exact ⟨rfl, .tuple #[.string ⟨(outW p o high t).toArray⟩, .bool true], by simp [results, Try.f10, go_sem], rfl, HBW.out.trans (bel_le hb5 HB1.out.size)⟩
end Go.Proofs.Ytkfakoodejpjmaa
