/- The sum of two valid fractions, on the side of the model. -/
import Derived.Test.YtomdoamfdidghaaHeldAid
import Derived.Test.YtomdoamfdidghaaWideSpec
import Derived.Test.YtomdoamfdidghaaSplit
import Derived.Test.YtomdoamfdidghaaAddMath
import Derived.Outline
namespace Go.Proofs.Ytomdoamfdidghaa
open Go.RowKit
set_option linter.unusedVariables false

set_option maxHeartbeats 2000000 in
set_option maxRecDepth 100000 in
theorem specAdd_ge (n d p q C G F S R K n1 m1 N D : Int) (Xh Xl Yh Yl Th Tl Q0h Q0l Qh Ql Mh Ml : Int) (sn sp one two c : Bool) (w : World) (hC : 1 ≤ C) (hS : 1 ≤ S) (hG : q.tdiv C = G) (hF : d.tdiv C = F) (hK : q.tdiv S = K) (hG1 : 0 ≤ G ∧ G ≤ 1000000000000000000) (hF1 : 0 ≤ F ∧ F ≤ 1000000000000000000) (hK1 : 0 ≤ K ∧ K ≤ 1000000000000000000)
    (hn : -1000000000000000000 ≤ n ∧ n ≤ 1000000000000000000) (hp : -1000000000000000000 ≤ p ∧ p ≤ 1000000000000000000) (hn1 : 0 ≤ n1 ∧ n1 ≤ 1000000000000000000) (hsn : decide (n < 0) = sn) (hsp : decide (p < 0) = sp) (hsw : (sn == sp) = false)
    (hres : (one = true ∧ two = true ∧ c = true ∧ N = (if sn then -n1 else n1) ∧ D = (if n1 = 0 then 1 else m1)) ∨ ((one = false ∨ two = false) ∧ c = false ∧ N = 0 ∧ D = 0))
    (GC1 : Hid (∀ w, Calls Try.prog 45 #[.int .i64 d, .int .i64 q] w fun e w' => e = .returned (.int .i64 C) ∧ w = w'))
    (MX : Hid (∀ w, Calls Try.prog 46 #[.int .i64 n, .int .i64 (-n)] w fun e w' => e = .returned (.int .i64 (n.natAbs : Int)) ∧ w = w'))
    (MY : Hid (∀ w, Calls Try.prog 46 #[.int .i64 p, .int .i64 (-p)] w fun e w' => e = .returned (.int .i64 (p.natAbs : Int)) ∧ w = w'))
    (TX : Hid (∀ w, Calls Try.prog 49 #[.int .i64 (n.natAbs : Int), .int .i64 G] w fun e w' => e = .returned (.agg #[.int .u64 Xh, .int .u64 Xl]) ∧ Below w.heap.size w w'))
    (TY : Hid (∀ w, Calls Try.prog 49 #[.int .i64 (p.natAbs : Int), .int .i64 F] w fun e w' => e = .returned (.agg #[.int .u64 Yh, .int .u64 Yl]) ∧ Below w.heap.size w w'))
    (LS : Hid (∀ w, Calls Try.prog 52 #[.agg #[.int .u64 Xh, .int .u64 Xl], .agg #[.int .u64 Yh, .int .u64 Yl]] w fun e w' => e = .returned (.bool false) ∧ Below w.heap.size w w'))
    (T1 : Hid (∀ w, Calls Try.prog 53 #[.agg #[.int .u64 Xh, .int .u64 Xl], .agg #[.int .u64 Yh, .int .u64 Yl]] w fun e w' => e = .returned (.agg #[.int .u64 Th, .int .u64 Tl]) ∧ Below w.heap.size w w'))
    (SP1 : Hid (∀ w, Calls Try.prog 54 #[.agg #[.int .u64 Th, .int .u64 Tl], .int .i64 C] w fun e w' => e = .returned (.tuple #[.agg #[.int .u64 Q0h, .int .u64 Q0l], .int .i64 R]) ∧ Below w.heap.size w w'))
    (GC2 : Hid (∀ w, Calls Try.prog 45 #[.int .i64 C, .int .i64 R] w fun e w' => e = .returned (.int .i64 S) ∧ w = w'))
    (SP2 : Hid (∀ w, Calls Try.prog 54 #[.agg #[.int .u64 Th, .int .u64 Tl], .int .i64 S] w fun e w' => (∃ r, e = .returned (.tuple #[.agg #[.int .u64 Qh, .int .u64 Ql], .int .i64 r])) ∧ Below w.heap.size w w'))
    (SM1 : Hid (∀ w, Calls Try.prog 48 #[.agg #[.int .u64 Qh, .int .u64 Ql]] w fun e w' => e = .returned (.tuple #[.int .i64 n1, .bool one]) ∧ Below w.heap.size w w'))
    (TM : Hid (∀ w, Calls Try.prog 49 #[.int .i64 F, .int .i64 K] w fun e w' => e = .returned (.agg #[.int .u64 Mh, .int .u64 Ml]) ∧ Below w.heap.size w w'))
    (SM2 : Hid (∀ w, Calls Try.prog 48 #[.agg #[.int .u64 Mh, .int .u64 Ml]] w fun e w' => e = .returned (.tuple #[.int .i64 m1, .bool two]) ∧ Below w.heap.size w w')) :
    Calls Try.prog 34 #[.agg #[.int .i64 n, .int .i64 d], .agg #[.int .i64 p, .int .i64 q]] w fun e w' => e = .returned (.tuple #[.agg #[.int .i64 N, .int .i64 D], .bool c]) ∧ Below w.heap.size w w' := by
  have HRES := Lib.hid hres
  have hnew := At2.new ((w.alloc (.cells #[.int .i64 n, .int .i64 d] 24)).alloc (.cells #[.int .i64 p, .int .i64 q] 24)) (.int .i64 0) (.int .i64 0) 24
  have hbA := (((Below.refl w.heap.size w).alloc (Nat.le_refl _) (.cells #[.int .i64 n, .int .i64 d] 24)).alloc (by simp) (.cells #[.int .i64 p, .int .i64 q] 24)).alloc (by simp; omega) (.cells #[.int .i64 0, .int .i64 0] 24)
  simp only [World.size_alloc] at hnew
  have HNEW := Lib.hid hnew
  have HBA := Lib.hid hbA
  clear hnew hres hbA
  have wn : IntKind.i64.wrap (-n) = -n := IntWalk.i64_in _ (by omega)
  have wp : IntKind.i64.wrap (-p) = -p := IntWalk.i64_in _ (by omega)
  have wG : IntKind.i64.wrap (q.tdiv C) = G := by rw [hG]; exact IntWalk.i64_in _ (by omega)
  have wF : IntKind.i64.wrap (d.tdiv C) = F := by rw [hF]; exact IntWalk.i64_in _ (by omega)
  have wK : IntKind.i64.wrap (q.tdiv S) = K := by rw [hK]; exact IntWalk.i64_in _ (by omega)
  have wG2 : IntKind.i64.wrap G = G := IntWalk.i64_in _ (by omega)
  have wF2 : IntKind.i64.wrap F = F := IntWalk.i64_in _ (by omega)
  have wK2 : IntKind.i64.wrap K = K := IntWalk.i64_in _ (by omega)
  have c0 : (C == 0) = false := beq_eq_false_iff_ne.2 (by omega)
  have c0' : ¬ C = 0 := by omega
  have s0 : (S == 0) = false := beq_eq_false_iff_ne.2 (by omega)
  have s0' : ¬ S = 0 := by omega
  go_enter Try.func34, Try.ntmps34
  go_wp2_with fail
  refine (GC1.out _).mono ?_; rintro e w' ⟨rfl, rfl⟩
  have k0 : (((w.alloc (.cells #[.int .i64 n, .int .i64 d] 24)).alloc (.cells #[.int .i64 p, .int .i64 q] 24)).alloc (.cells #[.int .i64 0, .int .i64 0] 24)).cell? ⟨w.heap.size, 0, none⟩ = some (.int .i64 n) := by simp [go_sem]
  have k1 : (((w.alloc (.cells #[.int .i64 n, .int .i64 d] 24)).alloc (.cells #[.int .i64 p, .int .i64 q] 24)).alloc (.cells #[.int .i64 0, .int .i64 0] 24)).cell? ⟨w.heap.size, 1, none⟩ = some (.int .i64 d) := by simp [go_sem]
  have k2 : (((w.alloc (.cells #[.int .i64 n, .int .i64 d] 24)).alloc (.cells #[.int .i64 p, .int .i64 q] 24)).alloc (.cells #[.int .i64 0, .int .i64 0] 24)).cell? ⟨w.heap.size + 1, 0, none⟩ = some (.int .i64 p) := by simp [go_sem]
  have k3 : (((w.alloc (.cells #[.int .i64 n, .int .i64 d] 24)).alloc (.cells #[.int .i64 p, .int .i64 q] 24)).alloc (.cells #[.int .i64 0, .int .i64 0] 24)).cell? ⟨w.heap.size + 1, 1, none⟩ = some (.int .i64 q) := by simp [go_sem]
  have hz1 : w.heap.size + 1 + 1 < (((w.alloc (.cells #[.int .i64 n, .int .i64 d] 24)).alloc (.cells #[.int .i64 p, .int .i64 q] 24)).alloc (.cells #[.int .i64 0, .int .i64 0] 24)).heap.size := by simp
  generalize (((w.alloc (.cells #[.int .i64 n, .int .i64 d] 24)).alloc (.cells #[.int .i64 p, .int .i64 q] 24)).alloc (.cells #[.int .i64 0, .int .i64 0] 24)) = w1 at *
  go_wp2_with fail
  refine meet2 ?Xx (fun b W => W.cell? ⟨b, 0, none⟩ = some (.int .u64 Xh) ∧ W.cell? ⟨b, 1, none⟩ = some (.int .u64 Xl) ∧ w1.heap.size ≤ b ∧ b < W.heap.size ∧ Below w1.heap.size w1 W) ?hx ?kx
  case hx =>
    intro K1
    go_region_held3 (fun w' => w'.cell? ⟨w.heap.size, 0, none⟩ = some (.int .i64 n) ∧ w'.cell? ⟨w.heap.size + 1, 1, none⟩ = some (.int .i64 q)) (first | (go_split_ands; (refine ⟨?_, ?_⟩ <;> (with_reducible assumption))) | (go_split_ands; (refine ⟨?_, ?_⟩ <;> ((with_reducible apply cell_kept) <;> (with_reducible assumption)))) | (go_split_ands; (refine ⟨?_, ?_⟩ <;> ((with_reducible refine cell_alloc_kept ?_); (with_reducible assumption)))) | (go_split_ands; (refine ⟨?_, ?_⟩ <;> ((with_reducible refine cell_dr ?_); (with_reducible assumption)))) | (go_split_ands; (refine ⟨?_, ?_⟩ <;> ((with_reducible refine cell_alloc_dr ?_); (with_reducible assumption)))) | (go_split_ands; (refine ⟨?_, ?_⟩ <;> ((with_reducible refine cell_set_kept ?_ (cell_set_kept ?_ ?_)) <;> (first | (with_reducible assumption) | ((try have hq0 := sza.out); (try simp at hq0); (try dsimp only); omega))))) | (go_split_ands; (refine ⟨?_, ?_⟩ <;> ((with_reducible apply cell_alloc_other) <;> (first | (with_reducible assumption) | ((try have hq0 := sza.out); (try simp at hq0); (try dsimp only); omega)))))) (first | (go_at_call 46; (with_reducible refine (MX.out _).mono ?_); rintro e w' ⟨rfl, rfl⟩) | (go_at_call 49; (with_reducible refine (TX.out _).mono ?_); rintro e wa ⟨rfl, hba⟩; have sza := Lib.hid hba.size; (try (refine fresh2 (w1.heap.size) (.int .u64 0) (.int .u64 0) hba ?_ ?_ ?_ ?_ ?_ ?_; (focus (first | (with_reducible assumption) | (simp [go_sem]; done))); (focus (first | (with_reducible assumption) | (simp [go_sem]; done))); (focus (first | (with_reducible assumption) | (simp [go_sem]; done))); (focus (first | (with_reducible assumption) | (simp [go_sem]; done))); (focus (first | (simp; done) | (simp; omega) | omega)); intro ae1 ae2 ae3 ae4 ae5))))
    all_goals (first
      | (refine gen_end _ (fun W => W.cell? ⟨wa.heap.size, 0, none⟩ = some (.int .u64 Xh) ∧ W.cell? ⟨wa.heap.size, 1, none⟩ = some (.int .u64 Xl) ∧ w1.heap.size ≤ wa.heap.size ∧ wa.heap.size < W.heap.size ∧ Below w1.heap.size w1 W) ?_ ?_; (focus (have h1 := sza.out; (try simp at h1); refine ⟨?_, ?_, ?_, ?_, ?_⟩; (focus (simp [go_sem, *]; done)); (focus (simp [go_sem, *]; done)); (focus omega); (focus (simp; try omega)); (focus ((repeat' (first | exact (Below.refl _ _) | (refine below_dr1 ?_) | (refine Below.setCell ?_ ?_ _) | (refine Below.alloc ?_ ?_ _) | (refine Below.trans ?_ (hba.mono ?_)))) <;> (first | (simp; done) | (simp; omega) | omega))))); (focus (intro Wn hW; generalize wa.heap.size = g at hW ⊢; exact K1.out g Wn hW)))
      | (refine gen_end _ (fun W => W.cell? ⟨w1.heap.size, 0, none⟩ = some (.int .u64 Xh) ∧ W.cell? ⟨w1.heap.size, 1, none⟩ = some (.int .u64 Xl) ∧ w1.heap.size ≤ w1.heap.size ∧ w1.heap.size < W.heap.size ∧ Below w1.heap.size w1 W) ?_ ?_; (focus (have h1 := sza.out; (try simp at h1); refine ⟨?_, ?_, ?_, ?_, ?_⟩; (focus (simp [go_sem, *]; done)); (focus (simp [go_sem, *]; done)); (focus omega); (focus (simp; try omega)); (focus ((repeat' (first | exact (Below.refl _ _) | (refine below_dr1 ?_) | (refine Below.setCell ?_ ?_ _) | (refine Below.alloc ?_ ?_ _) | (refine Below.trans ?_ (hba.mono ?_)))) <;> (first | (simp; done) | (simp; omega) | omega))))); (focus (intro Wn hW; exact K1.out _ Wn hW)))
      )
  case kx =>
  intro bx w2 hW
  obtain ⟨x0, x1, hbx1, hbx2, hB⟩ := hW
  have m0 := (hB.cell (p := ⟨w.heap.size, 0, none⟩) (show w.heap.size < w1.heap.size from by omega)).trans k0
  have m1' := (hB.cell (p := ⟨w.heap.size, 1, none⟩) (show w.heap.size < w1.heap.size from by omega)).trans k1
  have m2 := (hB.cell (p := ⟨w.heap.size + 1, 0, none⟩) (show w.heap.size + 1 < w1.heap.size from by omega)).trans k2
  have m3 := (hB.cell (p := ⟨w.heap.size + 1, 1, none⟩) (show w.heap.size + 1 < w1.heap.size from by omega)).trans k3
  have HP2 := Lib.hid (HNEW.out.below hB hz1)
  have HB2 := Lib.hid (HBA.out.trans (hB.mono HBA.out.size))
  have hz2 := hB.size
  clear k0 k1 k2 k3 hB
  go_wp2_with fail
  refine meet2 ?Xy (fun b W => W.cell? ⟨b, 0, none⟩ = some (.int .u64 Yh) ∧ W.cell? ⟨b, 1, none⟩ = some (.int .u64 Yl) ∧ w2.heap.size ≤ b ∧ b < W.heap.size ∧ Below w2.heap.size w2 W) ?hy ?ky
  case hy =>
    intro K1
    go_region_held3 (fun w' => w'.cell? ⟨w.heap.size, 1, none⟩ = some (.int .i64 d) ∧ w'.cell? ⟨w.heap.size + 1, 0, none⟩ = some (.int .i64 p)) (first | (go_split_ands; (refine ⟨?_, ?_⟩ <;> (with_reducible assumption))) | (go_split_ands; (refine ⟨?_, ?_⟩ <;> ((with_reducible apply cell_kept) <;> (with_reducible assumption)))) | (go_split_ands; (refine ⟨?_, ?_⟩ <;> ((with_reducible refine cell_alloc_kept ?_); (with_reducible assumption)))) | (go_split_ands; (refine ⟨?_, ?_⟩ <;> ((with_reducible refine cell_dr ?_); (with_reducible assumption)))) | (go_split_ands; (refine ⟨?_, ?_⟩ <;> ((with_reducible refine cell_alloc_dr ?_); (with_reducible assumption)))) | (go_split_ands; (refine ⟨?_, ?_⟩ <;> ((with_reducible refine cell_set_kept ?_ (cell_set_kept ?_ ?_)) <;> (first | (with_reducible assumption) | ((try have hq0 := sza.out); (try simp at hq0); (try dsimp only); omega))))) | (go_split_ands; (refine ⟨?_, ?_⟩ <;> ((with_reducible apply cell_alloc_other) <;> (first | (with_reducible assumption) | ((try have hq0 := sza.out); (try simp at hq0); (try dsimp only); omega)))))) (first | (go_at_call 46; (with_reducible refine (MY.out _).mono ?_); rintro e w' ⟨rfl, rfl⟩) | (go_at_call 49; (with_reducible refine (TY.out _).mono ?_); rintro e wa ⟨rfl, hba⟩; have sza := Lib.hid hba.size; (try (refine fresh2 (w2.heap.size) (.int .u64 0) (.int .u64 0) hba ?_ ?_ ?_ ?_ ?_ ?_; (focus (first | (with_reducible assumption) | (simp [go_sem]; done))); (focus (first | (with_reducible assumption) | (simp [go_sem]; done))); (focus (first | (with_reducible assumption) | (simp [go_sem]; done))); (focus (first | (with_reducible assumption) | (simp [go_sem]; done))); (focus (first | (simp; done) | (simp; omega) | omega)); intro ae1 ae2 ae3 ae4 ae5))))
    all_goals (first
      | (refine gen_end _ (fun W => W.cell? ⟨wa.heap.size, 0, none⟩ = some (.int .u64 Yh) ∧ W.cell? ⟨wa.heap.size, 1, none⟩ = some (.int .u64 Yl) ∧ w2.heap.size ≤ wa.heap.size ∧ wa.heap.size < W.heap.size ∧ Below w2.heap.size w2 W) ?_ ?_; (focus (have h1 := sza.out; (try simp at h1); refine ⟨?_, ?_, ?_, ?_, ?_⟩; (focus (simp [go_sem, *]; done)); (focus (simp [go_sem, *]; done)); (focus omega); (focus (simp; try omega)); (focus ((repeat' (first | exact (Below.refl _ _) | (refine below_dr1 ?_) | (refine Below.setCell ?_ ?_ _) | (refine Below.alloc ?_ ?_ _) | (refine Below.trans ?_ (hba.mono ?_)))) <;> (first | (simp; done) | (simp; omega) | omega))))); (focus (intro Wn hW; generalize wa.heap.size = g at hW ⊢; exact K1.out g Wn hW)))
      | (refine gen_end _ (fun W => W.cell? ⟨w2.heap.size, 0, none⟩ = some (.int .u64 Yh) ∧ W.cell? ⟨w2.heap.size, 1, none⟩ = some (.int .u64 Yl) ∧ w2.heap.size ≤ w2.heap.size ∧ w2.heap.size < W.heap.size ∧ Below w2.heap.size w2 W) ?_ ?_; (focus (have h1 := sza.out; (try simp at h1); refine ⟨?_, ?_, ?_, ?_, ?_⟩; (focus (simp [go_sem, *]; done)); (focus (simp [go_sem, *]; done)); (focus omega); (focus (simp; try omega)); (focus ((repeat' (first | exact (Below.refl _ _) | (refine below_dr1 ?_) | (refine Below.setCell ?_ ?_ _) | (refine Below.alloc ?_ ?_ _) | (refine Below.trans ?_ (hba.mono ?_)))) <;> (first | (simp; done) | (simp; omega) | omega))))); (focus (intro Wn hW; exact K1.out _ Wn hW)))
      )
  case ky =>
  intro by' w3 hW
  obtain ⟨y0, y1, hby1, hby2, hB⟩ := hW
  have k0 := (hB.cell (p := ⟨w.heap.size, 0, none⟩) (show w.heap.size < w2.heap.size from by omega)).trans m0
  have k1 := (hB.cell (p := ⟨w.heap.size, 1, none⟩) (show w.heap.size < w2.heap.size from by omega)).trans m1'
  have k2 := (hB.cell (p := ⟨w.heap.size + 1, 0, none⟩) (show w.heap.size + 1 < w2.heap.size from by omega)).trans m2
  have k3 := (hB.cell (p := ⟨w.heap.size + 1, 1, none⟩) (show w.heap.size + 1 < w2.heap.size from by omega)).trans m3
  have x0 := (hB.cell (p := ⟨bx, 0, none⟩) hbx2).trans x0
  have x1 := (hB.cell (p := ⟨bx, 1, none⟩) hbx2).trans x1
  have HP3 := Lib.hid (HP2.out.below hB HP2.out.lt)
  have HB3 := Lib.hid (HB2.out.trans (hB.mono HB2.out.size))
  clear m0 m1' m2 m3 hB
  have T0 := At2.new w3 (.int .u64 0) (.int .u64 0) 71
  have HT0 := Lib.hid T0
  have hz3 : w.heap.size + 1 + 1 < w3.heap.size := HP3.out.lt
  have a1 := cell_alloc_kept (o := .cells #[.int .u64 0, .int .u64 0] 71) k1
  have a3 := cell_alloc_kept (o := .cells #[.int .u64 0, .int .u64 0] 71) k3
  have a2 := cell_alloc_kept (o := .cells #[.int .u64 0, .int .u64 0] 71) k2
  have a0 := cell_alloc_kept (o := .cells #[.int .u64 0, .int .u64 0] 71) k0
  have ax0 := cell_alloc_kept (o := .cells #[.int .u64 0, .int .u64 0] 71) x0
  have ax1 := cell_alloc_kept (o := .cells #[.int .u64 0, .int .u64 0] 71) x1
  have ay0 := cell_alloc_kept (o := .cells #[.int .u64 0, .int .u64 0] 71) y0
  have ay1 := cell_alloc_kept (o := .cells #[.int .u64 0, .int .u64 0] 71) y1
  have HP4 := Lib.hid (HP3.out.alloc (.cells #[.int .u64 0, .int .u64 0] 71))
  have HB4 := Lib.hid (HB3.out.alloc HB3.out.size (.cells #[.int .u64 0, .int .u64 0] 71))
  clear x0 x1 y0 y1 k1 k3 hbx1 hbx2 hby1 hby2 T0 hz1 hz2
  go_wp2_with fail
  refine (LS.out _).mono ?_; rintro e u0 ⟨rfl, hu0⟩
  have a1 := cell_kept hu0 a1
  have a3 := cell_kept hu0 a3
  have a2 := cell_kept hu0 a2
  have ax0 := cell_kept hu0 ax0
  have ax1 := cell_kept hu0 ax1
  have ay0 := cell_kept hu0 ay0
  have ay1 := cell_kept hu0 ay1
  have HT1 := Lib.hid (HT0.out.below hu0 HT0.out.lt)
  have HP5 := Lib.hid (HP4.out.below hu0 HP4.out.lt)
  have HB5 := Lib.hid (HB4.out.trans (hu0.mono HB4.out.size))
  clear hu0
  go_wp2_with fail
  refine (T1.out _).mono ?_; rintro e u1 ⟨rfl, hu1⟩
  have a1 := cell_kept hu1 a1
  have a3 := cell_kept hu1 a3
  have a2 := cell_kept hu1 a2
  have HT2 := Lib.hid (HT1.out.below hu1 HT1.out.lt)
  have HP6 := Lib.hid (HP5.out.below hu1 HP5.out.lt)
  have HB6 := Lib.hid (HB5.out.trans (hu1.mono HB5.out.size))
  clear hu1
  clear a0 ax0 ax1 ay0 ay1 k0 k2
  have HT := Lib.hid ((HT2.out.set0 (.int .u64 Th)).set1 (.int .u64 Tl))
  have HP := Lib.hid ((HP6.out.set_ne (show w3.heap.size ≠ w.heap.size + 1 + 1 from by omega) 0 (.int .u64 Th)).set_ne (show w3.heap.size ≠ w.heap.size + 1 + 1 from by omega) 1 (.int .u64 Tl))
  have HB := Lib.hid (show Below w.heap.size w ((u1.setCell ⟨w3.heap.size, 0, none⟩ (.int .u64 Th)).setCell ⟨w3.heap.size, 1, none⟩ (.int .u64 Tl)) from (HB6.out.setCell (by show w.heap.size ≤ w3.heap.size; omega) (.int .u64 Th)).setCell (by show w.heap.size ≤ w3.heap.size; omega) (.int .u64 Tl))
  have e1 : ((u1.setCell ⟨w3.heap.size, 0, none⟩ (.int .u64 Th)).setCell ⟨w3.heap.size, 1, none⟩ (.int .u64 Tl)).cell? ⟨w.heap.size, 1, none⟩ = some (.int .i64 d) := cell_set_kept (show w3.heap.size ≠ w.heap.size from by omega) (cell_set_kept (show w3.heap.size ≠ w.heap.size from by omega) a1)
  have e3 : ((u1.setCell ⟨w3.heap.size, 0, none⟩ (.int .u64 Th)).setCell ⟨w3.heap.size, 1, none⟩ (.int .u64 Tl)).cell? ⟨w.heap.size + 1, 1, none⟩ = some (.int .i64 q) := cell_set_kept (show w3.heap.size ≠ w.heap.size + 1 from by omega) (cell_set_kept (show w3.heap.size ≠ w.heap.size + 1 from by omega) a3)
  have HE1 := Lib.hid e1
  have HE3 := Lib.hid e3
  obtain ⟨t0, t1, t2, t3⟩ := HT2.out
  have hne1 : ¬ w3.heap.size = w.heap.size + 1 := by omega
  clear a1 a3 e1 e3
  go_wp2_with fail
  refine (SP1.out _).mono ?_; rintro e w7 ⟨rfl, b7⟩
  have T7 := (HT.out.below b7 HT.out.lt).alloc (.cells #[.int .u64 Q0h, .int .u64 Q0l] 71)
  have HT7 := Lib.hid T7
  have HP7 := Lib.hid ((HP.out.below b7 HP.out.lt).alloc (.cells #[.int .u64 Q0h, .int .u64 Q0l] 71))
  have HB7 := Lib.hid ((HB.out.trans (b7.mono HB.out.size)).alloc (Nat.le_trans HB.out.size b7.size) (.cells #[.int .u64 Q0h, .int .u64 Q0l] 71))
  have HE17 := Lib.hid (cell_alloc_kept (o := .cells #[.int .u64 Q0h, .int .u64 Q0l] 71) (cell_kept b7 HE1.out))
  have HE37 := Lib.hid (cell_alloc_kept (o := .cells #[.int .u64 Q0h, .int .u64 Q0l] 71) (cell_kept b7 HE3.out))
  obtain ⟨v0, v1, -, -⟩ := T7
  clear b7 t0 t1 t2 t3 a2
  go_wp2_with fail
  refine (GC2.out _).mono ?_; rintro e w' ⟨rfl, rfl⟩
  go_wp2_with fail
  refine (SP2.out _).mono ?_; rintro e w9 ⟨⟨r9, rfl⟩, b9⟩
  have HP9 := Lib.hid ((HP7.out.below b9 HP7.out.lt).alloc (.cells #[.int .u64 Qh, .int .u64 Ql] 71))
  have HB9 := Lib.hid ((HB7.out.trans (b9.mono HB7.out.size)).alloc (Nat.le_trans HB7.out.size b9.size) (.cells #[.int .u64 Qh, .int .u64 Ql] 71))
  have HE19 := Lib.hid (cell_alloc_kept (o := .cells #[.int .u64 Qh, .int .u64 Ql] 71) (cell_kept b9 HE17.out))
  have HE39 := Lib.hid (cell_alloc_kept (o := .cells #[.int .u64 Qh, .int .u64 Ql] 71) (cell_kept b9 HE37.out))
  clear b9 v0 v1
  go_wp2_with fail
  refine (SM1.out _).mono ?_; rintro e w10 ⟨rfl, b10⟩
  have l1 := cell_kept b10 HE19.out
  have l3 := cell_kept b10 HE39.out
  have HP10 := Lib.hid (HP9.out.below b10 HP9.out.lt)
  have HB10 := Lib.hid (HB9.out.trans (b10.mono HB9.out.size))
  clear b10
  go_wp2_with fail
  refine meet2 ?XZ (fun (b : Nat) W => Below w10.heap.size w10 W) ?hz ?kz
  case hz =>
    intro K2
    go_region_held3 (fun w' => w'.cell? ⟨w.heap.size, 1, none⟩ = some (.int .i64 d) ∧ w'.cell? ⟨w.heap.size + 1, 1, none⟩ = some (.int .i64 q)) (first | (go_split_ands; (refine ⟨?_, ?_⟩ <;> (with_reducible assumption))) | (go_split_ands; (refine ⟨?_, ?_⟩ <;> ((with_reducible apply cell_kept) <;> (with_reducible assumption)))) | (go_split_ands; (refine ⟨?_, ?_⟩ <;> ((with_reducible refine cell_alloc_kept ?_); (with_reducible assumption)))) | (go_split_ands; (refine ⟨?_, ?_⟩ <;> ((with_reducible refine cell_dr ?_); (with_reducible assumption)))) | (go_split_ands; (refine ⟨?_, ?_⟩ <;> ((with_reducible refine cell_alloc_dr ?_); (with_reducible assumption)))) | (go_split_ands; (refine ⟨?_, ?_⟩ <;> ((with_reducible refine cell_set_kept ?_ (cell_set_kept ?_ ?_)) <;> (first | (with_reducible assumption) | ((try have hq0 := sza.out); (try simp at hq0); (try dsimp only); omega))))) | (go_split_ands; (refine ⟨?_, ?_⟩ <;> ((with_reducible apply cell_alloc_other) <;> (first | (with_reducible assumption) | ((try have hq0 := sza.out); (try simp at hq0); (try dsimp only); omega)))))) (first | (go_at_call 49; (with_reducible refine (TM.out _).mono ?_); rintro e wa ⟨rfl, hba⟩; have sza := Lib.hid hba.size) | (go_at_call 48; (with_reducible refine (SM2.out _).mono ?_); rintro e wb ⟨rfl, hbb⟩))
    · refine gen_end _ (fun W => Below w10.heap.size w10 W) ?_ ?_
      · have h1 := sza.out; (try simp at h1)
        (repeat' (first | exact (Below.refl _ _) | (refine below_dr1 ?_) | (refine Below.setCell ?_ ?_ _) | (refine Below.alloc ?_ ?_ _) | (refine Below.trans ?_ (hbb.mono ?_)) | (refine Below.trans ?_ (hba.mono ?_)))) <;> (first | (simp; done) | (simp; omega) | omega)
      · intro Wn hW
        obtain ⟨g, -⟩ : ∃ g : Nat, True := ⟨0, trivial⟩
        exact K2.out g Wn hW
  case kz =>
  intro _ W11 hB11
  have HPZ := Lib.hid (HP10.out.below hB11 HP10.out.lt)
  have HBZ := Lib.hid (HB10.out.trans (hB11.mono HB10.out.size))
  have hzz : w.heap.size ≤ w.heap.size + 1 + 1 := by omega
  have HZZ := Lib.hid hzz
  clear l1 l3 hB11 hzz hz3 hne1
  have wn1 : IntKind.i64.wrap (-n1) = -n1 := IntWalk.i64_in _ (by omega)
  obtain ⟨rfl, rfl, rfl, hN, hD⟩ | ⟨hcc, rfl, rfl, rfl⟩ := HRES.out
  · by_cases hn0 : n1 = 0
    · subst hn0
      cases sn with
      | false =>
        obtain rfl : N = 0 := by rw [hN]; rfl
        obtain rfl : D = 1 := by rw [hD]; rfl
        clear hN hD
        have q0 := Lib.hid (HPZ.out.set0 (.int .i64 (0))).1
        have q1 := Lib.hid ((HPZ.out.set0 (.int .i64 (0))).set1 (.int .i64 (1))).2.1
        obtain ⟨z0, z1, z2, z3⟩ := HPZ.out
        go_wp2
        refine bodyPost_ret (v := .tuple #[.agg #[.int .i64 (0), .int .i64 (1)], .bool true]) (by simp [results, Try.results34, go_sem, q0.out, q1.out]) rfl ⟨rfl, ?_⟩
        exact (HBZ.out.setCell HZZ.out _).setCell HZZ.out _
      | true =>
        obtain rfl : N = 0 := by rw [hN]; rfl
        obtain rfl : D = 1 := by rw [hD]; rfl
        clear hN hD
        have q0 := Lib.hid (HPZ.out.set0 (.int .i64 (0))).1
        have q1 := Lib.hid ((HPZ.out.set0 (.int .i64 (0))).set1 (.int .i64 (1))).2.1
        obtain ⟨z0, z1, z2, z3⟩ := HPZ.out
        go_wp2
        refine bodyPost_ret (v := .tuple #[.agg #[.int .i64 (0), .int .i64 (1)], .bool true]) (by simp [results, Try.results34, go_sem, q0.out, q1.out]) rfl ⟨rfl, ?_⟩
        exact (HBZ.out.setCell HZZ.out _).setCell HZZ.out _
    · rw [if_neg hn0] at hD
      subst hD
      have hb1 : (n1 == 0) = false := beq_eq_false_iff_ne.2 hn0
      have hb2 : (-n1 == 0) = false := beq_eq_false_iff_ne.2 (by omega)
      have hb3 : ¬ -n1 = 0 := by omega
      cases sn with
      | false =>
        obtain rfl : N = n1 := by rw [hN]; rfl
        clear hN
        have q0 := Lib.hid (HPZ.out.set0 (.int .i64 (N))).1
        have q1 := Lib.hid ((HPZ.out.set0 (.int .i64 (N))).set1 (.int .i64 (D))).2.1
        obtain ⟨z0, z1, z2, z3⟩ := HPZ.out
        go_wp2
        refine bodyPost_ret (v := .tuple #[.agg #[.int .i64 (N), .int .i64 (D)], .bool true]) (by simp [results, Try.results34, go_sem, q0.out, q1.out]) rfl ⟨rfl, ?_⟩
        exact (HBZ.out.setCell HZZ.out _).setCell HZZ.out _
      | true =>
        obtain rfl : N = -n1 := by rw [hN]; rfl
        clear hN
        have q0 := Lib.hid (HPZ.out.set0 (.int .i64 (-n1))).1
        have q1 := Lib.hid ((HPZ.out.set0 (.int .i64 (-n1))).set1 (.int .i64 (D))).2.1
        obtain ⟨z0, z1, z2, z3⟩ := HPZ.out
        go_wp2
        refine bodyPost_ret (v := .tuple #[.agg #[.int .i64 (-n1), .int .i64 (D)], .bool true]) (by simp [results, Try.results34, go_sem, q0.out, q1.out]) rfl ⟨rfl, ?_⟩
        exact (HBZ.out.setCell HZZ.out _).setCell HZZ.out _
  · cases one with
    | false =>
      have q0 := Lib.hid (HPZ.out.set0 (.int .i64 (0))).1
      have q1 := Lib.hid ((HPZ.out.set0 (.int .i64 (0))).set1 (.int .i64 (0))).2.1
      obtain ⟨z0, z1, z2, z3⟩ := HPZ.out
      go_wp2
      refine bodyPost_ret (v := .tuple #[.agg #[.int .i64 (0), .int .i64 (0)], .bool false]) (by simp [results, Try.results34, go_sem, q0.out, q1.out]) rfl ⟨rfl, ?_⟩
      exact (HBZ.out.setCell HZZ.out _).setCell HZZ.out _
    | true =>
      obtain rfl := hcc.resolve_left (by simp)
      have q0 := Lib.hid (HPZ.out.set0 (.int .i64 (0))).1
      have q1 := Lib.hid ((HPZ.out.set0 (.int .i64 (0))).set1 (.int .i64 (0))).2.1
      obtain ⟨z0, z1, z2, z3⟩ := HPZ.out
      go_wp2
      refine bodyPost_ret (v := .tuple #[.agg #[.int .i64 (0), .int .i64 (0)], .bool false]) (by simp [results, Try.results34, go_sem, q0.out, q1.out]) rfl ⟨rfl, ?_⟩
      exact (HBZ.out.setCell HZZ.out _).setCell HZZ.out _
end Go.Proofs.Ytomdoamfdidghaa
