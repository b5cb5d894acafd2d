/- The sum of two fractions, on the side of the program. -/
import Derived.Test.YtomdoamfdidghaaHeldAid
import Derived.Test.YtomdoamfdidghaaWideSpec
import Derived.Test.YtomdoamfdidghaaOver
import Derived.Test.YtomdoamfdidghaaAddMath
namespace Go.Proofs.Ytomdoamfdidghaa
open Go.RowKit
set_option linter.unusedVariables false
set_option maxHeartbeats 2000000 in
set_option maxRecDepth 100000 in
theorem implAddX (n d p q C G F S R R1 R2 N D : Int) (Ah Al Bh Bl Th Tl Xh Xl : Int) (sg c1 c2 c : Bool) (w : World) (hf : fracB n d = true) (hg : fracB p q = true) (hC : 1 ≤ C) (hG : q.tdiv C = G) (hF : d.tdiv C = F) (hG1 : 0 ≤ G ∧ G ≤ 1000000000000000000) (hF1 : 0 ≤ F ∧ F ≤ 1000000000000000000)
    (hres : (c1 = true ∧ c2 = true ∧ c = true ∧ N = R1 ∧ D = R2) ∨ ((c1 = false ∨ c2 = false) ∧ c = false ∧ N = 0 ∧ D = 0))
    (GC1 : Hid (∀ w, Calls Try.prog 35 #[.int .i64 d, .int .i64 q] w fun e w' => e = .returned (.int .i64 C) ∧ ∃ q, w' = w.drewN q))
    (P1 : Hid (∀ w, Calls Try.prog 36 #[.int .i64 n, .int .i64 G] w fun e w' => e = .returned (.agg #[.bool (ngB n), .int .u64 Ah, .int .u64 Al]) ∧ Below w.heap.size w w'))
    (P2 : Hid (∀ w, Calls Try.prog 36 #[.int .i64 p, .int .i64 F] w fun e w' => e = .returned (.agg #[.bool (ngB p), .int .u64 Bh, .int .u64 Bl]) ∧ Below w.heap.size w w'))
    (PL : Hid (∀ w, Calls Try.prog 37 #[.agg #[.bool (ngB n), .int .u64 Ah, .int .u64 Al], .agg #[.bool (ngB p), .int .u64 Bh, .int .u64 Bl]] w fun e w' => e = .returned (.agg #[.bool sg, .int .u64 Th, .int .u64 Tl]) ∧ Below w.heap.size w w'))
    (RS : Hid (∀ w, Calls Try.prog 38 #[.agg #[.bool sg, .int .u64 Th, .int .u64 Tl], .int .i64 C] w fun e w' => e = .returned (.int .i64 R) ∧ Below w.heap.size w w'))
    (GC2 : Hid (∀ w, Calls Try.prog 35 #[.int .i64 R, .int .i64 C] w fun e w' => e = .returned (.int .i64 S) ∧ ∃ q, w' = w.drewN q))
    (O1 : Hid (∀ w, Calls Try.prog 39 #[.agg #[.bool sg, .int .u64 Th, .int .u64 Tl], .int .i64 S] w fun e w' => e = .returned (.tuple #[.int .i64 R1, .bool c1]) ∧ Below w.heap.size w w'))
    (P3 : Hid (∀ w, Calls Try.prog 36 #[.int .i64 F, .int .i64 q] w fun e w' => e = .returned (.agg #[.bool false, .int .u64 Xh, .int .u64 Xl]) ∧ Below w.heap.size w w'))
    (O2 : Hid (∀ w, Calls Try.prog 39 #[.agg #[.bool false, .int .u64 Xh, .int .u64 Xl], .int .i64 S] w fun e w' => e = .returned (.tuple #[.int .i64 R2, .bool c2]) ∧ Below w.heap.size w w')) :
    Calls Try.prog 14 #[.agg #[.int .i64 n, .int .i64 d], .agg #[.int .i64 p, .int .i64 q]] w fun e w' => e = .returned (.tuple #[.agg #[.int .i64 N, .int .i64 D], .bool c]) ∧ Below w.heap.size w w' := by
  have hnew := At2.new ((w.alloc (.cells #[.int .i64 n, .int .i64 d] 24)).alloc (.cells #[.int .i64 p, .int .i64 q] 24)) (.int .i64 0) (.int .i64 0) 24
  have HNEW := Lib.hid hnew
  have HRES := Lib.hid hres
  have HF := Lib.hid hf
  have HG := Lib.hid hg
  clear hf hg hnew hres
  have wG : IntKind.i64.wrap (q.tdiv C) = G := by rw [hG]; exact IntWalk.i64_in _ (by omega)
  have wF : IntKind.i64.wrap (d.tdiv C) = F := by rw [hF]; exact IntWalk.i64_in _ (by omega)
  have wG2 : IntKind.i64.wrap G = G := IntWalk.i64_in _ (by omega)
  have wF2 : IntKind.i64.wrap F = F := IntWalk.i64_in _ (by omega)
  have c0 : (C == 0) = false := beq_eq_false_iff_ne.2 (by omega)
  have c0' : ¬ C = 0 := by omega
  have hbA := Lib.hid ((((Below.refl w.heap.size w).alloc (Nat.le_refl _) (.cells #[.int .i64 n, .int .i64 d] 24)).alloc (by simp) (.cells #[.int .i64 p, .int .i64 q] 24)).alloc (by simp; omega) (.cells #[.int .i64 0, .int .i64 0] 24))
  go_enter Try.func14, Try.ntmps14
  go_wp2_with fail
  refine (implValid n d _).mono ?_; rw [HF.out]; rintro e w1 ⟨rfl, hb1⟩
  have j0 := cell_kept hb1 (a := ⟨w.heap.size, 0, none⟩) (v := .int .i64 n) (by simp [go_sem])
  have j1 := cell_kept hb1 (a := ⟨w.heap.size, 1, none⟩) (v := .int .i64 d) (by simp [go_sem])
  have j2 := cell_kept hb1 (a := ⟨w.heap.size + 1, 0, none⟩) (v := .int .i64 p) (by simp [go_sem])
  have j3 := cell_kept hb1 (a := ⟨w.heap.size + 1, 1, none⟩) (v := .int .i64 q) (by simp [go_sem])
  have HB1 := Lib.hid (hbA.out.trans (hb1.mono (by simp; omega)))
  have hp1 := HNEW.out.below hb1 (by simp)
  simp only [World.size_alloc] at hp1
  have HP1 := Lib.hid hp1
  have hz1 := hb1.size
  simp at hz1
  have HZ1 := Lib.hid hz1
  clear hb1 hz1 hp1
  go_wp2_with fail
  refine (implValid p q _).mono ?_; rw [HG.out]; rintro e w2 ⟨rfl, hb2⟩
  have k0 := cell_kept hb2 j0
  have k1 := cell_kept hb2 j1
  have k2 := cell_kept hb2 j2
  have k3 := cell_kept hb2 j3
  have HB2 := Lib.hid (HB1.out.trans (hb2.mono HB1.out.size))
  have HP2 := Lib.hid (HP1.out.below hb2 HP1.out.lt)
  have HZ2 := Lib.hid (Nat.le_trans HZ1.out hb2.size)
  clear hb2 j0 j1 j2 j3
  go_wp2_with fail
  refine (GC1.out _).mono ?_; rintro e w' ⟨rfl, q1, rfl⟩
  obtain ⟨w3, hw3⟩ : ∃ w3, w2.drewN q1 = w3 := ⟨_, rfl⟩
  have k0 : w3.cell? ⟨w.heap.size, 0, none⟩ = some (.int .i64 n) := by rw [← hw3]; exact k0
  have k1 : w3.cell? ⟨w.heap.size, 1, none⟩ = some (.int .i64 d) := by rw [← hw3]; exact k1
  have k2 : w3.cell? ⟨w.heap.size + 1, 0, none⟩ = some (.int .i64 p) := by rw [← hw3]; exact k2
  have k3 : w3.cell? ⟨w.heap.size + 1, 1, none⟩ = some (.int .i64 q) := by rw [← hw3]; exact k3
  have HP3 := Lib.hid (show At2 w3 (w.heap.size + 1 + 1) (.int .i64 0) (.int .i64 0) by rw [← hw3]; exact HP2.out.drewN q1)
  have HB3 := Lib.hid (show Below w.heap.size w w3 by rw [← hw3]; exact bdw HB2.out q1)
  have hz3 : w.heap.size + 1 + 1 < w3.heap.size := by rw [← hw3]; have := HZ2.out; show _ < w2.heap.size; omega
  rw [hw3]
  clear hw3
  go_wp2_with fail
  refine meet2 ?X (fun b W => W.cell? ⟨b, 0, none⟩ = some (.bool sg) ∧ W.cell? ⟨b, 1, none⟩ = some (.int .u64 Th) ∧ W.cell? ⟨b, 2, none⟩ = some (.int .u64 Tl) ∧ w3.heap.size ≤ b ∧ b < W.heap.size ∧ Below w3.heap.size w3 W) ?h1 ?h2
  case h1 =>
    intro K1
    go_region_held3 (fun w' => w'.cell? ⟨w.heap.size, 0, none⟩ = some (.int .i64 n) ∧ w'.cell? ⟨w.heap.size, 1, none⟩ = some (.int .i64 d) ∧ w'.cell? ⟨w.heap.size + 1, 0, none⟩ = some (.int .i64 p) ∧ w'.cell? ⟨w.heap.size + 1, 1, none⟩ = some (.int .i64 q)) (first | (go_split_ands; (refine ⟨?_, ?_, ?_, ?_⟩ <;> (with_reducible assumption))) | (go_split_ands; (refine ⟨?_, ?_, ?_, ?_⟩ <;> ((with_reducible apply cell_kept) <;> (with_reducible assumption)))) | (go_split_ands; (refine ⟨?_, ?_, ?_, ?_⟩ <;> ((with_reducible refine cell_alloc_kept ?_); (with_reducible assumption)))) | (go_split_ands; (refine ⟨?_, ?_, ?_, ?_⟩ <;> ((with_reducible refine cell_dr ?_); (with_reducible assumption)))) | (go_split_ands; (refine ⟨?_, ?_, ?_, ?_⟩ <;> ((with_reducible refine cell_alloc_dr ?_); (with_reducible assumption)))) | (go_split_ands; (refine ⟨?_, ?_, ?_, ?_⟩ <;> ((with_reducible refine cell_set_kept ?_ (cell_set_kept ?_ (cell_set_kept ?_ ?_))) <;> (first | (with_reducible assumption) | ((try have hq0 := sza.out); (try simp at hq0); (try have hq1 := szb.out); (try simp at hq1); (try have hq2 := szc.out); (try simp at hq2); (try dsimp only); omega))))) | (go_split_ands; (refine ⟨?_, ?_, ?_, ?_⟩ <;> ((with_reducible apply cell_alloc_other) <;> (first | (with_reducible assumption) | ((try have hq0 := sza.out); (try simp at hq0); (try have hq1 := szb.out); (try simp at hq1); (try have hq2 := szc.out); (try simp at hq2); (try dsimp only); omega)))))) (first | (go_at_call 36; first | ((with_reducible refine (P1.out _).mono ?_); rintro e wa ⟨rfl, hba⟩; have sza := Lib.hid hba.size; (try (first | (refine fresh3 (w3.heap.size) (.bool false) (.int .u64 0) (.int .u64 0) hba ?_ ?_ ?_ ?_ ?_ ?_ ?_ ?_; (focus (first | (with_reducible assumption) | (simp [go_sem]; done))); (focus (first | (with_reducible assumption) | (simp [go_sem]; done))); (focus (first | (with_reducible assumption) | (simp [go_sem]; done))); (focus (first | (with_reducible assumption) | (simp [go_sem]; done))); (focus (first | (with_reducible assumption) | (simp [go_sem]; done))); (focus (first | (with_reducible assumption) | (simp [go_sem]; done))); (focus (first | (simp; done) | (simp; omega) | omega)); intro ae1 ae2 ae3 ae4 ae5 ae6 ae7) | (refine fresh3 (wb.heap.size) (.bool false) (.int .u64 0) (.int .u64 0) hba ?_ ?_ ?_ ?_ ?_ ?_ ?_ ?_; (focus (first | (with_reducible assumption) | (simp [go_sem]; done))); (focus (first | (with_reducible assumption) | (simp [go_sem]; done))); (focus (first | (with_reducible assumption) | (simp [go_sem]; done))); (focus (first | (with_reducible assumption) | (simp [go_sem]; done))); (focus (first | (with_reducible assumption) | (simp [go_sem]; done))); (focus (first | (with_reducible assumption) | (simp [go_sem]; done))); (focus (first | (simp; done) | (simp; omega) | omega)); intro ae1 ae2 ae3 ae4 ae5 ae6 ae7)))) | ((with_reducible refine (P2.out _).mono ?_); rintro e wb ⟨rfl, hbb⟩; have szb := Lib.hid hbb.size; (try (first | (refine fresh3 (w3.heap.size) (.bool false) (.int .u64 0) (.int .u64 0) hbb ?_ ?_ ?_ ?_ ?_ ?_ ?_ ?_; (focus (first | (with_reducible assumption) | (simp [go_sem]; done))); (focus (first | (with_reducible assumption) | (simp [go_sem]; done))); (focus (first | (with_reducible assumption) | (simp [go_sem]; done))); (focus (first | (with_reducible assumption) | (simp [go_sem]; done))); (focus (first | (with_reducible assumption) | (simp [go_sem]; done))); (focus (first | (with_reducible assumption) | (simp [go_sem]; done))); (focus (first | (simp; done) | (simp; omega) | omega)); intro be1 be2 be3 be4 be5 be6 be7) | (refine fresh3 (wa.heap.size) (.bool false) (.int .u64 0) (.int .u64 0) hbb ?_ ?_ ?_ ?_ ?_ ?_ ?_ ?_; (focus (first | (with_reducible assumption) | (simp [go_sem]; done))); (focus (first | (with_reducible assumption) | (simp [go_sem]; done))); (focus (first | (with_reducible assumption) | (simp [go_sem]; done))); (focus (first | (with_reducible assumption) | (simp [go_sem]; done))); (focus (first | (with_reducible assumption) | (simp [go_sem]; done))); (focus (first | (with_reducible assumption) | (simp [go_sem]; done))); (focus (first | (simp; done) | (simp; omega) | omega)); intro be1 be2 be3 be4 be5 be6 be7))))) | (go_at_call 37; refine (PL.out _).mono ?_; rintro e wc ⟨rfl, hbc⟩; have szc := Lib.hid hbc.size; (try (first | (refine fresh3 (w3.heap.size) (.bool false) (.int .u64 0) (.int .u64 0) hbc ?_ ?_ ?_ ?_ ?_ ?_ ?_ ?_; (focus (first | (with_reducible assumption) | (simp [go_sem]; done))); (focus (first | (with_reducible assumption) | (simp [go_sem]; done))); (focus (first | (with_reducible assumption) | (simp [go_sem]; done))); (focus (first | (with_reducible assumption) | (simp [go_sem]; done))); (focus (first | (with_reducible assumption) | (simp [go_sem]; done))); (focus (first | (with_reducible assumption) | (simp [go_sem]; done))); (focus (first | (simp; done) | (simp; omega) | omega)); intro ce1 ce2 ce3 ce4 ce5 ce6 ce7) | (refine fresh3 (wa.heap.size) (.bool false) (.int .u64 0) (.int .u64 0) hbc ?_ ?_ ?_ ?_ ?_ ?_ ?_ ?_; (focus (first | (with_reducible assumption) | (simp [go_sem]; done))); (focus (first | (with_reducible assumption) | (simp [go_sem]; done))); (focus (first | (with_reducible assumption) | (simp [go_sem]; done))); (focus (first | (with_reducible assumption) | (simp [go_sem]; done))); (focus (first | (with_reducible assumption) | (simp [go_sem]; done))); (focus (first | (with_reducible assumption) | (simp [go_sem]; done))); (focus (first | (simp; done) | (simp; omega) | omega)); intro ce1 ce2 ce3 ce4 ce5 ce6 ce7) | (refine fresh3 (wb.heap.size) (.bool false) (.int .u64 0) (.int .u64 0) hbc ?_ ?_ ?_ ?_ ?_ ?_ ?_ ?_; (focus (first | (with_reducible assumption) | (simp [go_sem]; done))); (focus (first | (with_reducible assumption) | (simp [go_sem]; done))); (focus (first | (with_reducible assumption) | (simp [go_sem]; done))); (focus (first | (with_reducible assumption) | (simp [go_sem]; done))); (focus (first | (with_reducible assumption) | (simp [go_sem]; done))); (focus (first | (with_reducible assumption) | (simp [go_sem]; done))); (focus (first | (simp; done) | (simp; omega) | omega)); intro ce1 ce2 ce3 ce4 ce5 ce6 ce7)))))
    · refine gen_end _ (fun W => W.cell? ⟨wc.heap.size, 0, none⟩ = some (.bool sg) ∧ W.cell? ⟨wc.heap.size, 1, none⟩ = some (.int .u64 Th) ∧ W.cell? ⟨wc.heap.size, 2, none⟩ = some (.int .u64 Tl) ∧ w3.heap.size ≤ wc.heap.size ∧ wc.heap.size < W.heap.size ∧ Below w3.heap.size w3 W) ?_ ?_
      · have h1 := sza.out; have h2 := szb.out; have h3 := szc.out; (try simp at h1); (try simp at h2); (try simp at h3)
        refine ⟨?_, ?_, ?_, ?_, ?_, ?_⟩
        · simp [go_sem, *]
        · simp [go_sem, *]
        · simp [go_sem, *]
        · omega
        · simp; try omega
        · (repeat' (first | exact (Below.refl _ _) | (refine below_dr1 ?_) | (refine Below.setCell ?_ ?_ _) | (refine Below.alloc ?_ ?_ _) | (refine Below.trans ?_ (hbc.mono ?_)) | (refine Below.trans ?_ (hbb.mono ?_)) | (refine Below.trans ?_ (hba.mono ?_)))) <;> (first | (simp; done) | (simp; omega) | omega)
      · intro Wn hW
        generalize wc.heap.size = g at hW ⊢
        exact K1.out g Wn hW
    · refine gen_end _ (fun W => W.cell? ⟨wb.heap.size, 0, none⟩ = some (.bool sg) ∧ W.cell? ⟨wb.heap.size, 1, none⟩ = some (.int .u64 Th) ∧ W.cell? ⟨wb.heap.size, 2, none⟩ = some (.int .u64 Tl) ∧ w3.heap.size ≤ wb.heap.size ∧ wb.heap.size < W.heap.size ∧ Below w3.heap.size w3 W) ?_ ?_
      · have h1 := sza.out; have h2 := szb.out; have h3 := szc.out; (try simp at h1); (try simp at h2); (try simp at h3)
        refine ⟨?_, ?_, ?_, ?_, ?_, ?_⟩
        · simp [go_sem, *]
        · simp [go_sem, *]
        · simp [go_sem, *]
        · omega
        · simp; try omega
        · (repeat' (first | exact (Below.refl _ _) | (refine below_dr1 ?_) | (refine Below.setCell ?_ ?_ _) | (refine Below.alloc ?_ ?_ _) | (refine Below.trans ?_ (hbc.mono ?_)) | (refine Below.trans ?_ (hbb.mono ?_)) | (refine Below.trans ?_ (hba.mono ?_)))) <;> (first | (simp; done) | (simp; omega) | omega)
      · intro Wn hW
        generalize wb.heap.size = g at hW ⊢
        exact K1.out g Wn hW
    · refine gen_end _ (fun W => W.cell? ⟨wa.heap.size, 0, none⟩ = some (.bool sg) ∧ W.cell? ⟨wa.heap.size, 1, none⟩ = some (.int .u64 Th) ∧ W.cell? ⟨wa.heap.size, 2, none⟩ = some (.int .u64 Tl) ∧ w3.heap.size ≤ wa.heap.size ∧ wa.heap.size < W.heap.size ∧ Below w3.heap.size w3 W) ?_ ?_
      · have h1 := sza.out; have h2 := szb.out; have h3 := szc.out; (try simp at h1); (try simp at h2); (try simp at h3)
        refine ⟨?_, ?_, ?_, ?_, ?_, ?_⟩
        · simp [go_sem, *]
        · simp [go_sem, *]
        · simp [go_sem, *]
        · omega
        · simp; try omega
        · (repeat' (first | exact (Below.refl _ _) | (refine below_dr1 ?_) | (refine Below.setCell ?_ ?_ _) | (refine Below.alloc ?_ ?_ _) | (refine Below.trans ?_ (hbc.mono ?_)) | (refine Below.trans ?_ (hbb.mono ?_)) | (refine Below.trans ?_ (hba.mono ?_)))) <;> (first | (simp; done) | (simp; omega) | omega)
      · intro Wn hW
        generalize wa.heap.size = g at hW ⊢
        exact K1.out g Wn hW
    · refine gen_end _ (fun W => W.cell? ⟨w3.heap.size, 0, none⟩ = some (.bool sg) ∧ W.cell? ⟨w3.heap.size, 1, none⟩ = some (.int .u64 Th) ∧ W.cell? ⟨w3.heap.size, 2, none⟩ = some (.int .u64 Tl) ∧ w3.heap.size ≤ w3.heap.size ∧ w3.heap.size < W.heap.size ∧ Below w3.heap.size w3 W) ?_ ?_
      · have h1 := sza.out; have h2 := szb.out; have h3 := szc.out; (try simp at h1); (try simp at h2); (try simp at h3)
        refine ⟨?_, ?_, ?_, ?_, ?_, ?_⟩
        · simp [go_sem, *]
        · simp [go_sem, *]
        · simp [go_sem, *]
        · omega
        · simp; try omega
        · (repeat' (first | exact (Below.refl _ _) | (refine below_dr1 ?_) | (refine Below.setCell ?_ ?_ _) | (refine Below.alloc ?_ ?_ _) | (refine Below.trans ?_ (hbc.mono ?_)) | (refine Below.trans ?_ (hbb.mono ?_)) | (refine Below.trans ?_ (hba.mono ?_)))) <;> (first | (simp; done) | (simp; omega) | omega)
      · intro Wn hW
        skip
        exact K1.out _ Wn hW
  case h2 =>
    intro b W hW
    obtain ⟨x0, x1, x2, hb1, hb2, hB⟩ := hW
    have l1 := (hB.cell (p := ⟨w.heap.size, 1, none⟩) (show w.heap.size < w3.heap.size from by omega)).trans k1
    have l3 := (hB.cell (p := ⟨w.heap.size + 1, 1, none⟩) (show w.heap.size + 1 < w3.heap.size from by omega)).trans k3
    have HP4 := Lib.hid (HP3.out.below hB (by omega))
    have HB4 := Lib.hid (HB3.out.trans (hB.mono HB3.out.size))
    have hzW := hB.size
    clear k0 k1 k2 k3 hB
    go_wp2_with fail
    refine (RS.out _).mono ?_; rintro e w4 ⟨rfl, b4⟩
    have x0 := cell_kept b4 x0
    have x1 := cell_kept b4 x1
    have x2 := cell_kept b4 x2
    have l1 := cell_kept b4 l1
    have l3 := cell_kept b4 l3
    have HP5 := Lib.hid (HP4.out.below b4 HP4.out.lt)
    have HB5 := Lib.hid (HB4.out.trans (b4.mono HB4.out.size))
    have hz4 := b4.size
    clear b4
    go_wp2_with fail
    refine (GC2.out _).mono ?_; rintro e w' ⟨rfl, q2, rfl⟩
    obtain ⟨w5, hw5⟩ : ∃ w5, w4.drewN q2 = w5 := ⟨_, rfl⟩
    have x0 : w5.cell? ⟨b, 0, none⟩ = some (.bool sg) := by rw [← hw5]; exact x0
    have x1 : w5.cell? ⟨b, 1, none⟩ = some (.int .u64 Th) := by rw [← hw5]; exact x1
    have x2 : w5.cell? ⟨b, 2, none⟩ = some (.int .u64 Tl) := by rw [← hw5]; exact x2
    have l1 : w5.cell? ⟨w.heap.size, 1, none⟩ = some (.int .i64 d) := by rw [← hw5]; exact l1
    have l3 : w5.cell? ⟨w.heap.size + 1, 1, none⟩ = some (.int .i64 q) := by rw [← hw5]; exact l3
    have HP6 := Lib.hid (show At2 w5 (w.heap.size + 1 + 1) (.int .i64 0) (.int .i64 0) by rw [← hw5]; exact HP5.out.drewN q2)
    have HB6 := Lib.hid (show Below w.heap.size w w5 by rw [← hw5]; exact bdw HB5.out q2)
    rw [hw5]
    clear hw5 hb1 hb2 hzW hz4
    go_wp2_with fail
    refine (O1.out _).mono ?_; rintro e w6 ⟨rfl, b6⟩
    have l1 := cell_kept b6 l1
    have l3 := cell_kept b6 l3
    have HP7 := Lib.hid (HP6.out.below b6 HP6.out.lt)
    have HB7 := Lib.hid (HB6.out.trans (b6.mono HB6.out.size))
    clear b6 x0 x1 x2
    go_wp2_with fail
    refine meet2 ?X2 (fun (b : Nat) W => Below w6.heap.size w6 W) ?g1 ?g2
    case g1 =>
      intro K2
      go_region_held3 (fun w' => w'.cell? ⟨w.heap.size, 1, none⟩ = some (.int .i64 d) ∧ w'.cell? ⟨w.heap.size + 1, 1, none⟩ = some (.int .i64 q)) (first | (go_split_ands; (refine ⟨?_, ?_⟩ <;> (with_reducible assumption))) | (go_split_ands; (refine ⟨?_, ?_⟩ <;> ((with_reducible apply cell_kept) <;> (with_reducible assumption)))) | (go_split_ands; (refine ⟨?_, ?_⟩ <;> ((with_reducible refine cell_alloc_kept ?_); (with_reducible assumption)))) | (go_split_ands; (refine ⟨?_, ?_⟩ <;> ((with_reducible refine cell_dr ?_); (with_reducible assumption)))) | (go_split_ands; (refine ⟨?_, ?_⟩ <;> ((with_reducible refine cell_alloc_dr ?_); (with_reducible assumption)))) | (go_split_ands; (refine ⟨?_, ?_⟩ <;> ((with_reducible refine cell_set_kept ?_ (cell_set_kept ?_ (cell_set_kept ?_ ?_))) <;> (first | (with_reducible assumption) | ((try have hq0 := sza.out); (try simp at hq0); (try have hq1 := szb.out); (try simp at hq1); (try have hq2 := szc.out); (try simp at hq2); (try dsimp only); omega))))) | (go_split_ands; (refine ⟨?_, ?_⟩ <;> ((with_reducible apply cell_alloc_other) <;> (first | (with_reducible assumption) | ((try have hq0 := sza.out); (try simp at hq0); (try have hq1 := szb.out); (try simp at hq1); (try have hq2 := szc.out); (try simp at hq2); (try dsimp only); omega)))))) (first | (go_at_call 36; (with_reducible refine (P3.out _).mono ?_); rintro e wa ⟨rfl, hba⟩; have sza := Lib.hid hba.size) | (go_at_call 39; (with_reducible refine (O2.out _).mono ?_); rintro e wb ⟨rfl, hbb⟩; have szb := Lib.hid hbb.size))
      · refine gen_end _ (fun W => Below w6.heap.size w6 W) ?_ ?_
        · have h1 := sza.out; (try simp at h1)
          (repeat' (first | exact (Below.refl _ _) | (refine below_dr1 ?_) | (refine Below.trans ?_ (hbb.mono ?_)) | (refine Below.trans ?_ (hba.mono ?_)))) <;> (first | (simp; done) | (simp; omega) | omega)
        · intro Wn hW
          obtain ⟨g, -⟩ : ∃ g : Nat, True := ⟨0, trivial⟩
          exact K2.out g Wn hW
    case g2 =>
      intro _ W8 hB8
      have HP8 := HP7.out.below hB8 HP7.out.lt
      have HB8 := Lib.hid (HB7.out.trans (hB8.mono HB7.out.size))
      have q0 := Lib.hid (HP8.set0 (.int .i64 N)).1
      have q1 := Lib.hid ((HP8.set0 (.int .i64 N)).set1 (.int .i64 D)).2.1
      obtain ⟨e0, e1, e2, e3⟩ := HP8
      clear l1 l3 hB8
      obtain ⟨rfl, rfl, rfl, rfl, rfl⟩ | ⟨hcc, rfl, rfl, rfl⟩ := HRES.out
      · go_wp2
        refine bodyPost_ret (v := .tuple #[.agg #[.int .i64 N, .int .i64 D], .bool true]) (by simp [results, Try.results14, go_sem, q0.out, q1.out]) rfl ⟨rfl, ?_⟩
        exact (HB8.out.setCell (show w.heap.size ≤ w.heap.size + 1 + 1 from by omega) _).setCell (show w.heap.size ≤ w.heap.size + 1 + 1 from by omega) _
      · cases c1 with
        | false =>
          go_wp2
          refine bodyPost_ret (v := .tuple #[.agg #[.int .i64 0, .int .i64 0], .bool false]) (by simp [results, Try.results14, go_sem, q0.out, q1.out]) rfl ⟨rfl, ?_⟩
          exact (HB8.out.setCell (show w.heap.size ≤ w.heap.size + 1 + 1 from by omega) _).setCell (show w.heap.size ≤ w.heap.size + 1 + 1 from by omega) _
        | true =>
          obtain rfl := hcc.resolve_left (by simp)
          go_wp2
          refine bodyPost_ret (v := .tuple #[.agg #[.int .i64 0, .int .i64 0], .bool false]) (by simp [results, Try.results14, go_sem, q0.out, q1.out]) rfl ⟨rfl, ?_⟩
          exact (HB8.out.setCell (show w.heap.size ≤ w.heap.size + 1 + 1 from by omega) _).setCell (show w.heap.size ≤ w.heap.size + 1 + 1 from by omega) _
end Go.Proofs.Ytomdoamfdidghaa
