/- The clock of the meetings of two clocks. -/
import Derived.Test.YtafecdmcbpnniaaFm1
import Derived.Test.YtafecdmcbpnniaaKept
import Derived.Deep.RegionHeld3
namespace Go.Proofs.Ytafecdmcbpnniaa
open Go.RowKit
set_option linter.unusedVariables false
theorem gen_endF {K : Act → World → Prop} {Q : Exit → Act → World → Prop} {E : Exit} {A : Act} (W0 : World) (F : World → Prop) (h0 : F W0) (k : ∀ W, F W → Exit.then K Q E A W) : Exit.then K Q E A W0 := k W0 h0
theorem meetF {G : Prop} (X : Nat → World → Prop) (F : Nat → World → Prop) (h1 : Hid (∀ b W, F b W → X b W) → G) (h2 : ∀ b W, F b W → X b W) : G := h1 (Lib.hid h2)
theorem below_drF {B : Nat} {a w : World} (h : Below B a w) : Below B a w.drew := ⟨h.os, h.tape, h.output, h.size, h.block⟩
theorem cell_alloc_drK {W : World} {a : Addr} {v : Value} {o : Obj} (h : W.cell? a = some v) : (W.alloc o).drew.cell? a = some v := cell_alloc_kept h
theorem cell_alloc_otherF {W : World} {a : Addr} {v : Value} {o o' : Obj} (h : (W.alloc o').cell? a = some v) (hlt : a.block < W.heap.size) : (W.alloc o).cell? a = some v := by
  have e : W.cell? a = some v := (((Below.refl W.heap.size W).alloc (Nat.le_refl _) o').cell (p := a) hlt).symm.trans h
  exact cell_alloc_kept e
theorem tmod_zero (x g : Int) (hg : 0 < g) : x.tmod g = 0 ↔ x % g = 0 := by
  exact ⟨fun h => Int.emod_eq_zero_of_dvd (Int.dvd_of_tmod_eq_zero h), fun h => Int.tmod_eq_zero_of_dvd (Int.dvd_of_emod_eq_zero h)⟩
theorem tdiv_exact (x g : Int) (hg : 0 < g) (h : x % g = 0) : x.tdiv g = x / g := by
  obtain ⟨z, hz⟩ := (emod_zero_iff x g (by omega)).1 h
  rw [hz, Int.mul_tdiv_cancel _ (by omega), Int.mul_ediv_cancel _ (by omega)]
/-- no meeting -/
theorem meetings_f (P O p o : Int) (w : World) (hP : 1 ≤ P) (hP2 : P ≤ 1000000000001) (hO : 0 ≤ O) (hO2 : O ≤ 1000000000000) (hp : 1 ≤ p) (hp2 : p ≤ 100000) (ho : 0 ≤ o) (ho2 : o ≤ 100000) (hd : ¬ (o - O) % (Int.gcd P p : Int) = 0) :
    Calls Try.prog 64 #[.agg #[.int .i64 P, .int .i64 O], .agg #[.int .i64 p, .int .i64 o]] w fun e w' => e = .returned (.tuple #[.agg #[.int .i64 0, .int .i64 0], .bool false]) ∧ Below w.heap.size w w' := by
  have HBZ := Lib.hid (fun w => bezout_any P p w hP (by omega) hp hp2)
  obtain ⟨g1, g2, g3⟩ := gcdZ_bd P p hP hp
  have ht : ¬ (o - O).tmod (Int.gcd P p : Int) = 0 := fun h => hd ((tmod_zero _ _ (by omega)).1 h)
  obtain ⟨g, hg⟩ : ∃ g : Int, (Int.gcd P p : Int) = g := ⟨_, rfl⟩
  rw [hg] at HBZ g1 g2 g3 ht
  have hne : (g == 0) = false := by simp; omega
  have hn0 : ¬ g = 0 := by omega
  have v1 : IntKind.i64.wrap (o - O) = o - O := IntWalk.i64_in _ (by omega)
  have hnz : ((o - O).tmod g != 0) = true := by simp [ht]
  have hnz2 : ((o - O).tmod g == 0) = false := by simp [ht]
  clear hd hg
  go_enter Try.func64, Try.ntmps64
  go_wp2_with fail
  refine (HBZ.out _).mono ?_; rintro e w' ⟨fa, rfl, hy, f1, f2, n, rfl⟩
  have A1 := Lib.hid ((((CkAt.new w P O 25).alloc (.cells #[.int .i64 p, .int .i64 o] 25)).alloc (.cells #[.int .i64 0, .int .i64 0] 25)).drewN n)
  have q1 := ((CkAt.new (w.alloc (.cells #[.int .i64 P, .int .i64 O] 25)) p o 25).alloc (.cells #[.int .i64 0, .int .i64 0] 25)).drewN n
  have r1 := (At2.new ((w.alloc (.cells #[.int .i64 P, .int .i64 O] 25)).alloc (.cells #[.int .i64 p, .int .i64 o] 25)) (.int .i64 0) (.int .i64 0) 25).drewN n
  simp only [World.size_alloc] at q1 r1
  have Q1 := Lib.hid q1
  have R1 := Lib.hid r1
  have HB1 := Lib.hid (below_drk ((((bel_alloc w (.cells #[.int .i64 P, .int .i64 O] 25))).alloc (by simp) (.cells #[.int .i64 p, .int .i64 o] 25)).alloc (by simp; omega) (.cells #[.int .i64 0, .int .i64 0] 25)) n)
  obtain ⟨W, hW⟩ : ∃ W, ((((w.alloc (.cells #[.int .i64 P, .int .i64 O] 25)).alloc (.cells #[.int .i64 p, .int .i64 o] 25)).alloc (.cells #[.int .i64 0, .int .i64 0] 25)).drewN n) = W := ⟨_, rfl⟩
  have hsz : w.heap.size + 1 + 1 < W.heap.size := by rw [← hW]; show _ < (((w.alloc (.cells #[.int .i64 P, .int .i64 O] 25)).alloc (.cells #[.int .i64 p, .int .i64 o] 25)).alloc (.cells #[.int .i64 0, .int .i64 0] 25)).heap.size; simp
  rw [hW] at A1 Q1 R1 HB1 ⊢
  clear hW q1 r1
  obtain ⟨-, a10, a11⟩ := A1.out
  obtain ⟨-, b10, b11⟩ := Q1.out
  obtain ⟨z0, z1, z2, z3⟩ := R1.out
  obtain ⟨q0, q1, q2, q3⟩ := R1.out.set0 (Value.int .i64 0)
  obtain ⟨r0, r1, r2, r3⟩ := (R1.out.set0 (Value.int .i64 0)).set1 (Value.int .i64 0)
  go_wp2
  refine bodyPost_ret (v := .tuple #[.agg #[.int .i64 0, .int .i64 0], .bool false]) (by simp [results, Try.results64, go_sem, q0, q1, r0, r1]) rfl ⟨rfl, ?_⟩
  exact (HB1.out.setCell (by simp; omega) _).setCell (by simp; omega) _
set_option maxHeartbeats 4000000 in
set_option maxRecDepth 100000 in
theorem meetings_t (P O p o : Int) (w : World) (hP : 1 ≤ P) (hP2 : P ≤ 1000000000001) (hO : 0 ≤ O) (hO2 : O ≤ 1000000000000) (hp : 1 ≤ p) (hp2 : p ≤ 100000) (ho : 0 ≤ o) (ho2 : o ≤ 100000) (hd : (o - O) % (Int.gcd P p : Int) = 0) :
    Calls Try.prog 64 #[.agg #[.int .i64 P, .int .i64 O], .agg #[.int .i64 p, .int .i64 o]] w fun e w' => ∃ fa y P1 O1, fa * P + y * p = (Int.gcd P p : Int) ∧ P1 = min (P * (p / (Int.gcd P p : Int))) 1000000000001 ∧ O1 = O + ((o - O) / (Int.gcd P p : Int) * fa) % (p / (Int.gcd P p : Int)) * P ∧ e = .returned (.tuple #[.agg #[.int .i64 P1, .int .i64 (O1 + befZ P1 O1 o * P1)], .bool true]) ∧ Below w.heap.size w w' := by
  have HBZ := Lib.hid (fun w => bezout_any P p w hP (by omega) hp hp2)
  obtain ⟨g1, g2, g3⟩ := gcdZ_bd P p hP hp
  have ht := (tmod_zero _ _ (by omega)).2 hd
  have htl := tdiv_exact _ _ (by omega) hd
  have htt : p.tdiv (Int.gcd P p : Int) = p / (Int.gcd P p : Int) := Int.tdiv_eq_ediv_of_nonneg (by omega)
  obtain ⟨u1, u2, -⟩ := rounds_pos P p hP hp
  obtain ⟨zz, hzz⟩ := (emod_zero_iff (o - O) (Int.gcd P p : Int) (by omega)).1 hd
  have hzl : (o - O) / (Int.gcd P p : Int) = zz := by rw [hzz]; exact Int.mul_ediv_cancel _ (by omega)
  have zb : -1000000000000 ≤ zz ∧ zz ≤ 1000000000000 := by
    constructor
    · apply Decidable.byContradiction
      intro h
      have : zz * (Int.gcd P p : Int) ≤ zz * 1 := Int.mul_le_mul_of_nonpos_left (by omega) g1
      omega
    · apply Decidable.byContradiction
      intro h
      have : zz * 1 ≤ zz * (Int.gcd P p : Int) := Int.mul_le_mul_of_nonneg_left g1 (by omega)
      omega
  rw [hzl] at htl ⊢
  clear hzl hzz
  obtain ⟨g, hg⟩ : ∃ g : Int, (Int.gcd P p : Int) = g := ⟨_, rfl⟩
  rw [hg] at HBZ g1 g2 g3 ht htl htt u1 u2 ⊢
  obtain ⟨T, hT⟩ : ∃ T, p / g = T := ⟨_, rfl⟩
  rw [hT] at htt u1 u2 ⊢
  have hne : (g == 0) = false := by simp; omega
  have hn0 : ¬ g = 0 := by omega
  have hPT0 : 1 * 1 ≤ P * T := Int.mul_le_mul hP u1 (by omega) (by omega)
  have hPT : P * T ≤ 1000000000001 * 100000 := Int.mul_le_mul hP2 (by omega) (by omega) (by omega)
  have v1 : IntKind.i64.wrap (o - O) = o - O := IntWalk.i64_in _ (by omega)
  have hnz : ((o - O).tmod g != 0) = false := by simp [ht]
  have hnz2 : ((o - O).tmod g == 0) = true := by simp [ht]
  have v2 : IntKind.i64.wrap (p.tdiv g) = T := by rw [htt]; exact IntWalk.i64_in _ (by omega)
  have v3 : IntKind.i64.wrap T = T := IntWalk.i64_in _ (by omega)
  have v4 : IntKind.i64.wrap ((o - O).tdiv g) = zz := by rw [htl]; exact IntWalk.i64_in _ (by omega)
  have v5 : IntKind.i64.wrap zz = zz := IntWalk.i64_in _ (by omega)
  have v6 : IntKind.i64.wrap (P * T) = P * T := IntWalk.i64_in _ (by omega)
  obtain ⟨MV, hMV⟩ : ∃ MV, (if 1000000000001 < P * T then 1000000000001 else P * T) = MV := ⟨_, rfl⟩
  have HM2 := Lib.hid (show min (P * T) 1000000000001 = MV by rw [← hMV]; split <;> omega)
  have m4 : 1 ≤ MV ∧ MV ≤ 1000000000001 := by rw [← hMV]; split <;> omega
  have HT := Lib.hid hT
  clear hd hg hT
  go_enter Try.func64, Try.ntmps64
  go_wp2_with fail
  refine (HBZ.out _).mono ?_; rintro e w' ⟨fa, rfl, hy, f1, f2, n, rfl⟩
  have A1 := Lib.hid ((((CkAt.new w P O 25).alloc (.cells #[.int .i64 p, .int .i64 o] 25)).alloc (.cells #[.int .i64 0, .int .i64 0] 25)).drewN n)
  have q1 := ((CkAt.new (w.alloc (.cells #[.int .i64 P, .int .i64 O] 25)) p o 25).alloc (.cells #[.int .i64 0, .int .i64 0] 25)).drewN n
  have r1 := (At2.new ((w.alloc (.cells #[.int .i64 P, .int .i64 O] 25)).alloc (.cells #[.int .i64 p, .int .i64 o] 25)) (.int .i64 0) (.int .i64 0) 25).drewN n
  simp only [World.size_alloc] at q1 r1
  have Q1 := Lib.hid q1
  have R1 := Lib.hid r1
  have HB1 := Lib.hid (below_drk ((((bel_alloc w (.cells #[.int .i64 P, .int .i64 O] 25))).alloc (by simp) (.cells #[.int .i64 p, .int .i64 o] 25)).alloc (by simp; omega) (.cells #[.int .i64 0, .int .i64 0] 25)) n)
  obtain ⟨W, hW⟩ : ∃ W, ((((w.alloc (.cells #[.int .i64 P, .int .i64 O] 25)).alloc (.cells #[.int .i64 p, .int .i64 o] 25)).alloc (.cells #[.int .i64 0, .int .i64 0] 25)).drewN n) = W := ⟨_, rfl⟩
  have hsz : w.heap.size + 1 + 1 < W.heap.size := by rw [← hW]; show _ < (((w.alloc (.cells #[.int .i64 P, .int .i64 O] 25)).alloc (.cells #[.int .i64 p, .int .i64 o] 25)).alloc (.cells #[.int .i64 0, .int .i64 0] 25)).heap.size; simp
  rw [hW] at A1 Q1 R1 HB1 ⊢
  clear hW q1 r1
  obtain ⟨-, a10, a11⟩ := A1.out
  obtain ⟨-, b10, b11⟩ := Q1.out
  have zf : -100000000000000000 ≤ zz * fa ∧ zz * fa ≤ 100000000000000000 := by
    rcases Int.le_total 0 zz with hz | hz
    · have h1 : zz * fa ≤ zz * 100000 := Int.mul_le_mul_of_nonneg_left f2 hz
      have h2 : zz * (-100000) ≤ zz * fa := Int.mul_le_mul_of_nonneg_left f1 hz
      omega
    · have h1 : zz * 100000 ≤ zz * fa := Int.mul_le_mul_of_nonpos_left hz f2
      have h2 : zz * fa ≤ zz * (-100000) := Int.mul_le_mul_of_nonpos_left hz f1
      omega
  have v7 : IntKind.i64.wrap (zz * fa) = zz * fa := IntWalk.i64_in _ (by omega)
  have i0 : 0 ≤ (zz * fa) % T := Int.emod_nonneg _ (by omega)
  have i1 : (zz * fa) % T < T := Int.emod_lt_of_pos _ (by omega)
  have HRM := Lib.hid (fun w => remainderOf_any (zz * fa) T w u1 (by omega) (by omega) (by omega))
  obtain ⟨I, hI⟩ : ∃ I, (zz * fa) % T = I := ⟨_, rfl⟩
  rw [hI] at i0 i1 HRM
  have hIP0 : 0 ≤ I * P := Int.mul_nonneg i0 (by omega)
  have hIP : I * P ≤ T * P := Int.mul_le_mul_of_nonneg_right (by omega) (by omega)
  rw [Int.mul_comm T P] at hIP
  have HAT := Lib.hid (fun w => at_any P O I w hIP0 (by omega) (by omega) (by omega))
  obtain ⟨V, hV⟩ : ∃ V, O + I * P = V := ⟨_, rfl⟩
  rw [hV] at HAT
  have V0 : 0 ≤ V ∧ V ≤ 200000000000000000 := by omega
  have HI := Lib.hid hI
  have HV := Lib.hid hV
  have HY := Lib.hid hy
  clear hy hI hV hIP0 hIP zf i0 i1
  have HNX := Lib.hid (fun w => next_any (MV) V o w m4.1 (by omega) V0.1 (by omega) ho (by omega))
  have hbm := befZ_mul (MV) V o m4.1 V0.1 ho
  obtain ⟨U, hU⟩ : ∃ U, V + befZ (MV) V o * (MV) = U := ⟨_, rfl⟩
  rw [hU] at HNX
  have HU := Lib.hid hU
  clear hU hbm
  go_wp2_with fail
  refine (HRM.out _).mono ?_; rintro e w' ⟨rfl, rfl⟩
  go_wp2
  refine meetF ?X (fun (b : Nat) W' => At2 W' b (.int .i64 (MV)) (.int .i64 V) ∧ W.heap.size ≤ b ∧ Below W.heap.size W W') ?h ?k
  case h =>
    intro K1
    go_region_held3 (fun W' => W'.cell? ⟨w.heap.size, 0, none⟩ = some (.int .i64 P) ∧ W'.cell? ⟨w.heap.size, 1, none⟩ = some (.int .i64 O)) (first | (go_split_ands; (refine ⟨?_, ?_⟩ <;> (with_reducible assumption))) | (go_split_ands; (refine ⟨?_, ?_⟩ <;> ((with_reducible apply cell_kept) <;> (with_reducible assumption)))) | (go_split_ands; (refine ⟨?_, ?_⟩ <;> ((with_reducible refine cell_alloc_kept ?_); (with_reducible assumption)))) | (go_split_ands; (refine ⟨?_, ?_⟩ <;> ((with_reducible refine cell_drK ?_); (with_reducible assumption)))) | (go_split_ands; (refine ⟨?_, ?_⟩ <;> ((with_reducible refine cell_alloc_drK ?_); (with_reducible assumption)))) | (go_split_ands; (refine ⟨?_, ?_⟩ <;> ((with_reducible refine cell_set_kept ?_ (cell_set_kept ?_ ?_)) <;> (first | (with_reducible assumption) | ((try have hq0 := sza.out); (try simp at hq0); (try dsimp only); omega))))) | (go_split_ands; (refine ⟨?_, ?_⟩ <;> ((with_reducible apply cell_alloc_otherF) <;> (first | (with_reducible assumption) | ((try have hq0 := sza.out); (try simp at hq0); (try dsimp only); omega)))))) (first | (go_at_call 47; (with_reducible refine (HAT.out _).mono ?_); rintro e wa ⟨rfl, hba⟩; have sza := Lib.hid hba.size; (try (refine fresh2 (W.heap.size) (.int .i64 0) (.int .i64 0) hba ?_ ?_ ?_ ?_ ?_ ?_; (focus (first | (with_reducible assumption) | (simp [go_sem]; done))); (focus (first | (with_reducible assumption) | (simp [go_sem]; done))); (focus (first | (with_reducible assumption) | (simp [go_sem]; done))); (focus (first | (with_reducible assumption) | (simp [go_sem]; done))); (focus (first | (simp; done) | (simp; omega) | omega)); intro ae1 ae2 ae3 ae4 ae5))))
    all_goals (first
      | (refine gen_endF _ (fun W' => At2 W' wa.heap.size (.int .i64 (MV)) (.int .i64 V) ∧ W.heap.size ≤ wa.heap.size ∧ Below W.heap.size W W') ?_ ?_; (focus (have h1 := sza.out; (try simp at h1); refine ⟨⟨?_, ?_, ?_, ?_⟩, ?_, ?_⟩; (focus (simp [go_sem, *]; done)); (focus (simp [go_sem, *]; done)); (focus (simp [go_sem, *]; done)); (focus (simp [go_sem, *]; done)); (focus omega); (focus ((repeat' (first | exact (Below.refl _ _) | (refine below_drF ?_) | (refine Below.setCell ?_ ?_ _) | (refine Below.alloc ?_ ?_ _) | (refine Below.trans ?_ (hba.mono ?_)))) <;> (first | (simp; done) | (simp; omega) | omega))))); (focus (intro Wn hW; generalize wa.heap.size = g1 at hW ⊢; exact K1.out g1 Wn hW)))
      | (refine gen_endF _ (fun W' => At2 W' W.heap.size (.int .i64 (MV)) (.int .i64 V) ∧ W.heap.size ≤ W.heap.size ∧ Below W.heap.size W W') ?_ ?_; (focus (have h1 := sza.out; (try simp at h1); refine ⟨⟨?_, ?_, ?_, ?_⟩, ?_, ?_⟩; (focus (simp [go_sem, *]; done)); (focus (simp [go_sem, *]; done)); (focus (simp [go_sem, *]; done)); (focus (simp [go_sem, *]; done)); (focus omega); (focus ((repeat' (first | exact (Below.refl _ _) | (refine below_drF ?_) | (refine Below.setCell ?_ ?_ _) | (refine Below.alloc ?_ ?_ _) | (refine Below.trans ?_ (hba.mono ?_)))) <;> (first | (simp; done) | (simp; omega) | omega))))); (focus (intro Wn hW; exact K1.out _ Wn hW))))
  case k =>
    intro b2 w2 hW2
    obtain ⟨n2, hge, hb2⟩ := hW2
    have Q2 := Lib.hid (Q1.out.call hb2)
    have R2 := Lib.hid (R1.out.below hb2 R1.out.lt)
    have N2 := Lib.hid n2
    have HB2 := Lib.hid (bel_call HB1.out hb2)
    have hlt2 := n2.lt
    obtain ⟨y0, y1, y2, y3⟩ := n2
    obtain ⟨-, d0, d1⟩ := Q2.out
    clear hb2 a10 a11 b10 b11
    go_wp2_with fail
    refine (HNX.out _).mono ?_; rintro e w3 ⟨rfl, hb3⟩
    have hs3 := hb3.size
    have N3 := Lib.hid (N2.out.below hb3 hlt2)
    have R3 := Lib.hid (R2.out.below hb3 R2.out.lt)
    have HB3 := Lib.hid (bel_call HB2.out hb3)
    have N4 := Lib.hid (N3.out.set1 (Value.int .i64 U))
    have R4 := Lib.hid (R3.out.set_ne (show b2 ≠ w.heap.size + 1 + 1 by omega) 1 (Value.int .i64 U))
    obtain ⟨p0, p1, p2, p3⟩ := R4.out.set0 (Value.int .i64 (MV))
    obtain ⟨o0, o1, o2, o3⟩ := (R4.out.set0 (Value.int .i64 (MV))).set1 (Value.int .i64 U)
    obtain ⟨s0, s1, s2, s3⟩ := N3.out
    obtain ⟨t0, t1, t2, t3⟩ := N4.out
    obtain ⟨r0, r1, r2, r3⟩ := R4.out
    clear hb3 y0 y1 y2 y3 d0 d1
    go_wp2
    refine bodyPost_ret (v := .tuple #[.agg #[.int .i64 MV, .int .i64 U], .bool true]) (by simp [results, Try.results64, go_sem, r0, r1, r2, r3, p0, p1, o0, o1]) rfl ⟨fa, _, MV, V, HY.out.choose_spec, HM2.out.symm, by rw [HI.out]; exact HV.out.symm, by rw [HU.out], ?_⟩
    exact ((HB3.out.setCell (by dsimp only; omega) _).setCell (by dsimp only; omega) _).setCell (by dsimp only; omega) _
end Go.Proofs.Ytafecdmcbpnniaa
