/- The product of two fractions, on the side of the model. -/
import Derived.Test.YtomdoamfdidghaaMul
import Derived.Test.YtomdoamfdidghaaTimes
import Derived.Deep.RegionHeld3
namespace Go.Proofs.Ytomdoamfdidghaa
open Go.RowKit

theorem times_sz (a b : Nat) (w : World) (ha : a ≤ 9223372036854775807) (hb : b ≤ 9223372036854775807) :
    Calls Try.prog 49 #[.int .i64 (a : Int), .int .i64 (b : Int)] w fun e w' => e = .returned (.agg #[.int .u64 (hiW (szN (a : Int) (b : Int))), .int .u64 (loW (szN (a : Int) (b : Int)))]) ∧ Below w.heap.size w w' := specTimes a b w ha hb
theorem szN_abs (a b : Int) : szN (a.natAbs : Int) (b.natAbs : Int) = szN a b := by unfold szN; simp
theorem szN_comm (a b : Int) : szN a b = szN b a := by unfold szN; exact Nat.mul_comm _ _
theorem ovI_t (A : Nat) (h : ovB A = true) : ovI false A = (A : Int) ∧ ovI true A = -(A : Int) ∧ A ≤ 1000000000000000000 := by
  have h' : A ≤ 1000000000000000000 := by unfold ovB at h; simpa using h
  unfold ovI sgI; rw [if_pos h', if_pos h']; exact ⟨rfl, rfl, h'⟩

set_option maxHeartbeats 4000000 in
set_option maxRecDepth 100000 in
theorem fmul_tt (n d p q A1 A2 B1 B2 : Int) (w : World) (a1 : -1000000000000000000 ≤ A1 ∧ A1 ≤ 1000000000000000000 ∧ 0 ≤ A2 ∧ A2 ≤ 1000000000000000000) (b1 : -1000000000000000000 ≤ B1 ∧ B1 ≤ 1000000000000000000 ∧ 0 ≤ B2 ∧ B2 ≤ 1000000000000000000)
    (M1 : Hid (∀ w, Calls Try.prog 47 #[.int .i64 n, .int .i64 q] w fun e w' => e = .returned (.agg #[.int .i64 A1, .int .i64 A2]) ∧ Below w.heap.size w w'))
    (M2 : Hid (∀ w, Calls Try.prog 47 #[.int .i64 p, .int .i64 d] w fun e w' => e = .returned (.agg #[.int .i64 B1, .int .i64 B2]) ∧ Below w.heap.size w w'))
    (hs1 : ovB (szN A1 B1) = true) (hs2 : ovB (szN B2 A2) = true) (hsg : (decide (A1 < 0) != decide (B1 < 0)) = true) :
    Calls Try.prog 30 #[.agg #[.int .i64 n, .int .i64 d], .agg #[.int .i64 p, .int .i64 q]] w fun e w' => e = .returned (.tuple #[.agg #[.int .i64 (ovI true (szN A1 B1)), .int .i64 (ovI false (szN B2 A2))], .bool true]) ∧ Below w.heap.size w w' := by
  obtain ⟨x2, rfl⟩ := Int.eq_ofNat_of_zero_le a1.2.2.1
  obtain ⟨y2, rfl⟩ := Int.eq_ofNat_of_zero_le b1.2.2.1
  have T1 : ∀ w, Calls Try.prog 49 #[.int .i64 (A1.natAbs : Int), .int .i64 (B1.natAbs : Int)] w fun e w' => e = .returned (.agg #[.int .u64 (hiW (szN A1 B1)), .int .u64 (loW (szN A1 B1))]) ∧ Below w.heap.size w w' := fun w => by
    have := times_sz A1.natAbs B1.natAbs w (by omega) (by omega)
    rw [szN_abs] at this; exact this
  have T2 : ∀ w, Calls Try.prog 49 #[.int .i64 (x2 : Int), .int .i64 (y2 : Int)] w fun e w' => e = .returned (.agg #[.int .u64 (hiW (szN (y2 : Int) (x2 : Int))), .int .u64 (loW (szN (y2 : Int) (x2 : Int)))]) ∧ Below w.heap.size w w' := fun w => by
    have := times_sz x2 y2 w (by omega) (by omega)
    rw [szN_comm] at this; exact this
  have HT1 := Lib.hid T1
  have HT2 := Lib.hid T2
  have na : IntKind.i64.wrap (-A1) = -A1 := IntWalk.i64_in _ (by omega)
  have nb : IntKind.i64.wrap (-B1) = -B1 := IntWalk.i64_in _ (by omega)
  obtain ⟨Z1, hZ1⟩ : ∃ Z, szN A1 B1 = Z := ⟨_, rfl⟩
  obtain ⟨Z2, hZ2⟩ : ∃ Z, szN (y2 : Int) (x2 : Int) = Z := ⟨_, rfl⟩
  rw [hZ1] at hs1 HT1 ⊢
  rw [hZ2] at hs2 HT2 ⊢
  obtain ⟨u1, u2, u3⟩ := ovI_t Z1 hs1
  obtain ⟨u4, _, u6⟩ := ovI_t Z2 hs2
  rw [u2, u4]
  have S1 : ∀ w, Calls Try.prog 48 #[.agg #[.int .u64 (hiW Z1), .int .u64 (loW Z1)]] w fun e w' => e = .returned (.tuple #[.int .i64 (Z1 : Int), .bool true]) ∧ Below w.heap.size w w' := fun w => by have := small_any Z1 w; rw [u1, hs1] at this; exact this
  have S2 : ∀ w, Calls Try.prog 48 #[.agg #[.int .u64 (hiW Z2), .int .u64 (loW Z2)]] w fun e w' => e = .returned (.tuple #[.int .i64 (Z2 : Int), .bool true]) ∧ Below w.heap.size w w' := fun w => by have := small_any Z2 w; rw [u4, hs2] at this; exact this
  have hsg2 : (!(decide (A1 < 0) == decide (B1 < 0))) = true := hsg
  have HS1 := Lib.hid S1
  have HS2 := Lib.hid S2
  have hnew := At2.new ((w.alloc (.cells #[.int .i64 n, .int .i64 d] 24)).alloc (.cells #[.int .i64 p, .int .i64 q] 24)) (.int .i64 0) (.int .i64 0) 24
  simp only [World.size_alloc] at hnew
  have hargs := ((At2.new w (.int .i64 n) (.int .i64 d) 24).alloc (.cells #[.int .i64 p, .int .i64 q] 24)).alloc (.cells #[.int .i64 0, .int .i64 0] 24)
  have hargt := (At2.new (w.alloc (.cells #[.int .i64 n, .int .i64 d] 24)) (.int .i64 p) (.int .i64 q) 24).alloc (.cells #[.int .i64 0, .int .i64 0] 24)
  simp only [World.size_alloc] at hargt
  have b0 : Below w.heap.size w (((w.alloc (.cells #[.int .i64 n, .int .i64 d] 24)).alloc (.cells #[.int .i64 p, .int .i64 q] 24)).alloc (.cells #[.int .i64 0, .int .i64 0] 24)) := ((Below.refl _ _).alloc (Nat.le_refl _) _).alloc (by simp) _ |>.alloc (by simp; omega) _
  have HB0 := Lib.hid b0
  have HR0 := Lib.hid hnew
  have HA0 := Lib.hid hargs
  have HC0 := Lib.hid hargt
  clear T1 T2 S1 S2 hZ1 hZ2 u1 u2 u4 hs1 hs2 hnew hargs hargt b0
  go_enter Try.func30, Try.ntmps30
  go_wp2_with fail
  refine (M1.out _).mono ?_; rintro e w1 ⟨rfl, hb1⟩
  have s1 := hb1.size
  simp at s1
  have HR1 := Lib.hid ((HR0.out.below hb1 (by simp)).alloc (.cells #[.int .i64 A1, .int .i64 (x2 : Int)] 24))
  have HA1 := Lib.hid ((HA0.out.below hb1 (by simp; omega)).alloc (.cells #[.int .i64 A1, .int .i64 (x2 : Int)] 24))
  have HC1 := Lib.hid ((HC0.out.below hb1 (by simp)).alloc (.cells #[.int .i64 A1, .int .i64 (x2 : Int)] 24))
  have HX1 := Lib.hid (At2.new w1 (.int .i64 A1) (.int .i64 (x2 : Int)) 24)
  have HB1 := Lib.hid ((HB0.out.trans (hb1.mono (by simp; omega))).alloc (by omega) (.cells #[.int .i64 A1, .int .i64 (x2 : Int)] 24))
  clear hb1
  obtain ⟨c0, c1, _, _⟩ := HA1.out
  obtain ⟨c2, c3, _, _⟩ := HC1.out
  go_wp2_with fail
  refine (M2.out _).mono ?_; rintro e w2 ⟨rfl, hb2⟩
  have s2 := hb2.size
  simp at s2
  have HR2 := Lib.hid ((HR1.out.below hb2 (by simp; omega)).alloc (.cells #[.int .i64 B1, .int .i64 (y2 : Int)] 24))
  have HX2 := Lib.hid ((HX1.out.below hb2 (by simp)).alloc (.cells #[.int .i64 B1, .int .i64 (y2 : Int)] 24))
  have HY2 := Lib.hid (At2.new w2 (.int .i64 B1) (.int .i64 (y2 : Int)) 24)
  have HB2 := Lib.hid ((HB1.out.trans (hb2.mono (by simp; omega))).alloc (by omega) (.cells #[.int .i64 B1, .int .i64 (y2 : Int)] 24))
  clear hb2 c0 c1 c2 c3
  obtain ⟨x0, x1, _, _⟩ := HX2.out
  obtain ⟨y0, y1, _, _⟩ := HY2.out
  obtain ⟨r0, r1, _, _⟩ := HR2.out
  go_wp2_with fail
  generalize hW2 : w2.alloc (.cells #[.int .i64 B1, .int .i64 (y2 : Int)] 24) = W2 at x0 x1 y0 y1 r0 r1 ⊢
  rw [hW2] at HB2 HR2
  have z1 : w1.heap.size < w2.heap.size := by omega
  have z2 : w.heap.size + 1 + 1 < w1.heap.size := by omega
  have MX1 := Lib.hid (fun w => l00Max_size A1 (-A1) w rfl)
  have MX2 := Lib.hid (fun w => l00Max_size B1 (-B1) w rfl)
  clear hW2 HX2 HY2 HX1 HC1 HA1 HC0 HA0
  go_region_held3 (fun w' => w'.cell? ⟨w1.heap.size, 0, none⟩ = some (.int .i64 A1) ∧ w'.cell? ⟨w1.heap.size, 1, none⟩ = some (.int .i64 (x2 : Int)) ∧ w'.cell? ⟨w2.heap.size, 0, none⟩ = some (.int .i64 B1) ∧ w'.cell? ⟨w2.heap.size, 1, none⟩ = some (.int .i64 (y2 : Int)) ∧ w'.cell? ⟨w.heap.size + 1 + 1, 0, none⟩ = some (.int .i64 0) ∧ w'.cell? ⟨w.heap.size + 1 + 1, 1, none⟩ = some (.int .i64 0)) (first | (go_keep; done) | ((try dsimp only); (repeat' apply And.intro) <;> assumption) | (go_split_ands; (refine ⟨?_, ?_, ?_, ?_, ?_, ?_⟩ <;> (apply cell_kept <;> assumption))) | ((try dsimp only); (repeat' apply And.intro) <;> (first | assumption | (go_keep; done) | (apply cell_kept <;> assumption)))) (first | (go_at_call 46; first | ((with_reducible refine (MX1.out _).mono ?_); rintro e w' ⟨rfl, rfl⟩) | ((with_reducible refine (MX2.out _).mono ?_); rintro e w' ⟨rfl, rfl⟩)) | (go_at_call 49; refine (HT1.out _).mono ?_; rintro e wa ⟨rfl, hba⟩) | (go_at_call 48; refine (HS1.out _).mono ?_; rintro e wb ⟨rfl, hbb⟩))
  go_split_ands
  have x0a : wb.cell? ⟨w1.heap.size, 0, none⟩ = some (.int .i64 A1) := by assumption
  have x1a : wb.cell? ⟨w1.heap.size, 1, none⟩ = some (.int .i64 (x2 : Int)) := by assumption
  have y0a : wb.cell? ⟨w2.heap.size, 0, none⟩ = some (.int .i64 B1) := by assumption
  have y1a : wb.cell? ⟨w2.heap.size, 1, none⟩ = some (.int .i64 (y2 : Int)) := by assumption
  have ta := (HR2.out.drew).below hba HR2.out.drew.lt
  have tb := ta.below hbb ta.lt
  have hB2 := HB2.out.drew
  have hB3 := hB2.trans (hba.mono hB2.size)
  have HB4 := Lib.hid (hB3.trans (hbb.mono hB3.size))
  have HTB := Lib.hid tb
  clear ta tb hB2 hB3 hba hbb x0 x1 y0 y1 r0 r1
  go_wp2_with fail
  refine (HT2.out _).mono ?_; rintro e wc ⟨rfl, hbc⟩
  have x0b := cell_kept hbc x0a
  have y0b := cell_kept hbc y0a
  have HTC := Lib.hid (HTB.out.below hbc HTB.out.lt)
  have HB5 := Lib.hid (HB4.out.trans (hbc.mono HB4.out.size))
  clear hbc x0a x1a y0a y1a
  go_wp2_with fail
  refine (HS2.out _).mono ?_; rintro e wd ⟨rfl, hbd⟩
  have x0c := cell_kept hbd x0b
  have y0c := cell_kept hbd y0b
  have HTD := Lib.hid (HTC.out.below hbd HTC.out.lt)
  have HB6 := Lib.hid (HB5.out.trans (hbd.mono HB5.out.size))
  obtain ⟨e0, e1, e2, e3⟩ := HTD.out
  clear hbd x0b y0b
  go_wp2
  refine bodyPost_ret (v := .tuple #[.agg #[.int .i64 (-(Z1 : Int)), .int .i64 (Z2 : Int)], .bool true]) (by simp [results, Try.results30, go_sem, *]) rfl ⟨rfl, ?_⟩
  exact (HB6.out.setCell (by simp; omega) _).setCell (by simp; omega) _

set_option maxHeartbeats 4000000 in
set_option maxRecDepth 100000 in
theorem fmul_t0 (n d p q A1 A2 B1 B2 : Int) (w : World) (a1 : -1000000000000000000 ≤ A1 ∧ A1 ≤ 1000000000000000000 ∧ 0 ≤ A2 ∧ A2 ≤ 1000000000000000000) (b1 : -1000000000000000000 ≤ B1 ∧ B1 ≤ 1000000000000000000 ∧ 0 ≤ B2 ∧ B2 ≤ 1000000000000000000)
    (M1 : Hid (∀ w, Calls Try.prog 47 #[.int .i64 n, .int .i64 q] w fun e w' => e = .returned (.agg #[.int .i64 A1, .int .i64 A2]) ∧ Below w.heap.size w w'))
    (M2 : Hid (∀ w, Calls Try.prog 47 #[.int .i64 p, .int .i64 d] w fun e w' => e = .returned (.agg #[.int .i64 B1, .int .i64 B2]) ∧ Below w.heap.size w w'))
    (hs1 : ovB (szN A1 B1) = true) (hs2 : ovB (szN B2 A2) = true) (hsg : (decide (A1 < 0) != decide (B1 < 0)) = false) :
    Calls Try.prog 30 #[.agg #[.int .i64 n, .int .i64 d], .agg #[.int .i64 p, .int .i64 q]] w fun e w' => e = .returned (.tuple #[.agg #[.int .i64 (ovI false (szN A1 B1)), .int .i64 (ovI false (szN B2 A2))], .bool true]) ∧ Below w.heap.size w w' := by
  obtain ⟨x2, rfl⟩ := Int.eq_ofNat_of_zero_le a1.2.2.1
  obtain ⟨y2, rfl⟩ := Int.eq_ofNat_of_zero_le b1.2.2.1
  have T1 : ∀ w, Calls Try.prog 49 #[.int .i64 (A1.natAbs : Int), .int .i64 (B1.natAbs : Int)] w fun e w' => e = .returned (.agg #[.int .u64 (hiW (szN A1 B1)), .int .u64 (loW (szN A1 B1))]) ∧ Below w.heap.size w w' := fun w => by
    have := times_sz A1.natAbs B1.natAbs w (by omega) (by omega)
    rw [szN_abs] at this; exact this
  have T2 : ∀ w, Calls Try.prog 49 #[.int .i64 (x2 : Int), .int .i64 (y2 : Int)] w fun e w' => e = .returned (.agg #[.int .u64 (hiW (szN (y2 : Int) (x2 : Int))), .int .u64 (loW (szN (y2 : Int) (x2 : Int)))]) ∧ Below w.heap.size w w' := fun w => by
    have := times_sz x2 y2 w (by omega) (by omega)
    rw [szN_comm] at this; exact this
  have HT1 := Lib.hid T1
  have HT2 := Lib.hid T2
  have na : IntKind.i64.wrap (-A1) = -A1 := IntWalk.i64_in _ (by omega)
  have nb : IntKind.i64.wrap (-B1) = -B1 := IntWalk.i64_in _ (by omega)
  obtain ⟨Z1, hZ1⟩ : ∃ Z, szN A1 B1 = Z := ⟨_, rfl⟩
  obtain ⟨Z2, hZ2⟩ : ∃ Z, szN (y2 : Int) (x2 : Int) = Z := ⟨_, rfl⟩
  rw [hZ1] at hs1 HT1 ⊢
  rw [hZ2] at hs2 HT2 ⊢
  obtain ⟨u1, u2, u3⟩ := ovI_t Z1 hs1
  obtain ⟨u4, _, u6⟩ := ovI_t Z2 hs2
  rw [u1, u4]
  have S1 : ∀ w, Calls Try.prog 48 #[.agg #[.int .u64 (hiW Z1), .int .u64 (loW Z1)]] w fun e w' => e = .returned (.tuple #[.int .i64 (Z1 : Int), .bool true]) ∧ Below w.heap.size w w' := fun w => by have := small_any Z1 w; rw [u1, hs1] at this; exact this
  have S2 : ∀ w, Calls Try.prog 48 #[.agg #[.int .u64 (hiW Z2), .int .u64 (loW Z2)]] w fun e w' => e = .returned (.tuple #[.int .i64 (Z2 : Int), .bool true]) ∧ Below w.heap.size w w' := fun w => by have := small_any Z2 w; rw [u4, hs2] at this; exact this
  have hsg2 : (!(decide (A1 < 0) == decide (B1 < 0))) = false := hsg
  have HS1 := Lib.hid S1
  have HS2 := Lib.hid S2
  have hnew := At2.new ((w.alloc (.cells #[.int .i64 n, .int .i64 d] 24)).alloc (.cells #[.int .i64 p, .int .i64 q] 24)) (.int .i64 0) (.int .i64 0) 24
  simp only [World.size_alloc] at hnew
  have hargs := ((At2.new w (.int .i64 n) (.int .i64 d) 24).alloc (.cells #[.int .i64 p, .int .i64 q] 24)).alloc (.cells #[.int .i64 0, .int .i64 0] 24)
  have hargt := (At2.new (w.alloc (.cells #[.int .i64 n, .int .i64 d] 24)) (.int .i64 p) (.int .i64 q) 24).alloc (.cells #[.int .i64 0, .int .i64 0] 24)
  simp only [World.size_alloc] at hargt
  have b0 : Below w.heap.size w (((w.alloc (.cells #[.int .i64 n, .int .i64 d] 24)).alloc (.cells #[.int .i64 p, .int .i64 q] 24)).alloc (.cells #[.int .i64 0, .int .i64 0] 24)) := ((Below.refl _ _).alloc (Nat.le_refl _) _).alloc (by simp) _ |>.alloc (by simp; omega) _
  have HB0 := Lib.hid b0
  have HR0 := Lib.hid hnew
  have HA0 := Lib.hid hargs
  have HC0 := Lib.hid hargt
  clear T1 T2 S1 S2 hZ1 hZ2 u1 u2 u4 hs1 hs2 hnew hargs hargt b0
  go_enter Try.func30, Try.ntmps30
  go_wp2_with fail
  refine (M1.out _).mono ?_; rintro e w1 ⟨rfl, hb1⟩
  have s1 := hb1.size
  simp at s1
  have HR1 := Lib.hid ((HR0.out.below hb1 (by simp)).alloc (.cells #[.int .i64 A1, .int .i64 (x2 : Int)] 24))
  have HA1 := Lib.hid ((HA0.out.below hb1 (by simp; omega)).alloc (.cells #[.int .i64 A1, .int .i64 (x2 : Int)] 24))
  have HC1 := Lib.hid ((HC0.out.below hb1 (by simp)).alloc (.cells #[.int .i64 A1, .int .i64 (x2 : Int)] 24))
  have HX1 := Lib.hid (At2.new w1 (.int .i64 A1) (.int .i64 (x2 : Int)) 24)
  have HB1 := Lib.hid ((HB0.out.trans (hb1.mono (by simp; omega))).alloc (by omega) (.cells #[.int .i64 A1, .int .i64 (x2 : Int)] 24))
  clear hb1
  obtain ⟨c0, c1, _, _⟩ := HA1.out
  obtain ⟨c2, c3, _, _⟩ := HC1.out
  go_wp2_with fail
  refine (M2.out _).mono ?_; rintro e w2 ⟨rfl, hb2⟩
  have s2 := hb2.size
  simp at s2
  have HR2 := Lib.hid ((HR1.out.below hb2 (by simp; omega)).alloc (.cells #[.int .i64 B1, .int .i64 (y2 : Int)] 24))
  have HX2 := Lib.hid ((HX1.out.below hb2 (by simp)).alloc (.cells #[.int .i64 B1, .int .i64 (y2 : Int)] 24))
  have HY2 := Lib.hid (At2.new w2 (.int .i64 B1) (.int .i64 (y2 : Int)) 24)
  have HB2 := Lib.hid ((HB1.out.trans (hb2.mono (by simp; omega))).alloc (by omega) (.cells #[.int .i64 B1, .int .i64 (y2 : Int)] 24))
  clear hb2 c0 c1 c2 c3
  obtain ⟨x0, x1, _, _⟩ := HX2.out
  obtain ⟨y0, y1, _, _⟩ := HY2.out
  obtain ⟨r0, r1, _, _⟩ := HR2.out
  go_wp2_with fail
  generalize hW2 : w2.alloc (.cells #[.int .i64 B1, .int .i64 (y2 : Int)] 24) = W2 at x0 x1 y0 y1 r0 r1 ⊢
  rw [hW2] at HB2 HR2
  have z1 : w1.heap.size < w2.heap.size := by omega
  have z2 : w.heap.size + 1 + 1 < w1.heap.size := by omega
  have MX1 := Lib.hid (fun w => l00Max_size A1 (-A1) w rfl)
  have MX2 := Lib.hid (fun w => l00Max_size B1 (-B1) w rfl)
  clear hW2 HX2 HY2 HX1 HC1 HA1 HC0 HA0
  go_region_held3 (fun w' => w'.cell? ⟨w1.heap.size, 0, none⟩ = some (.int .i64 A1) ∧ w'.cell? ⟨w1.heap.size, 1, none⟩ = some (.int .i64 (x2 : Int)) ∧ w'.cell? ⟨w2.heap.size, 0, none⟩ = some (.int .i64 B1) ∧ w'.cell? ⟨w2.heap.size, 1, none⟩ = some (.int .i64 (y2 : Int)) ∧ w'.cell? ⟨w.heap.size + 1 + 1, 0, none⟩ = some (.int .i64 0) ∧ w'.cell? ⟨w.heap.size + 1 + 1, 1, none⟩ = some (.int .i64 0)) (first | (go_keep; done) | ((try dsimp only); (repeat' apply And.intro) <;> assumption) | (go_split_ands; (refine ⟨?_, ?_, ?_, ?_, ?_, ?_⟩ <;> (apply cell_kept <;> assumption))) | ((try dsimp only); (repeat' apply And.intro) <;> (first | assumption | (go_keep; done) | (apply cell_kept <;> assumption)))) (first | (go_at_call 46; first | ((with_reducible refine (MX1.out _).mono ?_); rintro e w' ⟨rfl, rfl⟩) | ((with_reducible refine (MX2.out _).mono ?_); rintro e w' ⟨rfl, rfl⟩)) | (go_at_call 49; refine (HT1.out _).mono ?_; rintro e wa ⟨rfl, hba⟩) | (go_at_call 48; refine (HS1.out _).mono ?_; rintro e wb ⟨rfl, hbb⟩))
  go_split_ands
  have x0a : wb.cell? ⟨w1.heap.size, 0, none⟩ = some (.int .i64 A1) := by assumption
  have x1a : wb.cell? ⟨w1.heap.size, 1, none⟩ = some (.int .i64 (x2 : Int)) := by assumption
  have y0a : wb.cell? ⟨w2.heap.size, 0, none⟩ = some (.int .i64 B1) := by assumption
  have y1a : wb.cell? ⟨w2.heap.size, 1, none⟩ = some (.int .i64 (y2 : Int)) := by assumption
  have ta := (HR2.out.drew).below hba HR2.out.drew.lt
  have tb := ta.below hbb ta.lt
  have hB2 := HB2.out.drew
  have hB3 := hB2.trans (hba.mono hB2.size)
  have HB4 := Lib.hid (hB3.trans (hbb.mono hB3.size))
  have HTB := Lib.hid tb
  clear ta tb hB2 hB3 hba hbb x0 x1 y0 y1 r0 r1
  go_wp2_with fail
  refine (HT2.out _).mono ?_; rintro e wc ⟨rfl, hbc⟩
  have x0b := cell_kept hbc x0a
  have y0b := cell_kept hbc y0a
  have HTC := Lib.hid (HTB.out.below hbc HTB.out.lt)
  have HB5 := Lib.hid (HB4.out.trans (hbc.mono HB4.out.size))
  clear hbc x0a x1a y0a y1a
  go_wp2_with fail
  refine (HS2.out _).mono ?_; rintro e wd ⟨rfl, hbd⟩
  have x0c := cell_kept hbd x0b
  have y0c := cell_kept hbd y0b
  have HTD := Lib.hid (HTC.out.below hbd HTC.out.lt)
  have HB6 := Lib.hid (HB5.out.trans (hbd.mono HB5.out.size))
  obtain ⟨e0, e1, e2, e3⟩ := HTD.out
  clear hbd x0b y0b
  go_wp2
  refine bodyPost_ret (v := .tuple #[.agg #[.int .i64 (Z1 : Int), .int .i64 (Z2 : Int)], .bool true]) (by simp [results, Try.results30, go_sem, *]) rfl ⟨rfl, ?_⟩
  exact (HB6.out.setCell (by simp; omega) _).setCell (by simp; omega) _

set_option maxHeartbeats 4000000 in
set_option maxRecDepth 100000 in
theorem fmulX_ff (n d p q A1 A2 B1 B2 : Int) (w : World) (a1 : -1000000000000000000 ≤ A1 ∧ A1 ≤ 1000000000000000000 ∧ 0 ≤ A2 ∧ A2 ≤ 1000000000000000000) (b1 : -1000000000000000000 ≤ B1 ∧ B1 ≤ 1000000000000000000 ∧ 0 ≤ B2 ∧ B2 ≤ 1000000000000000000)
    (M1 : Hid (∀ w, Calls Try.prog 47 #[.int .i64 n, .int .i64 q] w fun e w' => e = .returned (.agg #[.int .i64 A1, .int .i64 A2]) ∧ Below w.heap.size w w'))
    (M2 : Hid (∀ w, Calls Try.prog 47 #[.int .i64 p, .int .i64 d] w fun e w' => e = .returned (.agg #[.int .i64 B1, .int .i64 B2]) ∧ Below w.heap.size w w'))
    (hs1 : ovB (szN A1 B1) = false) (hs2 : ovB (szN B2 A2) = false)  :
    Calls Try.prog 30 #[.agg #[.int .i64 n, .int .i64 d], .agg #[.int .i64 p, .int .i64 q]] w fun e w' => e = .returned (.tuple #[.agg #[.int .i64 0, .int .i64 0], .bool false]) ∧ Below w.heap.size w w' := by
  obtain ⟨x2, rfl⟩ := Int.eq_ofNat_of_zero_le a1.2.2.1
  obtain ⟨y2, rfl⟩ := Int.eq_ofNat_of_zero_le b1.2.2.1
  have T1 : ∀ w, Calls Try.prog 49 #[.int .i64 (A1.natAbs : Int), .int .i64 (B1.natAbs : Int)] w fun e w' => e = .returned (.agg #[.int .u64 (hiW (szN A1 B1)), .int .u64 (loW (szN A1 B1))]) ∧ Below w.heap.size w w' := fun w => by
    have := times_sz A1.natAbs B1.natAbs w (by omega) (by omega)
    rw [szN_abs] at this; exact this
  have T2 : ∀ w, Calls Try.prog 49 #[.int .i64 (x2 : Int), .int .i64 (y2 : Int)] w fun e w' => e = .returned (.agg #[.int .u64 (hiW (szN (y2 : Int) (x2 : Int))), .int .u64 (loW (szN (y2 : Int) (x2 : Int)))]) ∧ Below w.heap.size w w' := fun w => by
    have := times_sz x2 y2 w (by omega) (by omega)
    rw [szN_comm] at this; exact this
  have HT1 := Lib.hid T1
  have HT2 := Lib.hid T2
  have na : IntKind.i64.wrap (-A1) = -A1 := IntWalk.i64_in _ (by omega)
  have nb : IntKind.i64.wrap (-B1) = -B1 := IntWalk.i64_in _ (by omega)
  obtain ⟨Z1, hZ1⟩ : ∃ Z, szN A1 B1 = Z := ⟨_, rfl⟩
  obtain ⟨Z2, hZ2⟩ : ∃ Z, szN (y2 : Int) (x2 : Int) = Z := ⟨_, rfl⟩
  rw [hZ1] at hs1 HT1 
  rw [hZ2] at hs2 HT2 
  have S1 : ∀ w, Calls Try.prog 48 #[.agg #[.int .u64 (hiW Z1), .int .u64 (loW Z1)]] w fun e w' => e = .returned (.tuple #[.int .i64 (ovI false Z1), .bool false]) ∧ Below w.heap.size w w' := fun w => by have := small_any Z1 w; rw [hs1] at this; exact this
  have S2 : ∀ w, Calls Try.prog 48 #[.agg #[.int .u64 (hiW Z2), .int .u64 (loW Z2)]] w fun e w' => e = .returned (.tuple #[.int .i64 (ovI false Z2), .bool false]) ∧ Below w.heap.size w w' := fun w => by have := small_any Z2 w; rw [hs2] at this; exact this
  have HS1 := Lib.hid S1
  have HS2 := Lib.hid S2
  have hnew := At2.new ((w.alloc (.cells #[.int .i64 n, .int .i64 d] 24)).alloc (.cells #[.int .i64 p, .int .i64 q] 24)) (.int .i64 0) (.int .i64 0) 24
  simp only [World.size_alloc] at hnew
  have hargs := ((At2.new w (.int .i64 n) (.int .i64 d) 24).alloc (.cells #[.int .i64 p, .int .i64 q] 24)).alloc (.cells #[.int .i64 0, .int .i64 0] 24)
  have hargt := (At2.new (w.alloc (.cells #[.int .i64 n, .int .i64 d] 24)) (.int .i64 p) (.int .i64 q) 24).alloc (.cells #[.int .i64 0, .int .i64 0] 24)
  simp only [World.size_alloc] at hargt
  have b0 : Below w.heap.size w (((w.alloc (.cells #[.int .i64 n, .int .i64 d] 24)).alloc (.cells #[.int .i64 p, .int .i64 q] 24)).alloc (.cells #[.int .i64 0, .int .i64 0] 24)) := ((Below.refl _ _).alloc (Nat.le_refl _) _).alloc (by simp) _ |>.alloc (by simp; omega) _
  have HB0 := Lib.hid b0
  have HR0 := Lib.hid hnew
  have HA0 := Lib.hid hargs
  have HC0 := Lib.hid hargt
  clear T1 T2 S1 S2 hZ1 hZ2 hs1 hs2 hnew hargs hargt b0
  go_enter Try.func30, Try.ntmps30
  go_wp2_with fail
  refine (M1.out _).mono ?_; rintro e w1 ⟨rfl, hb1⟩
  have s1 := hb1.size
  simp at s1
  have HR1 := Lib.hid ((HR0.out.below hb1 (by simp)).alloc (.cells #[.int .i64 A1, .int .i64 (x2 : Int)] 24))
  have HA1 := Lib.hid ((HA0.out.below hb1 (by simp; omega)).alloc (.cells #[.int .i64 A1, .int .i64 (x2 : Int)] 24))
  have HC1 := Lib.hid ((HC0.out.below hb1 (by simp)).alloc (.cells #[.int .i64 A1, .int .i64 (x2 : Int)] 24))
  have HX1 := Lib.hid (At2.new w1 (.int .i64 A1) (.int .i64 (x2 : Int)) 24)
  have HB1 := Lib.hid ((HB0.out.trans (hb1.mono (by simp; omega))).alloc (by omega) (.cells #[.int .i64 A1, .int .i64 (x2 : Int)] 24))
  clear hb1
  obtain ⟨c0, c1, _, _⟩ := HA1.out
  obtain ⟨c2, c3, _, _⟩ := HC1.out
  go_wp2_with fail
  refine (M2.out _).mono ?_; rintro e w2 ⟨rfl, hb2⟩
  have s2 := hb2.size
  simp at s2
  have HR2 := Lib.hid ((HR1.out.below hb2 (by simp; omega)).alloc (.cells #[.int .i64 B1, .int .i64 (y2 : Int)] 24))
  have HX2 := Lib.hid ((HX1.out.below hb2 (by simp)).alloc (.cells #[.int .i64 B1, .int .i64 (y2 : Int)] 24))
  have HY2 := Lib.hid (At2.new w2 (.int .i64 B1) (.int .i64 (y2 : Int)) 24)
  have HB2 := Lib.hid ((HB1.out.trans (hb2.mono (by simp; omega))).alloc (by omega) (.cells #[.int .i64 B1, .int .i64 (y2 : Int)] 24))
  clear hb2 c0 c1 c2 c3
  obtain ⟨x0, x1, _, _⟩ := HX2.out
  obtain ⟨y0, y1, _, _⟩ := HY2.out
  obtain ⟨r0, r1, _, _⟩ := HR2.out
  go_wp2_with fail
  generalize hW2 : w2.alloc (.cells #[.int .i64 B1, .int .i64 (y2 : Int)] 24) = W2 at x0 x1 y0 y1 r0 r1 ⊢
  rw [hW2] at HB2 HR2
  have z1 : w1.heap.size < w2.heap.size := by omega
  have z2 : w.heap.size + 1 + 1 < w1.heap.size := by omega
  have MX1 := Lib.hid (fun w => l00Max_size A1 (-A1) w rfl)
  have MX2 := Lib.hid (fun w => l00Max_size B1 (-B1) w rfl)
  clear hW2 HX2 HY2 HX1 HC1 HA1 HC0 HA0
  go_region_held3 (fun w' => w'.cell? ⟨w1.heap.size, 0, none⟩ = some (.int .i64 A1) ∧ w'.cell? ⟨w1.heap.size, 1, none⟩ = some (.int .i64 (x2 : Int)) ∧ w'.cell? ⟨w2.heap.size, 0, none⟩ = some (.int .i64 B1) ∧ w'.cell? ⟨w2.heap.size, 1, none⟩ = some (.int .i64 (y2 : Int)) ∧ w'.cell? ⟨w.heap.size + 1 + 1, 0, none⟩ = some (.int .i64 0) ∧ w'.cell? ⟨w.heap.size + 1 + 1, 1, none⟩ = some (.int .i64 0)) (first | (go_keep; done) | ((try dsimp only); (repeat' apply And.intro) <;> assumption) | (go_split_ands; (refine ⟨?_, ?_, ?_, ?_, ?_, ?_⟩ <;> (apply cell_kept <;> assumption))) | ((try dsimp only); (repeat' apply And.intro) <;> (first | assumption | (go_keep; done) | (apply cell_kept <;> assumption)))) (first | (go_at_call 46; first | ((with_reducible refine (MX1.out _).mono ?_); rintro e w' ⟨rfl, rfl⟩) | ((with_reducible refine (MX2.out _).mono ?_); rintro e w' ⟨rfl, rfl⟩)) | (go_at_call 49; refine (HT1.out _).mono ?_; rintro e wa ⟨rfl, hba⟩) | (go_at_call 48; refine (HS1.out _).mono ?_; rintro e wb ⟨rfl, hbb⟩))
  go_split_ands
  have x0a : wb.cell? ⟨w1.heap.size, 0, none⟩ = some (.int .i64 A1) := by assumption
  have x1a : wb.cell? ⟨w1.heap.size, 1, none⟩ = some (.int .i64 (x2 : Int)) := by assumption
  have y0a : wb.cell? ⟨w2.heap.size, 0, none⟩ = some (.int .i64 B1) := by assumption
  have y1a : wb.cell? ⟨w2.heap.size, 1, none⟩ = some (.int .i64 (y2 : Int)) := by assumption
  have ta := (HR2.out.drew).below hba HR2.out.drew.lt
  have tb := ta.below hbb ta.lt
  have hB2 := HB2.out.drew
  have hB3 := hB2.trans (hba.mono hB2.size)
  have HB4 := Lib.hid (hB3.trans (hbb.mono hB3.size))
  have HTB := Lib.hid tb
  clear ta tb hB2 hB3 hba hbb x0 x1 y0 y1 r0 r1
  go_wp2_with fail
  refine (HT2.out _).mono ?_; rintro e wc ⟨rfl, hbc⟩
  have x0b := cell_kept hbc x0a
  have y0b := cell_kept hbc y0a
  have HTC := Lib.hid (HTB.out.below hbc HTB.out.lt)
  have HB5 := Lib.hid (HB4.out.trans (hbc.mono HB4.out.size))
  clear hbc x0a x1a y0a y1a
  go_wp2_with fail
  refine (HS2.out _).mono ?_; rintro e wd ⟨rfl, hbd⟩
  have x0c := cell_kept hbd x0b
  have y0c := cell_kept hbd y0b
  have HTD := Lib.hid (HTC.out.below hbd HTC.out.lt)
  have HB6 := Lib.hid (HB5.out.trans (hbd.mono HB5.out.size))
  obtain ⟨e0, e1, e2, e3⟩ := HTD.out
  clear hbd x0b y0b
  go_wp2
  refine bodyPost_ret (v := .tuple #[.agg #[.int .i64 0, .int .i64 0], .bool false]) (by simp [results, Try.results30, go_sem, *]) rfl ⟨rfl, ?_⟩
  exact (HB6.out.setCell (by simp; omega) _).setCell (by simp; omega) _

set_option maxHeartbeats 4000000 in
set_option maxRecDepth 100000 in
theorem fmulX_ft (n d p q A1 A2 B1 B2 : Int) (w : World) (a1 : -1000000000000000000 ≤ A1 ∧ A1 ≤ 1000000000000000000 ∧ 0 ≤ A2 ∧ A2 ≤ 1000000000000000000) (b1 : -1000000000000000000 ≤ B1 ∧ B1 ≤ 1000000000000000000 ∧ 0 ≤ B2 ∧ B2 ≤ 1000000000000000000)
    (M1 : Hid (∀ w, Calls Try.prog 47 #[.int .i64 n, .int .i64 q] w fun e w' => e = .returned (.agg #[.int .i64 A1, .int .i64 A2]) ∧ Below w.heap.size w w'))
    (M2 : Hid (∀ w, Calls Try.prog 47 #[.int .i64 p, .int .i64 d] w fun e w' => e = .returned (.agg #[.int .i64 B1, .int .i64 B2]) ∧ Below w.heap.size w w'))
    (hs1 : ovB (szN A1 B1) = false) (hs2 : ovB (szN B2 A2) = true)  :
    Calls Try.prog 30 #[.agg #[.int .i64 n, .int .i64 d], .agg #[.int .i64 p, .int .i64 q]] w fun e w' => e = .returned (.tuple #[.agg #[.int .i64 0, .int .i64 0], .bool false]) ∧ Below w.heap.size w w' := by
  obtain ⟨x2, rfl⟩ := Int.eq_ofNat_of_zero_le a1.2.2.1
  obtain ⟨y2, rfl⟩ := Int.eq_ofNat_of_zero_le b1.2.2.1
  have T1 : ∀ w, Calls Try.prog 49 #[.int .i64 (A1.natAbs : Int), .int .i64 (B1.natAbs : Int)] w fun e w' => e = .returned (.agg #[.int .u64 (hiW (szN A1 B1)), .int .u64 (loW (szN A1 B1))]) ∧ Below w.heap.size w w' := fun w => by
    have := times_sz A1.natAbs B1.natAbs w (by omega) (by omega)
    rw [szN_abs] at this; exact this
  have T2 : ∀ w, Calls Try.prog 49 #[.int .i64 (x2 : Int), .int .i64 (y2 : Int)] w fun e w' => e = .returned (.agg #[.int .u64 (hiW (szN (y2 : Int) (x2 : Int))), .int .u64 (loW (szN (y2 : Int) (x2 : Int)))]) ∧ Below w.heap.size w w' := fun w => by
    have := times_sz x2 y2 w (by omega) (by omega)
    rw [szN_comm] at this; exact this
  have HT1 := Lib.hid T1
  have HT2 := Lib.hid T2
  have na : IntKind.i64.wrap (-A1) = -A1 := IntWalk.i64_in _ (by omega)
  have nb : IntKind.i64.wrap (-B1) = -B1 := IntWalk.i64_in _ (by omega)
  obtain ⟨Z1, hZ1⟩ : ∃ Z, szN A1 B1 = Z := ⟨_, rfl⟩
  obtain ⟨Z2, hZ2⟩ : ∃ Z, szN (y2 : Int) (x2 : Int) = Z := ⟨_, rfl⟩
  rw [hZ1] at hs1 HT1 
  rw [hZ2] at hs2 HT2 
  have S1 : ∀ w, Calls Try.prog 48 #[.agg #[.int .u64 (hiW Z1), .int .u64 (loW Z1)]] w fun e w' => e = .returned (.tuple #[.int .i64 (ovI false Z1), .bool false]) ∧ Below w.heap.size w w' := fun w => by have := small_any Z1 w; rw [hs1] at this; exact this
  have S2 : ∀ w, Calls Try.prog 48 #[.agg #[.int .u64 (hiW Z2), .int .u64 (loW Z2)]] w fun e w' => e = .returned (.tuple #[.int .i64 (ovI false Z2), .bool true]) ∧ Below w.heap.size w w' := fun w => by have := small_any Z2 w; rw [hs2] at this; exact this
  have HS1 := Lib.hid S1
  have HS2 := Lib.hid S2
  have hnew := At2.new ((w.alloc (.cells #[.int .i64 n, .int .i64 d] 24)).alloc (.cells #[.int .i64 p, .int .i64 q] 24)) (.int .i64 0) (.int .i64 0) 24
  simp only [World.size_alloc] at hnew
  have hargs := ((At2.new w (.int .i64 n) (.int .i64 d) 24).alloc (.cells #[.int .i64 p, .int .i64 q] 24)).alloc (.cells #[.int .i64 0, .int .i64 0] 24)
  have hargt := (At2.new (w.alloc (.cells #[.int .i64 n, .int .i64 d] 24)) (.int .i64 p) (.int .i64 q) 24).alloc (.cells #[.int .i64 0, .int .i64 0] 24)
  simp only [World.size_alloc] at hargt
  have b0 : Below w.heap.size w (((w.alloc (.cells #[.int .i64 n, .int .i64 d] 24)).alloc (.cells #[.int .i64 p, .int .i64 q] 24)).alloc (.cells #[.int .i64 0, .int .i64 0] 24)) := ((Below.refl _ _).alloc (Nat.le_refl _) _).alloc (by simp) _ |>.alloc (by simp; omega) _
  have HB0 := Lib.hid b0
  have HR0 := Lib.hid hnew
  have HA0 := Lib.hid hargs
  have HC0 := Lib.hid hargt
  clear T1 T2 S1 S2 hZ1 hZ2 hs1 hs2 hnew hargs hargt b0
  go_enter Try.func30, Try.ntmps30
  go_wp2_with fail
  refine (M1.out _).mono ?_; rintro e w1 ⟨rfl, hb1⟩
  have s1 := hb1.size
  simp at s1
  have HR1 := Lib.hid ((HR0.out.below hb1 (by simp)).alloc (.cells #[.int .i64 A1, .int .i64 (x2 : Int)] 24))
  have HA1 := Lib.hid ((HA0.out.below hb1 (by simp; omega)).alloc (.cells #[.int .i64 A1, .int .i64 (x2 : Int)] 24))
  have HC1 := Lib.hid ((HC0.out.below hb1 (by simp)).alloc (.cells #[.int .i64 A1, .int .i64 (x2 : Int)] 24))
  have HX1 := Lib.hid (At2.new w1 (.int .i64 A1) (.int .i64 (x2 : Int)) 24)
  have HB1 := Lib.hid ((HB0.out.trans (hb1.mono (by simp; omega))).alloc (by omega) (.cells #[.int .i64 A1, .int .i64 (x2 : Int)] 24))
  clear hb1
  obtain ⟨c0, c1, _, _⟩ := HA1.out
  obtain ⟨c2, c3, _, _⟩ := HC1.out
  go_wp2_with fail
  refine (M2.out _).mono ?_; rintro e w2 ⟨rfl, hb2⟩
  have s2 := hb2.size
  simp at s2
  have HR2 := Lib.hid ((HR1.out.below hb2 (by simp; omega)).alloc (.cells #[.int .i64 B1, .int .i64 (y2 : Int)] 24))
  have HX2 := Lib.hid ((HX1.out.below hb2 (by simp)).alloc (.cells #[.int .i64 B1, .int .i64 (y2 : Int)] 24))
  have HY2 := Lib.hid (At2.new w2 (.int .i64 B1) (.int .i64 (y2 : Int)) 24)
  have HB2 := Lib.hid ((HB1.out.trans (hb2.mono (by simp; omega))).alloc (by omega) (.cells #[.int .i64 B1, .int .i64 (y2 : Int)] 24))
  clear hb2 c0 c1 c2 c3
  obtain ⟨x0, x1, _, _⟩ := HX2.out
  obtain ⟨y0, y1, _, _⟩ := HY2.out
  obtain ⟨r0, r1, _, _⟩ := HR2.out
  go_wp2_with fail
  generalize hW2 : w2.alloc (.cells #[.int .i64 B1, .int .i64 (y2 : Int)] 24) = W2 at x0 x1 y0 y1 r0 r1 ⊢
  rw [hW2] at HB2 HR2
  have z1 : w1.heap.size < w2.heap.size := by omega
  have z2 : w.heap.size + 1 + 1 < w1.heap.size := by omega
  have MX1 := Lib.hid (fun w => l00Max_size A1 (-A1) w rfl)
  have MX2 := Lib.hid (fun w => l00Max_size B1 (-B1) w rfl)
  clear hW2 HX2 HY2 HX1 HC1 HA1 HC0 HA0
  go_region_held3 (fun w' => w'.cell? ⟨w1.heap.size, 0, none⟩ = some (.int .i64 A1) ∧ w'.cell? ⟨w1.heap.size, 1, none⟩ = some (.int .i64 (x2 : Int)) ∧ w'.cell? ⟨w2.heap.size, 0, none⟩ = some (.int .i64 B1) ∧ w'.cell? ⟨w2.heap.size, 1, none⟩ = some (.int .i64 (y2 : Int)) ∧ w'.cell? ⟨w.heap.size + 1 + 1, 0, none⟩ = some (.int .i64 0) ∧ w'.cell? ⟨w.heap.size + 1 + 1, 1, none⟩ = some (.int .i64 0)) (first | (go_keep; done) | ((try dsimp only); (repeat' apply And.intro) <;> assumption) | (go_split_ands; (refine ⟨?_, ?_, ?_, ?_, ?_, ?_⟩ <;> (apply cell_kept <;> assumption))) | ((try dsimp only); (repeat' apply And.intro) <;> (first | assumption | (go_keep; done) | (apply cell_kept <;> assumption)))) (first | (go_at_call 46; first | ((with_reducible refine (MX1.out _).mono ?_); rintro e w' ⟨rfl, rfl⟩) | ((with_reducible refine (MX2.out _).mono ?_); rintro e w' ⟨rfl, rfl⟩)) | (go_at_call 49; refine (HT1.out _).mono ?_; rintro e wa ⟨rfl, hba⟩) | (go_at_call 48; refine (HS1.out _).mono ?_; rintro e wb ⟨rfl, hbb⟩))
  go_split_ands
  have x0a : wb.cell? ⟨w1.heap.size, 0, none⟩ = some (.int .i64 A1) := by assumption
  have x1a : wb.cell? ⟨w1.heap.size, 1, none⟩ = some (.int .i64 (x2 : Int)) := by assumption
  have y0a : wb.cell? ⟨w2.heap.size, 0, none⟩ = some (.int .i64 B1) := by assumption
  have y1a : wb.cell? ⟨w2.heap.size, 1, none⟩ = some (.int .i64 (y2 : Int)) := by assumption
  have ta := (HR2.out.drew).below hba HR2.out.drew.lt
  have tb := ta.below hbb ta.lt
  have hB2 := HB2.out.drew
  have hB3 := hB2.trans (hba.mono hB2.size)
  have HB4 := Lib.hid (hB3.trans (hbb.mono hB3.size))
  have HTB := Lib.hid tb
  clear ta tb hB2 hB3 hba hbb x0 x1 y0 y1 r0 r1
  go_wp2_with fail
  refine (HT2.out _).mono ?_; rintro e wc ⟨rfl, hbc⟩
  have x0b := cell_kept hbc x0a
  have y0b := cell_kept hbc y0a
  have HTC := Lib.hid (HTB.out.below hbc HTB.out.lt)
  have HB5 := Lib.hid (HB4.out.trans (hbc.mono HB4.out.size))
  clear hbc x0a x1a y0a y1a
  go_wp2_with fail
  refine (HS2.out _).mono ?_; rintro e wd ⟨rfl, hbd⟩
  have x0c := cell_kept hbd x0b
  have y0c := cell_kept hbd y0b
  have HTD := Lib.hid (HTC.out.below hbd HTC.out.lt)
  have HB6 := Lib.hid (HB5.out.trans (hbd.mono HB5.out.size))
  obtain ⟨e0, e1, e2, e3⟩ := HTD.out
  clear hbd x0b y0b
  go_wp2
  refine bodyPost_ret (v := .tuple #[.agg #[.int .i64 0, .int .i64 0], .bool false]) (by simp [results, Try.results30, go_sem, *]) rfl ⟨rfl, ?_⟩
  exact (HB6.out.setCell (by simp; omega) _).setCell (by simp; omega) _

set_option maxHeartbeats 4000000 in
set_option maxRecDepth 100000 in
theorem fmulX_tf (n d p q A1 A2 B1 B2 : Int) (w : World) (a1 : -1000000000000000000 ≤ A1 ∧ A1 ≤ 1000000000000000000 ∧ 0 ≤ A2 ∧ A2 ≤ 1000000000000000000) (b1 : -1000000000000000000 ≤ B1 ∧ B1 ≤ 1000000000000000000 ∧ 0 ≤ B2 ∧ B2 ≤ 1000000000000000000)
    (M1 : Hid (∀ w, Calls Try.prog 47 #[.int .i64 n, .int .i64 q] w fun e w' => e = .returned (.agg #[.int .i64 A1, .int .i64 A2]) ∧ Below w.heap.size w w'))
    (M2 : Hid (∀ w, Calls Try.prog 47 #[.int .i64 p, .int .i64 d] w fun e w' => e = .returned (.agg #[.int .i64 B1, .int .i64 B2]) ∧ Below w.heap.size w w'))
    (hs1 : ovB (szN A1 B1) = true) (hs2 : ovB (szN B2 A2) = false)  :
    Calls Try.prog 30 #[.agg #[.int .i64 n, .int .i64 d], .agg #[.int .i64 p, .int .i64 q]] w fun e w' => e = .returned (.tuple #[.agg #[.int .i64 0, .int .i64 0], .bool false]) ∧ Below w.heap.size w w' := by
  obtain ⟨x2, rfl⟩ := Int.eq_ofNat_of_zero_le a1.2.2.1
  obtain ⟨y2, rfl⟩ := Int.eq_ofNat_of_zero_le b1.2.2.1
  have T1 : ∀ w, Calls Try.prog 49 #[.int .i64 (A1.natAbs : Int), .int .i64 (B1.natAbs : Int)] w fun e w' => e = .returned (.agg #[.int .u64 (hiW (szN A1 B1)), .int .u64 (loW (szN A1 B1))]) ∧ Below w.heap.size w w' := fun w => by
    have := times_sz A1.natAbs B1.natAbs w (by omega) (by omega)
    rw [szN_abs] at this; exact this
  have T2 : ∀ w, Calls Try.prog 49 #[.int .i64 (x2 : Int), .int .i64 (y2 : Int)] w fun e w' => e = .returned (.agg #[.int .u64 (hiW (szN (y2 : Int) (x2 : Int))), .int .u64 (loW (szN (y2 : Int) (x2 : Int)))]) ∧ Below w.heap.size w w' := fun w => by
    have := times_sz x2 y2 w (by omega) (by omega)
    rw [szN_comm] at this; exact this
  have HT1 := Lib.hid T1
  have HT2 := Lib.hid T2
  have na : IntKind.i64.wrap (-A1) = -A1 := IntWalk.i64_in _ (by omega)
  have nb : IntKind.i64.wrap (-B1) = -B1 := IntWalk.i64_in _ (by omega)
  obtain ⟨Z1, hZ1⟩ : ∃ Z, szN A1 B1 = Z := ⟨_, rfl⟩
  obtain ⟨Z2, hZ2⟩ : ∃ Z, szN (y2 : Int) (x2 : Int) = Z := ⟨_, rfl⟩
  rw [hZ1] at hs1 HT1 
  rw [hZ2] at hs2 HT2 
  have S1 : ∀ w, Calls Try.prog 48 #[.agg #[.int .u64 (hiW Z1), .int .u64 (loW Z1)]] w fun e w' => e = .returned (.tuple #[.int .i64 (ovI false Z1), .bool true]) ∧ Below w.heap.size w w' := fun w => by have := small_any Z1 w; rw [hs1] at this; exact this
  have S2 : ∀ w, Calls Try.prog 48 #[.agg #[.int .u64 (hiW Z2), .int .u64 (loW Z2)]] w fun e w' => e = .returned (.tuple #[.int .i64 (ovI false Z2), .bool false]) ∧ Below w.heap.size w w' := fun w => by have := small_any Z2 w; rw [hs2] at this; exact this
  have HS1 := Lib.hid S1
  have HS2 := Lib.hid S2
  have hnew := At2.new ((w.alloc (.cells #[.int .i64 n, .int .i64 d] 24)).alloc (.cells #[.int .i64 p, .int .i64 q] 24)) (.int .i64 0) (.int .i64 0) 24
  simp only [World.size_alloc] at hnew
  have hargs := ((At2.new w (.int .i64 n) (.int .i64 d) 24).alloc (.cells #[.int .i64 p, .int .i64 q] 24)).alloc (.cells #[.int .i64 0, .int .i64 0] 24)
  have hargt := (At2.new (w.alloc (.cells #[.int .i64 n, .int .i64 d] 24)) (.int .i64 p) (.int .i64 q) 24).alloc (.cells #[.int .i64 0, .int .i64 0] 24)
  simp only [World.size_alloc] at hargt
  have b0 : Below w.heap.size w (((w.alloc (.cells #[.int .i64 n, .int .i64 d] 24)).alloc (.cells #[.int .i64 p, .int .i64 q] 24)).alloc (.cells #[.int .i64 0, .int .i64 0] 24)) := ((Below.refl _ _).alloc (Nat.le_refl _) _).alloc (by simp) _ |>.alloc (by simp; omega) _
  have HB0 := Lib.hid b0
  have HR0 := Lib.hid hnew
  have HA0 := Lib.hid hargs
  have HC0 := Lib.hid hargt
  clear T1 T2 S1 S2 hZ1 hZ2 hs1 hs2 hnew hargs hargt b0
  go_enter Try.func30, Try.ntmps30
  go_wp2_with fail
  refine (M1.out _).mono ?_; rintro e w1 ⟨rfl, hb1⟩
  have s1 := hb1.size
  simp at s1
  have HR1 := Lib.hid ((HR0.out.below hb1 (by simp)).alloc (.cells #[.int .i64 A1, .int .i64 (x2 : Int)] 24))
  have HA1 := Lib.hid ((HA0.out.below hb1 (by simp; omega)).alloc (.cells #[.int .i64 A1, .int .i64 (x2 : Int)] 24))
  have HC1 := Lib.hid ((HC0.out.below hb1 (by simp)).alloc (.cells #[.int .i64 A1, .int .i64 (x2 : Int)] 24))
  have HX1 := Lib.hid (At2.new w1 (.int .i64 A1) (.int .i64 (x2 : Int)) 24)
  have HB1 := Lib.hid ((HB0.out.trans (hb1.mono (by simp; omega))).alloc (by omega) (.cells #[.int .i64 A1, .int .i64 (x2 : Int)] 24))
  clear hb1
  obtain ⟨c0, c1, _, _⟩ := HA1.out
  obtain ⟨c2, c3, _, _⟩ := HC1.out
  go_wp2_with fail
  refine (M2.out _).mono ?_; rintro e w2 ⟨rfl, hb2⟩
  have s2 := hb2.size
  simp at s2
  have HR2 := Lib.hid ((HR1.out.below hb2 (by simp; omega)).alloc (.cells #[.int .i64 B1, .int .i64 (y2 : Int)] 24))
  have HX2 := Lib.hid ((HX1.out.below hb2 (by simp)).alloc (.cells #[.int .i64 B1, .int .i64 (y2 : Int)] 24))
  have HY2 := Lib.hid (At2.new w2 (.int .i64 B1) (.int .i64 (y2 : Int)) 24)
  have HB2 := Lib.hid ((HB1.out.trans (hb2.mono (by simp; omega))).alloc (by omega) (.cells #[.int .i64 B1, .int .i64 (y2 : Int)] 24))
  clear hb2 c0 c1 c2 c3
  obtain ⟨x0, x1, _, _⟩ := HX2.out
  obtain ⟨y0, y1, _, _⟩ := HY2.out
  obtain ⟨r0, r1, _, _⟩ := HR2.out
  go_wp2_with fail
  generalize hW2 : w2.alloc (.cells #[.int .i64 B1, .int .i64 (y2 : Int)] 24) = W2 at x0 x1 y0 y1 r0 r1 ⊢
  rw [hW2] at HB2 HR2
  have z1 : w1.heap.size < w2.heap.size := by omega
  have z2 : w.heap.size + 1 + 1 < w1.heap.size := by omega
  have MX1 := Lib.hid (fun w => l00Max_size A1 (-A1) w rfl)
  have MX2 := Lib.hid (fun w => l00Max_size B1 (-B1) w rfl)
  clear hW2 HX2 HY2 HX1 HC1 HA1 HC0 HA0
  go_region_held3 (fun w' => w'.cell? ⟨w1.heap.size, 0, none⟩ = some (.int .i64 A1) ∧ w'.cell? ⟨w1.heap.size, 1, none⟩ = some (.int .i64 (x2 : Int)) ∧ w'.cell? ⟨w2.heap.size, 0, none⟩ = some (.int .i64 B1) ∧ w'.cell? ⟨w2.heap.size, 1, none⟩ = some (.int .i64 (y2 : Int)) ∧ w'.cell? ⟨w.heap.size + 1 + 1, 0, none⟩ = some (.int .i64 0) ∧ w'.cell? ⟨w.heap.size + 1 + 1, 1, none⟩ = some (.int .i64 0)) (first | (go_keep; done) | ((try dsimp only); (repeat' apply And.intro) <;> assumption) | (go_split_ands; (refine ⟨?_, ?_, ?_, ?_, ?_, ?_⟩ <;> (apply cell_kept <;> assumption))) | ((try dsimp only); (repeat' apply And.intro) <;> (first | assumption | (go_keep; done) | (apply cell_kept <;> assumption)))) (first | (go_at_call 46; first | ((with_reducible refine (MX1.out _).mono ?_); rintro e w' ⟨rfl, rfl⟩) | ((with_reducible refine (MX2.out _).mono ?_); rintro e w' ⟨rfl, rfl⟩)) | (go_at_call 49; refine (HT1.out _).mono ?_; rintro e wa ⟨rfl, hba⟩) | (go_at_call 48; refine (HS1.out _).mono ?_; rintro e wb ⟨rfl, hbb⟩))
  go_split_ands
  have x0a : wb.cell? ⟨w1.heap.size, 0, none⟩ = some (.int .i64 A1) := by assumption
  have x1a : wb.cell? ⟨w1.heap.size, 1, none⟩ = some (.int .i64 (x2 : Int)) := by assumption
  have y0a : wb.cell? ⟨w2.heap.size, 0, none⟩ = some (.int .i64 B1) := by assumption
  have y1a : wb.cell? ⟨w2.heap.size, 1, none⟩ = some (.int .i64 (y2 : Int)) := by assumption
  have ta := (HR2.out.drew).below hba HR2.out.drew.lt
  have tb := ta.below hbb ta.lt
  have hB2 := HB2.out.drew
  have hB3 := hB2.trans (hba.mono hB2.size)
  have HB4 := Lib.hid (hB3.trans (hbb.mono hB3.size))
  have HTB := Lib.hid tb
  clear ta tb hB2 hB3 hba hbb x0 x1 y0 y1 r0 r1
  go_wp2_with fail
  refine (HT2.out _).mono ?_; rintro e wc ⟨rfl, hbc⟩
  have x0b := cell_kept hbc x0a
  have y0b := cell_kept hbc y0a
  have HTC := Lib.hid (HTB.out.below hbc HTB.out.lt)
  have HB5 := Lib.hid (HB4.out.trans (hbc.mono HB4.out.size))
  clear hbc x0a x1a y0a y1a
  go_wp2_with fail
  refine (HS2.out _).mono ?_; rintro e wd ⟨rfl, hbd⟩
  have x0c := cell_kept hbd x0b
  have y0c := cell_kept hbd y0b
  have HTD := Lib.hid (HTC.out.below hbd HTC.out.lt)
  have HB6 := Lib.hid (HB5.out.trans (hbd.mono HB5.out.size))
  obtain ⟨e0, e1, e2, e3⟩ := HTD.out
  clear hbd x0b y0b
  go_wp2
  refine bodyPost_ret (v := .tuple #[.agg #[.int .i64 0, .int .i64 0], .bool false]) (by simp [results, Try.results30, go_sem, *]) rfl ⟨rfl, ?_⟩
  exact (HB6.out.setCell (by simp; omega) _).setCell (by simp; omega) _
end Go.Proofs.Ytomdoamfdidghaa
