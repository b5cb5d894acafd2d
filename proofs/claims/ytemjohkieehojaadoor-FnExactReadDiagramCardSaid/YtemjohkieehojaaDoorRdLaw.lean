/- ReadDiagram: the law's walk. -/
import Derived.Test.YtemjohkieehojaaDoorRdI
import Derived.Test.YtemjohkieehojaaDoorRdS
import Derived.Test.YtemjohkieehojaaDoorMarksG
import Derived.Test.YtemjohkieehojaaDoorMarksB
import Derived.Test.YtemjohkieehojaaDoorDoorE
namespace Go.Proofs.YtemjohkieehojaaDoor
open Go.RowKit
set_option linter.unusedVariables false
set_option linter.unusedSimpArgs false
theorem ansL_len (T : List UInt8) : (ansL T).length ≤ 24 := by
  unfold ansL dgA
  cases hp : pcs 44 T with
  | nil => exact absurd hp (pcs_ne 44 _)
  | cons h r =>
    dsimp only
    by_cases hc : dgC h r
    · rw [if_pos hc]
      have := (dia_at ((dg_md hp).2 hc).1).2.1
      simpa using this
    · rw [if_neg hc]; simp
theorem grownA {w w1 : World} {o : Obj} {row : Option Nat} (h : (w.alloc o).grownBy w1 row) : w.grownBy w1 row :=
  ⟨h.os, h.tape, h.output, Nat.le_trans (by simp) h.size, fun k hk hne => (h.block k (by rw [World.size_alloc]; omega) hne).trans (Below.heap_alloc w o k hk)⟩
theorem markD (B : Nat) (e : Int) (a : Option Addr) (n cap : Nat) (F : List Int) (w : World) (h : Recs w B (.slice a n cap) n F) (hB : B ≤ w.heap.size) (hn : n ≤ 24) :
    Calls Tryd.prog 16 #[.agg #[.int .i64 e, .slice a n cap], .int .i64 1] w fun r w' => r = .returned (.int .i64 (1 + ((n * 3 : Nat) : Int))) ∧ Recs w' B (.slice a n cap) n (seqL 1 (n * 3)) ∧ Below B w w' ∧ w.grownBy w' (Value.slice a n cap).ownBlock := by
  obtain ⟨w0, hw0⟩ : ∃ w0, w.alloc (.cells #[.int .i64 e, .slice a n cap] 32) = w0 := ⟨_, rfl⟩
  have hb0 : Below w.heap.size w w0 := by rw [← hw0]; exact (Below.refl w.heap.size w).alloc (Nat.le_refl _) _
  have h0 : Recs w0 B (.slice a n cap) n F := h.keep hb0 (Nat.le_refl _)
  have HM := Lib.hid (markBoundG_any B n _ F 1 w0 h0 (by omega) (by omega))
  have c1 : w0.cell? ⟨w.heap.size, 1, none⟩ = some (.slice a n cap) := by rw [← hw0]; simp [go_sem]
  have c0 : w0.cell? ⟨w.heap.size, 0, none⟩ = some (.int .i64 e) := by rw [← hw0]; simp [go_sem]
  have HW := Lib.hid hw0
  have HB0 := Lib.hid (hb0.mono hB)
  clear h h0 hb0
  go_enter Tryd.func16, Tryd.ntmps16
  go_wp2_with fail
  refine HM.out.mono ?_; rintro r w1 ⟨rfl, hr, hb, -, hg⟩
  have HG := Lib.hid hg
  have HR := Lib.hid hr
  have HB := Lib.hid hb
  clear hg hw0 hr hb
  go_wp2
  go_ret
  have hg9 := HG.out
  rw [← HW.out] at hg9
  exact ⟨rfl, HR.out, HB0.out.trans HB.out, grownA hg9⟩
theorem heldD (B : Nat) (e : Int) (a : Option Addr) (n cap : Nat) (w : World) (h : Recs w B (.slice a n cap) n (seqL 1 (n * 3))) (hn : n ≤ 24) :
    Calls Tryd.prog 17 #[.agg #[.int .i64 e, .slice a n cap], .int .i64 1] w fun r w' => r = .returned (.int .i64 (1 + ((n * 3 : Nat) : Int))) ∧ Below w.heap.size w w' := by
  obtain ⟨w0, hw0⟩ : ∃ w0, w.alloc (.cells #[.int .i64 e, .slice a n cap] 32) = w0 := ⟨_, rfl⟩
  have hb0 : Below w.heap.size w w0 := by rw [← hw0]; exact (Below.refl w.heap.size w).alloc (Nat.le_refl _) _
  have HM := Lib.hid (heldBoundS_any B n _ 1 w0 (h.keep hb0 (Nat.le_refl _)) (by omega) (by omega))
  have c1 : w0.cell? ⟨w.heap.size, 1, none⟩ = some (.slice a n cap) := by rw [← hw0]; simp [go_sem]
  have c0 : w0.cell? ⟨w.heap.size, 0, none⟩ = some (.int .i64 e) := by rw [← hw0]; simp [go_sem]
  have HW := Lib.hid hw0
  have HB0 := Lib.hid hb0
  have hneg : ¬ (1 : Int) + ((n * 3 : Nat) : Int) < 0 := by omega
  clear h hb0 hw0
  go_enter Tryd.func17, Tryd.ntmps17
  go_wp2_with fail
  rw [HW.out]
  refine HM.out.mono ?_; rintro r w1 ⟨rfl, rfl⟩
  go_wp2
  go_ret
  exact ⟨rfl, HB0.out⟩
theorem recs_grown {w w' : World} {B n : Nat} {v : Value} {F : List Int} {row : Option Nat} (h : Recs w B v n F) (hg : w.grownBy w' row) (hne : ∀ q, v.ownBlock = some q → row = some q → False) : Recs w' B v n F := by
  refine ⟨h.1, World.ownsRow.kept h.2 hg ?_⟩
  cases q : v.ownBlock with
  | none => exact .inl rfl
  | some b => exact .inr (fun e => hne b q e.symm)
theorem specRd_any (s : ByteArray) (w : World) (hs : s.size ≤ 1048576) (hd : DoorW w) : Calls Tryd.prog 13 #[.string s] w (RdR s w) := by
  by_cases h : s.size ≤ 500
  · exact specRd s w h hd
  · exact specRd_big s w (by omega) hs
set_option maxHeartbeats 2000000 in
set_option maxRecDepth 100000 in
theorem walk_FnExactReadDiagram (s : ByteArray) (w : World) (h_s : s.size ≤ maxLen) (mx : Int) (hmx : w.cell? ⟨0, 0, none⟩ = some (.int .i64 mx)) (hd : DoorE w) :
    Calls Tryd.prog 5 #[.string s] w fun e w' => e = .returned (.bool true) ∧ Below w.heap.size w w' := by
  by_cases l_s : (s.size : Int) ≤ 1048576
  case neg =>
    clear hd hmx
    go_enter Tryd.func5, Tryd.ntmps5
    go_wp2
    go_ret
    exact ⟨rfl, Below.refl _ _⟩
  have hdw : DoorW w := hd.1
  have HIM : Hid (∀ W, Below w.heap.size w W → Calls Tryd.prog 14 #[.string s] W (RdR s W)) := fun W hb => implRd s W (by omega) (hd.on hb) mx (cell_keptS hb hmx)
  have HSP := Lib.hid (specRd_any s w (by omega) hdw)
  have hn24 := ansL_len s.data.toList
  obtain ⟨n, hn⟩ : ∃ n, (ansL s.data.toList).length = n := ⟨_, rfl⟩
  obtain ⟨F, hF⟩ : ∃ F, fl3 (ansL s.data.toList) = F := ⟨_, rfl⟩
  obtain ⟨E, hE⟩ : ∃ E, ansE s.data.toList = E := ⟨_, rfl⟩
  obtain ⟨b, hb⟩ : ∃ b, (dgA s.data.toList).isSome = b := ⟨_, rfl⟩
  unfold RdR at HIM HSP
  rw [hn, hF, hE, hb] at HIM HSP
  rw [hn] at hn24
  have hneg : ¬ (1 : Int) + ((n * 3 : Nat) : Int) < 0 := by omega
  clear hn hF hE hb hd hdw hmx
  go_enter Tryd.func5, Tryd.ntmps5
  go_wp2_with fail
  refine HSP.out.mono ?_; rintro e w1 ⟨a1, c1, rfl, hr1, hb1⟩
  obtain ⟨w2, hw2⟩ : ∃ W, w1.alloc (.cells #[.int .i64 E, .slice a1 n c1] 32) = W := ⟨_, rfl⟩
  have HW2 := Lib.hid hw2
  have k12 : Below w1.heap.size w1 w2 := by rw [← hw2]; exact (Below.refl _ _).alloc (Nat.le_refl _) _
  have P3 : Hid (At2 w2 w1.heap.size (.int .i64 E) (.slice a1 n c1)) := by rw [Hid, ← hw2]; exact At2.new w1 _ _ _
  have R1 := Lib.hid (hr1.keep k12 (Nat.le_refl _))
  have B2 := Lib.hid (hb1.trans (k12.mono hb1.size))
  have L1 : Hid (True ∧ ∀ q, (Value.slice a1 n c1).ownBlock = some q → q < w1.heap.size) := ⟨trivial, fun q e => (World.ownsRow.lt hr1.2 q e).2⟩
  clear hw2 k12 hr1 hb1
  go_wp2_with fail
  rw [HW2.out]
  refine (HIM.out w2 B2.out).mono ?_; rintro e w3 ⟨a3, c3, rfl, hr3, hb3⟩
  obtain ⟨w4, hw4⟩ : ∃ W, w3.alloc (.cells #[.int .i64 E, .slice a3 n c3] 32) = W := ⟨_, rfl⟩
  have HW4 := Lib.hid hw4
  have k34 : Below w3.heap.size w3 w4 := by rw [← hw4]; exact (Below.refl _ _).alloc (Nat.le_refl _) _
  have k24 : Below w2.heap.size w2 w4 := hb3.trans (k34.mono hb3.size)
  have P5 : Hid (At2 w4 w3.heap.size (.int .i64 E) (.slice a3 n c3)) := by rw [Hid, ← hw4]; exact At2.new w3 _ _ _
  have P34 := Lib.hid (P3.out.below k24 P3.out.lt)
  have R14 := Lib.hid (R1.out.keep k24 (Nat.le_refl _))
  have R34 := Lib.hid (hr3.keep k34 (Nat.le_refl _))
  have B4 := Lib.hid (B2.out.trans (k24.mono B2.out.size))
  have HO3 : Hid (∀ q, (Value.slice a3 n c3).ownBlock = some q → w2.heap.size ≤ q ∧ q < w3.heap.size) := fun q e => World.ownsRow.lt hr3.2 q e
  have L3 : Hid (w1.heap.size < w2.heap.size) := P3.out.lt
  have Z24 : Hid (w2.heap.size ≤ w3.heap.size) := hb3.size
  obtain ⟨p0, p1, -, -⟩ := P34.out
  rw [← hw4] at p0 p1
  clear hw4 k34 k24 hr3 hb3
  go_wp2_with fail
  rw [HW4.out]
  refine (eqDiagram_same w2.heap.size w.heap.size E _ _ n F w4 R34.out R14.out).mono ?_; rintro e w5 ⟨rfl, hb5⟩
  have P35 := Lib.hid (P34.out.below hb5 P34.out.lt)
  have P55 := Lib.hid (P5.out.below hb5 P5.out.lt)
  have R15 := Lib.hid (R14.out.keep hb5 (Nat.le_refl _))
  have R35 := Lib.hid (R34.out.keep hb5 (Nat.le_refl _))
  have B5 := Lib.hid (B4.out.trans (hb5.mono B4.out.size))
  have Z25 : Hid (w2.heap.size ≤ w5.heap.size) := by
    have h1 := P55.out.lt
    have h2 := Z24.out
    rw [Hid]; omega
  obtain ⟨q0, q1, -, -⟩ := P55.out
  clear hb5 p0 p1
  go_wp2_with fail
  refine (markD w2.heap.size E a3 n c3 F w5 R35.out Z25.out hn24).mono ?_; rintro e w6 ⟨rfl, hr6, hb6, hg6⟩
  have P36 := Lib.hid (P35.out.grown hg6 (fun e => by have h1 := HO3.out _ e.symm; have h2 := L3.out; omega))
  have P56 := Lib.hid (P55.out.grown hg6 (fun e => by have h1 := HO3.out _ e.symm; omega))
  have R16 := Lib.hid (recs_grown R15.out hg6 (fun q e e2 => by have h1 := HO3.out _ e2; have h2 := World.ownsRow.lt R1.out.2 q e; have h3 := L1.out.2 q e; omega))
  have R36 := Lib.hid hr6
  have B6 := Lib.hid (B5.out.trans (hb6.mono B2.out.size))
  obtain ⟨q0, q1, -, -⟩ := P56.out
  clear hb6 hg6 hr6
  go_wp2_with fail
  refine (heldD w2.heap.size E a3 n c3 w6 R36.out hn24).mono ?_; rintro e w7 ⟨rfl, hb7⟩
  have P37 := Lib.hid (P36.out.below hb7 P36.out.lt)
  have P57 := Lib.hid (P56.out.below hb7 P56.out.lt)
  have R17 := Lib.hid (R16.out.keep hb7 (Nat.le_refl _))
  have R37 := Lib.hid (R36.out.keep hb7 (Nat.le_refl _))
  have B7 := Lib.hid (B6.out.trans (hb7.mono B6.out.size))
  clear hb7 q0 q1
  go_wp2_with fail
  refine (HIM.out w7 B7.out).mono ?_; rintro e w8 ⟨a8, c8, rfl, hr8, hb8⟩
  obtain ⟨w9, hw9⟩ : ∃ W, w8.alloc (.cells #[.int .i64 E, .slice a8 n c8] 32) = W := ⟨_, rfl⟩
  have HW9 := Lib.hid hw9
  have k89 : Below w8.heap.size w8 w9 := by rw [← hw9]; exact (Below.refl _ _).alloc (Nat.le_refl _) _
  have k79 : Below w7.heap.size w7 w9 := hb8.trans (k89.mono hb8.size)
  have P39 := Lib.hid (P37.out.below k79 P37.out.lt)
  have P59 := Lib.hid (P57.out.below k79 P57.out.lt)
  have R19 := Lib.hid (R17.out.keep k79 (Nat.le_refl _))
  have R39 := Lib.hid (R37.out.keep k79 (Nat.le_refl _))
  have R89 := Lib.hid (hr8.keep k89 (Nat.le_refl _))
  have B9 := Lib.hid (B7.out.trans (k79.mono B7.out.size))
  obtain ⟨p0, p1, -, -⟩ := P39.out
  rw [← hw9] at p0 p1
  clear hw9 k89 k79 hr8 hb8
  go_wp2_with fail
  rw [HW9.out]
  refine (eqDiagram_same w7.heap.size w.heap.size E _ _ n F w9 R89.out R19.out).mono ?_; rintro e w10 ⟨rfl, hb10⟩
  have P510 := Lib.hid (P59.out.below hb10 P59.out.lt)
  have R310 := Lib.hid (R39.out.keep hb10 (Nat.le_refl _))
  have B10 := Lib.hid (B9.out.trans (hb10.mono B9.out.size))
  obtain ⟨q0, q1, -, -⟩ := P510.out
  clear hb10 p0 p1
  go_wp2_with fail
  refine (heldD w2.heap.size E a3 n c3 w10 R310.out hn24).mono ?_; rintro e w11 ⟨rfl, hb11⟩
  have B11 := Lib.hid (B10.out.trans (hb11.mono B10.out.size))
  clear hb11
  go_wp2
  go_ret
  exact ⟨rfl, B11.out⟩
end Go.Proofs.YtemjohkieehojaaDoor
