/- A flow of the call's own: marked, and read again. -/
import Derived.Test.YtlobloaabghceaaMarkW
import Derived.Test.YtlobloaabghceaaMvI
namespace Go.Proofs.Ytlobloaabghceaa
open Go.RowKit
set_option linter.unusedVariables false
set_option linter.unusedSimpArgs false
/-- two rows may have changed -/
def But2 (w w' : World) (r1 r2 : Option Nat) : Prop := ∃ o wm, (w.alloc o).grownBy wm r1 ∧ wm.grownBy w' r2
theorem But2.cell {w w' : World} {r1 r2 : Option Nat} (h : But2 w w' r1 r2) {a : Addr} {v : Value} (hc : w.cell? a = some v) (h1 : some a.block ≠ r1) (h2 : some a.block ≠ r2) : w'.cell? a = some v := by
  obtain ⟨o, wm, g1, g2⟩ := h
  exact g2.cell (g1.cell (cell_alloc_kept hc) h1) h2
theorem But2.row {w w' : World} {r1 r2 : Option Nat} (h : But2 w w' r1 r2) {B e s n : Nat} {v : Value} {xs : List Value} (hr : w.ownsRow B e s v n xs) (h1 : v.ownBlock = none ∨ v.ownBlock ≠ r1) (h2 : v.ownBlock = none ∨ v.ownBlock ≠ r2) : w'.ownsRow B e s v n xs := by
  obtain ⟨o, wm, g1, g2⟩ := h
  exact World.ownsRow.kept (World.ownsRow.kept (World.ownsRow.alloc hr o) g1 h1) g2 h2
set_option maxHeartbeats 1000000 in
theorem markFlow_any (B : Nat) (da : Option Addr) (dn dc : Nat) (ds : List Int) (wa : Option Addr) (wn wc : Nat) (F : List Int) (w : World) (h : Fl w B da dn dc ds wa wn wc F) (hdl : dn ≤ 1048576) (hwl : wn ≤ 1048576) (hB : B ≤ w.heap.size) :
    Calls Try.prog 18 #[.agg #[.slice da dn dc, .slice wa wn wc], .int .i64 1] w fun e w' => e = .returned (.int .i64 (1 + (dn : Int) + ((wn * 3 : Nat) : Int))) ∧ Fl w' B da dn dc (seqL 1 dn) wa wn wc (seqL (1 + (dn : Int)) (wn * 3)) ∧ Below B w w' ∧ w.heap.size ≤ w'.heap.size ∧ But2 w w' (Value.slice da dn dc).ownBlock (Value.slice wa wn wc).ownBlock := by
  obtain rfl := h.n
  obtain ⟨w0, hw0⟩ : ∃ w0, w.alloc (.cells #[.slice da ds.length dc, .slice wa wn wc] 31) = w0 := ⟨_, rfl⟩
  have hb0 : Below w.heap.size w w0 := by rw [← hw0]; exact (Below.refl _ _).alloc (Nat.le_refl _) _
  have hs0 : w.heap.size < w0.heap.size := by rw [← hw0]; simp
  have hp : At2 w0 w.heap.size (.slice da ds.length dc) (.slice wa wn wc) := by rw [← hw0]; exact At2.new w _ _ _
  have HF := Lib.hid (h.keep hb0 (Nat.le_refl _))
  have hne1 : some w.heap.size ≠ (Value.slice da ds.length dc).ownBlock := fun e => by have := (World.ownsRow.lt h.d w.heap.size e.symm).2; omega
  have HM1 := Lib.hid (markIntsG B (.slice da ds.length dc) ds 1 w0 HF.out.d (by omega) (by omega))
  have HB0 := Lib.hid hb0
  have HO : Hid (∃ o, w.alloc o = w0) := ⟨_, hw0⟩
  have HP := Lib.hid hp
  obtain ⟨c0, c1, -, -⟩ := hp
  clear h hb0
  go_enter Try.func18, Try.ntmps18
  go_wp2_with fail
  refine HM1.out.mono ?_
  rintro e w1 ⟨rfl, i1, b1, z1, g1⟩
  have HP1 := Lib.hid (HP.out.grown g1 hne1)
  have HG1 := Lib.hid g1
  have HI1 := Lib.hid i1
  have HR1 : Hid (Recs w1 B (.slice wa wn wc) wn F) := ⟨HF.out.r.1, World.ownsRow.kept HF.out.r.2 g1 (by
    rcases rows_other HF.out.r.2 HF.out.d (by decide) with e | e
    · exact .inl e
    · exact .inr e)⟩
  have HB1 := Lib.hid b1
  have HZ1 := Lib.hid z1
  clear b1 z1 g1 i1 c0 c1 hw0 HM1
  obtain ⟨c0, c1, -, -⟩ := HP1.out
  go_wp2_with fail
  refine (markWireG_any B wn (.slice wa wn wc) F _ w1 HR1.out (by omega) (by omega)).mono ?_
  rintro e w2 ⟨rfl, i2, b2, z2, g2⟩
  have hI2 : Ints w2 B (.slice da ds.length dc) (seqL 1 ds.length) := World.ownsRow.kept HI1.out g2 (by
    rcases rows_other HI1.out HR1.out.2 (by decide) with e | e
    · exact .inl e
    · exact .inr e)
  go_wp2
  go_ret
  refine ⟨rfl, ⟨hI2, by rw [seqL_len], i2⟩, ?_, ?_, ?_⟩
  · exact ((HB0.out.mono hB).trans HB1.out).trans b2
  · have := HZ1.out; omega
  · obtain ⟨o, ho⟩ := HO.out
    exact ⟨o, w1, by rw [ho]; exact HG1.out, g2⟩
set_option maxHeartbeats 1000000 in
theorem heldFlow_any (B : Nat) (da : Option Addr) (dn dc : Nat) (wa : Option Addr) (wn wc : Nat) (w : World) (h : Fl w B da dn dc (seqL 1 dn) wa wn wc (seqL (1 + (dn : Int)) (wn * 3))) (hdl : dn ≤ 1048576) (hwl : wn ≤ 1048576) :
    Calls Try.prog 20 #[.agg #[.slice da dn dc, .slice wa wn wc], .int .i64 1] w fun e w' => e = .returned (.int .i64 (1 + (dn : Int) + ((wn * 3 : Nat) : Int))) ∧ Below w.heap.size w w' := by
  obtain ⟨w0, hw0⟩ : ∃ w0, w.alloc (.cells #[.slice da dn dc, .slice wa wn wc] 31) = w0 := ⟨_, rfl⟩
  have hb0 : Below w.heap.size w w0 := by rw [← hw0]; exact (Below.refl _ _).alloc (Nat.le_refl _) _
  have hp : At2 w0 w.heap.size (.slice da dn dc) (.slice wa wn wc) := by rw [← hw0]; exact At2.new w _ _ _
  have HF := Lib.hid (h.keep hb0 (Nat.le_refl _))
  have HB0 := Lib.hid hb0
  obtain ⟨c0, c1, -, -⟩ := hp
  have hlt1 : ¬ (1 + (dn : Int)) < 0 := by omega
  have hlt2 : ¬ (1 + (dn : Int) + ((wn * 3 : Nat) : Int)) < 0 := by omega
  clear h hb0
  go_enter Try.func20, Try.ntmps20
  go_wp2_with fail
  refine (heldInts B (.slice da dn dc) dn 1 w0 HF.out.d (by omega) (by omega)).mono ?_
  rintro e w' ⟨rfl, rfl⟩
  go_wp2_with fail
  refine (heldWireS_any B wn (.slice wa wn wc) (1 + (dn : Int)) w0 HF.out.r (by omega) (by omega)).mono ?_
  rintro e w' ⟨rfl, rfl⟩
  go_wp2
  go_ret
  exact ⟨rfl, HB0.out⟩
end Go.Proofs.Ytlobloaabghceaa
