/- A scope: its copy, its size, and that two are the same. -/
import Derived.Test.YtkbnllaobnhfbaaDoorStrs
import Derived.Deep.AppendLies
namespace Go.Proofs.YtkbnllaobnhfbaaDoor
open Go.RowKit
set_option linter.unusedVariables false
set_option linter.unusedSimpArgs false
def At2 (w : World) (g : Nat) (a b : Value) : Prop := w.cell? ⟨g, 0, none⟩ = some a ∧ w.cell? ⟨g, 1, none⟩ = some b ∧ w.frozen? ⟨g, 0, none⟩ = false ∧ w.frozen? ⟨g, 1, none⟩ = false
theorem At2.new (w : World) (a b : Value) (t : TypeId) : At2 (w.alloc (.cells #[a, b] t)) w.heap.size a b := by
  refine ⟨?_, ?_, ?_, ?_⟩ <;> simp
theorem At2.lt {w : World} {g : Nat} {a b : Value} (h : At2 w g a b) : g < w.heap.size := by
  have := World.block_lt_of_cell? w _ h.1
  simpa using this
theorem At2.below {N g : Nat} {w w' : World} {a b : Value} (h : At2 w g a b) (hb : Below N w w') (hg : g < N) : At2 w' g a b :=
  ⟨(hb.cell (p := ⟨g, 0, none⟩) hg).trans h.1, (hb.cell (p := ⟨g, 1, none⟩) hg).trans h.2.1, (hb.frozen (p := ⟨g, 0, none⟩) hg).trans h.2.2.1, (hb.frozen (p := ⟨g, 1, none⟩) hg).trans h.2.2.2⟩
theorem At2.grown {g : Nat} {w w' : World} {a b : Value} {row : Option Nat} (h : At2 w g a b) (hg : w.grownBy w' row) (hne : some g ≠ row) : At2 w' g a b :=
  ⟨(hg.cell_far ⟨g, 0, none⟩ h.lt hne).trans h.1, (hg.cell_far ⟨g, 1, none⟩ h.lt hne).trans h.2.1, (hg.frozen_far ⟨g, 0, none⟩ h.lt hne).trans h.2.2.1, (hg.frozen_far ⟨g, 1, none⟩ h.lt hne).trans h.2.2.2⟩
theorem At2.set_ne {g g' : Nat} {w : World} {a b : Value} (h : At2 w g a b) (hne : g' ≠ g) (k : Nat) (v : Value) : At2 (w.setCell ⟨g', k, none⟩ v) g a b := by
  refine ⟨?_, ?_, ?_, ?_⟩
  · exact (World.cell?_setCell_other w _ _ _ (fun e => hne (by injection e))).trans h.1
  · exact (World.cell?_setCell_other w _ _ _ (fun e => hne (by injection e))).trans h.2.1
  · simp [h.2.2.1]
  · simp [h.2.2.2]
theorem At2.set0 {g : Nat} {w : World} {a b : Value} (h : At2 w g a b) (v : Value) : At2 (w.setCell ⟨g, 0, none⟩ v) g v b := by
  refine ⟨World.cell?_setCell_same w _ _ h.1, ?_, ?_, ?_⟩
  · exact (World.cell?_setCell_other w _ _ _ (by simp)).trans h.2.1
  · simp [h.2.2.1]
  · simp [h.2.2.2]
theorem At2.set1 {g : Nat} {w : World} {a b : Value} (h : At2 w g a b) (v : Value) : At2 (w.setCell ⟨g, 1, none⟩ v) g a v := by
  refine ⟨?_, World.cell?_setCell_same w _ _ h.2.1, ?_, ?_⟩
  · exact (World.cell?_setCell_other w _ _ _ (by simp)).trans h.1
  · simp [h.2.2.1]
  · simp [h.2.2.2]
theorem At2.alloc {g : Nat} {w : World} {a b : Value} (h : At2 w g a b) (o : Obj) : At2 (w.alloc o) g a b :=
  h.below ((Below.refl w.heap.size _).alloc (Nat.le_refl _) o) h.lt
theorem At2.drew {g : Nat} {w : World} {a b : Value} (h : At2 w g a b) : At2 w.drew g a b :=
  h.below ((Below.refl w.heap.size _).drew) h.lt
theorem At2.drewN {g : Nat} {w : World} {a b : Value} (h : At2 w g a b) (n : Nat) : At2 (w.drewN n) g a b := by
  have hb : Below w.heap.size w (w.drewN n) := ⟨rfl, rfl, rfl, Nat.le_refl _, fun _ _ => rfl⟩
  exact h.below hb h.lt

theorem quiet_eqs {P : Program} {f : FuncId} {args : Array Value} {w : World} {n : Nat} {v : Value}
    (h : Calls P f args (w.drewN n) fun e w' => e = .returned v ∧ w.drewN n = w') : Calls P f args (w.drewN n) fun e w'' => e = .returned v ∧ ∃ m, w'' = w.drewN m :=
  h.mono fun _ _ ⟨he, hm⟩ => ⟨he, n, hm.symm⟩
/-- a scope's rows -/
structure Sc (w : World) (na : Option Addr) (nn : Nat) (ls : List ByteArray) (wa : Option Addr) (wn : Nat) (ms : List ByteArray) : Prop where
  n : SRow w na ls
  nl : nn = ls.length
  v : SRow w wa ms
  vl : wn = ms.length
theorem Sc.keep {w w' : World} {na wa : Option Addr} {nn wn : Nat} {ls ms : List ByteArray} (h : Sc w na nn ls wa wn ms) {N : Nat} (hb : Below N w w') (hN : w.heap.size ≤ N) : Sc w' na nn ls wa wn ms := ⟨h.n.keep hb hN, h.nl, h.v.keep hb hN, h.vl⟩
set_option maxHeartbeats 2000000 in
set_option maxRecDepth 100000 in
theorem toScope_any (na : Option Addr) (nn nc : Nat) (ls : List ByteArray) (wa : Option Addr) (wn wc : Nat) (ms : List ByteArray) (w : World) (h : Sc w na nn ls wa wn ms) (hnl : nn ≤ 1048576) (hwl : wn ≤ 1048576) :
    Calls Tryd.prog 10 #[.agg #[.slice na nn nc, .slice wa wn wc]] w fun e w' => ∃ a2 b2, e = .returned (.agg #[.slice (some a2) nn nn, .slice (some b2) wn wn]) ∧ Strs w' w.heap.size (.slice (some a2) nn nn) ls ∧ Strs w' w.heap.size (.slice (some b2) wn wn) ms ∧ Sc w' (some a2) nn ls (some b2) wn ms ∧ Below w.heap.size w w' := by
  have HA := Lib.hid h
  obtain ⟨w3, hw3⟩ : ∃ w3, ((w.alloc (.cells #[.slice na nn nc, .slice wa wn wc] 24)).alloc (.cells #[.slice none 0 0, .slice none 0 0] 28)).alloc (.cells #[.slice none 0 0, .slice none 0 0] 28) = w3 := ⟨_, rfl⟩
  have hb3 : Below w.heap.size w w3 := by rw [← hw3]; exact (((Below.refl w.heap.size w).alloc (Nat.le_refl _) _).alloc (by simp) _).alloc (by simp; omega) _
  have hs3 : w3.heap.size = w.heap.size + 1 + 1 + 1 := by rw [← hw3]; simp
  have c0 : w3.cell? ⟨w.heap.size, 0, none⟩ = some (.slice na nn nc) := by rw [← hw3]; simp [go_sem]
  have c1 : w3.cell? ⟨w.heap.size, 1, none⟩ = some (.slice wa wn wc) := by rw [← hw3]; simp [go_sem]
  have HO1 : Hid (At2 w3 (w.heap.size + 1) (.slice none 0 0) (.slice none 0 0)) := by
    rw [← hw3]
    have := (At2.new (w.alloc (.cells #[.slice na nn nc, .slice wa wn wc] 24)) (.slice none 0 0) (.slice none 0 0) 28).alloc (.cells #[.slice none 0 0, .slice none 0 0] 28)
    rw [World.size_alloc] at this
    exact this
  have HO2 : Hid (At2 w3 (w.heap.size + 1 + 1) (.slice none 0 0) (.slice none 0 0)) := by
    rw [← hw3]
    have := At2.new ((w.alloc (.cells #[.slice na nn nc, .slice wa wn wc] 24)).alloc (.cells #[.slice none 0 0, .slice none 0 0] 28)) (.slice none 0 0) (.slice none 0 0) 28
    rw [World.size_alloc, World.size_alloc] at this
    exact this
  have HC1 := Lib.hid c1
  have HB3 := Lib.hid hb3
  have HS3 := Lib.hid hs3
  clear h hb3 hs3
  go_enter Tryd.func10, Tryd.ntmps10
  go_wp2_with fail
  refine (toStringS_any na nn nc ls w3 HA.out.nl (HA.out.n.keep HB3.out (Nat.le_refl _)) hnl).mono ?_
  rintro e w4 ⟨rfl, i4, b4⟩
  have h24 := HO2.out.below b4 HO2.out.lt
  have h14 := HO1.out.below b4 HO1.out.lt
  have hz4 := b4.size
  obtain ⟨w5, hw5⟩ : ∃ w5, w4.setCell ⟨w.heap.size + 1 + 1, 0, none⟩ (.slice (some ⟨w3.heap.size, 0, none⟩) nn nn) = w5 := ⟨_, rfl⟩
  have h25 := h24.set0 (.slice (some ⟨w3.heap.size, 0, none⟩) nn nn)
  have h15 := h14.set_ne (g' := w.heap.size + 1 + 1) (by omega) 0 (.slice (some ⟨w3.heap.size, 0, none⟩) nn nn)
  have i5 := i4.set ⟨w.heap.size + 1 + 1, 0, none⟩ (.slice (some ⟨w3.heap.size, 0, none⟩) nn nn) (by have := HS3.out; dsimp only; omega)
  have b5 : Below w.heap.size w (w4.setCell ⟨w.heap.size + 1 + 1, 0, none⟩ (.slice (some ⟨w3.heap.size, 0, none⟩) nn nn)) := (HB3.out.trans (b4.mono HB3.out.size)).setCell (p := ⟨w.heap.size + 1 + 1, 0, none⟩) (by dsimp only; omega) _
  have hc5 : (w4.setCell ⟨w.heap.size + 1 + 1, 0, none⟩ (.slice (some ⟨w3.heap.size, 0, none⟩) nn nn)).cell? ⟨w.heap.size, 1, none⟩ = some (.slice wa wn wc) := by
    rw [World.cell?_setCell_other w4 _ _ _ (fun e => by injection e with e1 e2; omega)]
    exact (b4.cell (p := ⟨w.heap.size, 1, none⟩) (by have := HS3.out; dsimp only; omega)).trans HC1.out
  have hz5 : w3.heap.size ≤ w5.heap.size := by rw [← hw5]; simpa using hz4
  rw [hw5] at h25 h15 i5 b5 hc5
  obtain ⟨p0, p1, p2, p3⟩ := h24
  have H25 := Lib.hid h25
  have H15 := Lib.hid h15
  have HI5 := Lib.hid i5
  have HB5 := Lib.hid b5
  clear h14 h25 h15 i4 i5 b4 b5 c0 c1 hw3 hz4
  go_wp2_with fail
  refine (toStringS_any wa wn wc ms w5 HA.out.vl (HA.out.v.keep HB5.out (Nat.le_refl _)) hwl).mono ?_
  rintro e w6 ⟨rfl, hi, hb⟩
  have hz6 := hb.size
  have hA := H15.out.below hb H15.out.lt
  have hB := H25.out.below hb H25.out.lt
  have hB2 := hB.set1 (.slice (some ⟨w5.heap.size, 0, none⟩) wn wn)
  have hA1 := hA.set_ne (g' := w.heap.size + 1 + 1) (by omega) 1 (.slice (some ⟨w5.heap.size, 0, none⟩) wn wn)
  have hA2 := hA1.set0 (.slice (some ⟨w3.heap.size, 0, none⟩) nn nn)
  have hA3 := hA2.set1 (.slice (some ⟨w5.heap.size, 0, none⟩) wn wn)
  have hif := (((HI5.out.keep hb (Nat.le_refl _)).set ⟨w.heap.size + 1 + 1, 1, none⟩ (.slice (some ⟨w5.heap.size, 0, none⟩) wn wn) (by have := HS3.out; dsimp only; omega)).set ⟨w.heap.size + 1, 0, none⟩ (.slice (some ⟨w3.heap.size, 0, none⟩) nn nn) (by have := HS3.out; dsimp only; omega)).set ⟨w.heap.size + 1, 1, none⟩ (.slice (some ⟨w5.heap.size, 0, none⟩) wn wn) (by have := HS3.out; dsimp only; omega)
  have hrf := ((hi.set ⟨w.heap.size + 1 + 1, 1, none⟩ (.slice (some ⟨w5.heap.size, 0, none⟩) wn wn) (by have := HS3.out; dsimp only; omega)).set ⟨w.heap.size + 1, 0, none⟩ (.slice (some ⟨w3.heap.size, 0, none⟩) nn nn) (by have := HS3.out; dsimp only; omega)).set ⟨w.heap.size + 1, 1, none⟩ (.slice (some ⟨w5.heap.size, 0, none⟩) wn wn) (by have := HS3.out; dsimp only; omega)
  have HIF := Lib.hid hif
  have HRF := Lib.hid hrf
  have HBF := Lib.hid ((((HB5.out.trans (hb.mono HB5.out.size)).setCell (p := ⟨w.heap.size + 1 + 1, 1, none⟩) (by dsimp only; omega) (.slice (some ⟨w5.heap.size, 0, none⟩) wn wn)).setCell (p := ⟨w.heap.size + 1, 0, none⟩) (by dsimp only; omega) (.slice (some ⟨w3.heap.size, 0, none⟩) nn nn)).setCell (p := ⟨w.heap.size + 1, 1, none⟩) (by dsimp only; omega) (.slice (some ⟨w5.heap.size, 0, none⟩) wn wn))
  obtain ⟨p0, p1, p2, p3⟩ := hB
  obtain ⟨q0, q1, q2, q3⟩ := hB2
  obtain ⟨r0, r1, r2, r3⟩ := hA1
  obtain ⟨s0, s1, s2, s3⟩ := hA2
  obtain ⟨t0, t1, t2, t3⟩ := hA3
  have HZ := Lib.hid (And.intro hz5 hz6)
  clear hA hi hb hif hrf hz5 hz6 hc5
  go_wp2
  refine bodyPost_ret (v := .agg #[(.slice (some ⟨w3.heap.size, 0, none⟩) nn nn), (.slice (some ⟨w5.heap.size, 0, none⟩) wn wn)]) (by simp [results, Tryd.results10, go_sem, t0, t1]) rfl ⟨_, _, rfl, HIF.out.low (by have := HS3.out; omega), HRF.out.low (by have := HZ.out; have := HS3.out; omega), ⟨HIF.out.row.1, HA.out.nl, HRF.out.row.1, HA.out.vl⟩, HBF.out⟩
set_option maxRecDepth 100000 in
theorem szScope_any (na : Option Addr) (nn nc : Nat) (ls : List ByteArray) (wa : Option Addr) (wn wc : Nat) (ms : List ByteArray) (w : World) (h : Sc w na nn ls wa wn ms) (hnm : nn ≤ maxLen) (hwm : wn ≤ maxLen) (hls : ∀ k (hk : k < ls.length), ls[k].size ≤ maxLen) (hms : ∀ k (hk : k < ms.length), ms[k].size ≤ maxLen) :
    Calls Tryd.prog 8 #[.agg #[.slice na nn nc, .slice wa wn wc], .int .i64 1048576] w fun e w' => ∃ r : Int, e = .returned (.int .i64 r) ∧ (r = -1 ∨ (0 ≤ r ∧ r ≤ 1048576 ∧ nn ≤ 1048576 ∧ wn ≤ 1048576)) ∧ Below w.heap.size w w' := by
  unfold maxLen at hnm hwm
  have hb0 : Below w.heap.size w (w.alloc (.cells #[.slice na nn nc, .slice wa wn wc] 24)) := (Below.refl _ _).alloc (Nat.le_refl _) _
  have HA := Lib.hid (h.keep hb0 (Nat.le_refl _))
  have c1 : (w.alloc (.cells #[.slice na nn nc, .slice wa wn wc] 24)).cell? ⟨w.heap.size, 1, none⟩ = some (.slice wa wn wc) := by simp [go_sem]
  have HB0 := Lib.hid hb0
  have HLS := Lib.hid hls
  have HMS := Lib.hid hms
  clear h hls hms hb0
  go_enter Tryd.func8, Tryd.ntmps8
  go_wp2_with fail
  refine (szStringS_any na nn nc ls 1048576 _ HA.out.nl HA.out.n (by omega) (by omega) (by omega) HLS.out).mono ?_
  rintro e w1 ⟨r, rfl, hr, rfl⟩
  rcases hr with rfl | ⟨r0, r1, r2⟩
  · go_wp2
    go_ret
    exact ⟨_, rfl, .inl rfl, HB0.out⟩
  · have t0 : decide (r < 0) = false := decide_eq_false (by omega)
    have t1 : ¬ r < 0 := by omega
    have R2 := Lib.hid r2
    clear r2
    go_wp2_with fail
    refine (szStringS_any wa wn wc ms r _ HA.out.vl HA.out.v r0 r1 (by omega) HMS.out).mono ?_
    rintro e w2 ⟨q, rfl, hq, rfl⟩
    rcases hq with rfl | ⟨q0, q1, q2⟩
    · go_wp2
      go_ret
      exact ⟨_, rfl, .inl rfl, HB0.out⟩
    · have t2 : decide (q < 0) = false := decide_eq_false (by omega)
      have t3 : ¬ q < 0 := by omega
      have HE : Hid (0 ≤ q ∧ q ≤ 1048576 ∧ nn ≤ 1048576 ∧ wn ≤ 1048576) := ⟨q0, by omega, by have := R2.out; omega, by omega⟩
      clear q0 q1 q2 r0 r1
      go_wp2
      go_ret
      exact ⟨q, rfl, .inr HE.out, HB0.out⟩
set_option maxRecDepth 100000 in
theorem eqScope_same (a1 a2 b1 b2 : Option Addr) (nn c1 c2 wn d1 d2 : Nat) (ls ms : List ByteArray) (w : World) (hnm : nn ≤ maxLen) (hwm : wn ≤ maxLen) (h1 : Sc w a1 nn ls b1 wn ms) (h2 : Sc w a2 nn ls b2 wn ms) :
    Calls Tryd.prog 12 #[.agg #[.slice a1 nn c1, .slice b1 wn d1], .agg #[.slice a2 nn c2, .slice b2 wn d2]] w fun e w' => e = .returned (.bool true) ∧ Below w.heap.size w w' := by
  obtain ⟨w0, hw0⟩ : ∃ w0, (w.alloc (.cells #[.slice a1 nn c1, .slice b1 wn d1] 28)).alloc (.cells #[.slice a2 nn c2, .slice b2 wn d2] 28) = w0 := ⟨_, rfl⟩
  have hb0 : Below w.heap.size w w0 := by rw [← hw0]; exact ((Below.refl _ _).alloc (Nat.le_refl _) _).alloc (by simp) _
  have c0 : w0.cell? ⟨w.heap.size, 0, none⟩ = some (.slice a1 nn c1) := by rw [← hw0]; simp [go_sem]
  have c1 : w0.cell? ⟨w.heap.size, 1, none⟩ = some (.slice b1 wn d1) := by rw [← hw0]; simp [go_sem]
  have c2 : w0.cell? ⟨w.heap.size + 1, 0, none⟩ = some (.slice a2 nn c2) := by rw [← hw0]; simp [go_sem]
  have c3 : w0.cell? ⟨w.heap.size + 1, 1, none⟩ = some (.slice b2 wn d2) := by rw [← hw0]; simp [go_sem]
  have H1 := Lib.hid (h1.keep hb0 (Nat.le_refl _))
  have H2 := Lib.hid (h2.keep hb0 (Nat.le_refl _))
  have HB0 := Lib.hid hb0
  clear h1 h2 hb0
  go_enter Tryd.func12, Tryd.ntmps12
  go_wp2_with fail
  refine (eqStringS_same _ _ _ _ _ ls w0 H1.out.nl hnm H1.out.n H2.out.n).mono ?_; rintro e w' ⟨rfl, q, rfl⟩
  obtain ⟨w1, hw1⟩ : ∃ w1, w0.drewN q = w1 := ⟨_, rfl⟩
  have hb1 : Below w0.heap.size w0 w1 := by rw [← hw1]; exact ⟨rfl, rfl, rfl, Nat.le_refl _, fun _ _ => rfl⟩
  have d1 : w1.cell? ⟨w.heap.size, 1, none⟩ = some (.slice b1 wn d1) := by rw [← hw1]; exact c1
  have d3 : w1.cell? ⟨w.heap.size + 1, 1, none⟩ = some (.slice b2 wn d2) := by rw [← hw1]; exact c3
  have HB1 := Lib.hid hb1
  rw [hw1]
  clear hw1 c0 c1 c2 c3 hb1 hw0
  go_wp2_with fail
  refine (eqStringS_same _ _ _ _ _ ms w1 H1.out.vl hwm (H1.out.v.keep HB1.out (Nat.le_refl _)) (H2.out.v.keep HB1.out (Nat.le_refl _))).mono ?_; rintro e w' ⟨rfl, q2, rfl⟩
  go_wp2
  go_ret
  have hb2 : Below w1.heap.size w1 (w1.drewN q2) := ⟨rfl, rfl, rfl, Nat.le_refl _, fun _ _ => rfl⟩
  exact ⟨rfl, HB0.out.trans ((HB1.out.trans (hb2.mono HB1.out.size)).mono HB0.out.size)⟩
end Go.Proofs.YtkbnllaobnhfbaaDoor
