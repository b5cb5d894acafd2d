/- Contracts: the copy of a flow that came in, how great it is, and that it is the same. -/
import Derived.Test.YtmhkeiccemfpeaaDoorRecsW
import Derived.Test.YtmhkeiccemfpeaaDoorArgL
import Derived.Test.YtmhkeiccemfpeaaDoorIn64
import Derived.BigQuiet
import Derived.Deep.QuietTactic
import Derived.IntWalk
namespace Go.Proofs.YtmhkeiccemfpeaaDoor
open Go.RowKit
set_option linter.unusedVariables false
set_option linter.unusedSimpArgs false

/-- a flow of the call's own: its delays and its wires -/
structure Fl (w : World) (B : Nat) (da : Option Addr) (dn dc : Nat) (ds : List Int) (wa : Option Addr) (wn wc : Nat) (F : List Int) : Prop where
  d : Ints w B (.slice da dn dc) ds
  n : dn = ds.length
  r : Recs w B (.slice wa wn wc) wn F
theorem Fl.keep {w w' : World} {B : Nat} {da : Option Addr} {dn dc : Nat} {ds : List Int} {wa : Option Addr} {wn wc : Nat} {F : List Int} (h : Fl w B da dn dc ds wa wn wc F) {N : Nat} (hb : Below N w w') (hN : w.heap.size ≤ N) : Fl w' B da dn dc ds wa wn wc F := ⟨h.d.keep hb hN, h.n, h.r.keep hb hN⟩
theorem ints_low {w : World} {B C : Nat} {v : Value} {l : List Int} (h : Ints w B v l) (hc : C ≤ B) : Ints w C v l := by
  rcases h with ⟨h1, ⟨rfl, hn⟩ | ⟨g, cap, cur, rfl, hg, rest⟩⟩
  · exact ⟨h1, .inl ⟨rfl, hn⟩⟩
  · exact ⟨h1, .inr ⟨g, cap, cur, rfl, by omega, rest⟩⟩
theorem Fl.low {w : World} {B C : Nat} {da : Option Addr} {dn dc : Nat} {ds : List Int} {wa : Option Addr} {wn wc : Nat} {F : List Int} (h : Fl w B da dn dc ds wa wn wc F) (hc : C ≤ B) : Fl w C da dn dc ds wa wn wc F := ⟨ints_low h.d hc, h.n, h.r.weak hc⟩
theorem ints_set {w : World} {B : Nat} {v : Value} {l : List Int} (h : Ints w B v l) (p : Addr) (x : Value) (hp : p.block < B) : Ints (w.setCell p x) B v l := by
  rcases h with ⟨h1, ⟨rfl, hn⟩ | ⟨g, cap, cur, rfl, hg, hh, rest⟩⟩
  · exact ⟨h1, .inl ⟨rfl, hn⟩⟩
  · exact ⟨h1, .inr ⟨g, cap, cur, rfl, hg, (Below.heap_setCell _ _ _ _ (by omega)).trans hh, rest⟩⟩
theorem recs_set {w : World} {B n : Nat} {v : Value} {F : List Int} (h : Recs w B v n F) (p : Addr) (x : Value) (hp : p.block < B) : Recs (w.setCell p x) B v n F := by
  rcases h with ⟨h0, h1, ⟨rfl, hn⟩ | ⟨g, cap, cur, rfl, hg, hh, rest⟩⟩
  · exact ⟨h0, h1, .inl ⟨rfl, hn⟩⟩
  · exact ⟨h0, h1, .inr ⟨g, cap, cur, rfl, hg, (Below.heap_setCell _ _ _ _ (by omega)).trans hh, rest⟩⟩
set_option maxHeartbeats 2000000 in
set_option maxRecDepth 100000 in
theorem toFlow_any (da : Option Addr) (dn dc : Nat) (ds : List Int) (wa : Option Addr) (wn wc : Nat) (F : List Int) (w : World) (hd : dn = ds.length) (hda : ArgRow w da ds) (hdl : dn ≤ 1048576) (hn : F.length = wn * 3) (h : ArgRow w wa F) (hl : wn ≤ 1048576) :
    Calls Tryd.prog 6 #[.agg #[.slice da dn dc, .slice wa wn wc]] w fun e w' => ∃ a2 c2 b2 k2, e = .returned (.agg #[.slice a2 dn c2, .slice b2 wn k2]) ∧ Fl w' w.heap.size a2 dn c2 ds b2 wn k2 F ∧ Below w.heap.size w w' := by
  have HD := Lib.hid hd
  have HDA := Lib.hid hda
  have HN := Lib.hid hn
  have HA := Lib.hid h
  obtain ⟨w3, hw3⟩ : ∃ w3, ((w.alloc (.cells #[.slice da dn dc, .slice wa wn wc] 25)).alloc (.cells #[.slice none 0 0, .slice none 0 0] 31)).alloc (.cells #[.slice none 0 0, .slice none 0 0] 31) = w3 := ⟨_, rfl⟩
  have hb3 : Below w.heap.size w w3 := by rw [← hw3]; exact (((Below.refl w.heap.size w).alloc (Nat.le_refl _) _).alloc (by simp) _).alloc (by simp; omega) _
  have hs3 : w3.heap.size = w.heap.size + 1 + 1 + 1 := by rw [← hw3]; simp
  have c0 : w3.cell? ⟨w.heap.size, 0, none⟩ = some (.slice da dn dc) := by rw [← hw3]; simp [go_sem]
  have c1 : w3.cell? ⟨w.heap.size, 1, none⟩ = some (.slice wa wn wc) := by rw [← hw3]; simp [go_sem]
  have HO1 : Hid (At2 w3 (w.heap.size + 1) (.slice none 0 0) (.slice none 0 0)) := by
    rw [← hw3]
    have := (At2.new (w.alloc (.cells #[.slice da dn dc, .slice wa wn wc] 25)) (.slice none 0 0) (.slice none 0 0) 31).alloc (.cells #[.slice none 0 0, .slice none 0 0] 31)
    rw [World.size_alloc] at this
    exact this
  have HO2 : Hid (At2 w3 (w.heap.size + 1 + 1) (.slice none 0 0) (.slice none 0 0)) := by
    rw [← hw3]
    have := At2.new ((w.alloc (.cells #[.slice da dn dc, .slice wa wn wc] 25)).alloc (.cells #[.slice none 0 0, .slice none 0 0] 31)) (.slice none 0 0) (.slice none 0 0) 31
    rw [World.size_alloc, World.size_alloc] at this
    exact this
  have HC1 := Lib.hid c1
  have HB3 := Lib.hid hb3
  have HS3 := Lib.hid hs3
  clear hd hda hn h hb3 hs3
  go_enter Tryd.func6, Tryd.ntmps6
  go_wp2_with fail
  refine (toInt64S_any da dn dc ds w3 HD.out (HDA.out.keep HB3.out (Nat.le_refl _)) hdl).mono ?_
  rintro e w4 ⟨rfl, i4, b4⟩
  have h24 := HO2.out.below b4 HO2.out.lt
  have h14 := HO1.out.below b4 HO1.out.lt
  have hz4 := b4.size
  obtain ⟨w5, hw5⟩ : ∃ w5, w4.setCell ⟨w.heap.size + 1 + 1, 0, none⟩ (.slice (some ⟨w3.heap.size, 0, none⟩) dn dn) = w5 := ⟨_, rfl⟩
  have h25 := h24.set0 (.slice (some ⟨w3.heap.size, 0, none⟩) dn dn)
  have h15 := h14.set_ne (g' := w.heap.size + 1 + 1) (by omega) 0 (.slice (some ⟨w3.heap.size, 0, none⟩) dn dn)
  have i5 := ints_set i4 ⟨w.heap.size + 1 + 1, 0, none⟩ (.slice (some ⟨w3.heap.size, 0, none⟩) dn dn) (by have := HS3.out; dsimp only; omega)
  have b5 : Below w.heap.size w (w4.setCell ⟨w.heap.size + 1 + 1, 0, none⟩ (.slice (some ⟨w3.heap.size, 0, none⟩) dn dn)) := (HB3.out.trans (b4.mono HB3.out.size)).setCell (p := ⟨w.heap.size + 1 + 1, 0, none⟩) (by dsimp only; omega) _
  have hc5 : (w4.setCell ⟨w.heap.size + 1 + 1, 0, none⟩ (.slice (some ⟨w3.heap.size, 0, none⟩) dn dn)).cell? ⟨w.heap.size, 1, none⟩ = some (.slice wa wn wc) := by
    rw [World.cell?_setCell_other w4 _ _ _ (fun e => by injection e with e1 e2; omega)]
    exact (b4.cell (p := ⟨w.heap.size, 1, none⟩) (by have := HS3.out; dsimp only; omega)).trans HC1.out
  have hz5 : w3.heap.size ≤ w5.heap.size := by rw [← hw5]; simpa using hz4
  rw [hw5] at h25 h15 i5 b5 hc5
  obtain ⟨p0, p1, p2, p3⟩ := h24
  have H25 := Lib.hid h25
  have H15 := Lib.hid h15
  have HI5 := Lib.hid i5
  have HB5 := Lib.hid b5
  clear h14 h25 h15 i4 i5 b4 b5 c0 c1 hw3 hz4
  go_wp2_with fail
  refine (toWireS_any wa wn wc F w5 HN.out (HA.out.keep HB5.out (Nat.le_refl _)) hl).mono ?_
  rintro e w6 ⟨v, rfl, hi, hb⟩
  obtain ⟨av, cv, rfl, -, -⟩ := hi.form
  have hz6 := hb.size
  have hA := H15.out.below hb H15.out.lt
  have hB := H25.out.below hb H25.out.lt
  have hB2 := hB.set1 (.slice av wn cv)
  have hA1 := hA.set_ne (g' := w.heap.size + 1 + 1) (by omega) 1 (.slice av wn cv)
  have hA2 := hA1.set0 (.slice (some ⟨w3.heap.size, 0, none⟩) dn dn)
  have hA3 := hA2.set1 (.slice av wn cv)
  have hif := ints_set (ints_set (ints_set (HI5.out.keep hb (Nat.le_refl _)) ⟨w.heap.size + 1 + 1, 1, none⟩ (.slice av wn cv) (by have := HS3.out; dsimp only; omega)) ⟨w.heap.size + 1, 0, none⟩ (.slice (some ⟨w3.heap.size, 0, none⟩) dn dn) (by have := HS3.out; dsimp only; omega)) ⟨w.heap.size + 1, 1, none⟩ (.slice av wn cv) (by have := HS3.out; dsimp only; omega)
  have hrf := recs_set (recs_set (recs_set hi ⟨w.heap.size + 1 + 1, 1, none⟩ (.slice av wn cv) (by have := HS3.out; dsimp only; omega)) ⟨w.heap.size + 1, 0, none⟩ (.slice (some ⟨w3.heap.size, 0, none⟩) dn dn) (by have := HS3.out; dsimp only; omega)) ⟨w.heap.size + 1, 1, none⟩ (.slice av wn cv) (by have := HS3.out; dsimp only; omega)
  have HIF := Lib.hid hif
  have HRF := Lib.hid hrf
  have HBF := Lib.hid ((((HB5.out.trans (hb.mono HB5.out.size)).setCell (p := ⟨w.heap.size + 1 + 1, 1, none⟩) (by dsimp only; omega) (.slice av wn cv)).setCell (p := ⟨w.heap.size + 1, 0, none⟩) (by dsimp only; omega) (.slice (some ⟨w3.heap.size, 0, none⟩) dn dn)).setCell (p := ⟨w.heap.size + 1, 1, none⟩) (by dsimp only; omega) (.slice av wn cv))
  obtain ⟨p0, p1, p2, p3⟩ := hB
  obtain ⟨q0, q1, q2, q3⟩ := hB2
  obtain ⟨r0, r1, r2, r3⟩ := hA1
  obtain ⟨s0, s1, s2, s3⟩ := hA2
  obtain ⟨t0, t1, t2, t3⟩ := hA3
  have HZ := Lib.hid (And.intro hz5 hz6)
  clear hA hi hb hif hrf hz5 hz6 hc5
  go_wp2
  refine bodyPost_ret (v := .agg #[.slice (some ⟨w3.heap.size, 0, none⟩) dn dn, .slice av wn cv]) (by simp [results, Tryd.results6, go_sem, t0, t1]) rfl ⟨_, _, _, _, rfl, ⟨ints_low HIF.out (by have := HS3.out; omega), HD.out, HRF.out.weak (by have := HZ.out; have := HS3.out; omega)⟩, HBF.out⟩
end Go.Proofs.YtmhkeiccemfpeaaDoor
