/- Slices of structs of numbers: what came in, what a call made of its own, the copy of the one into the other, and whether two are the same. -/
import Derived.Test.YtmhkeiccemfpeaaDoorInts
import Derived.Test.YtmhkeiccemfpeaaDoorPair
import Derived.OwnWalk
import Derived.Deep.RegionWith
namespace Go.Proofs.YtmhkeiccemfpeaaDoor
open Go.RowKit
set_option linter.unusedVariables false

theorem info_rec : (Tryd.prog.info? 46).map (fun i => (i.zero, i.size, i.bytes)) = some (some (.agg #[.int .i64 0, .int .i64 0, .int .i64 0]), 3, 24) := by kernel_rfl
/-- the slice at a, that came in, holds the numbers F in its cells -/
def ArgRow (w : World) (a : Option Addr) (l : List Int) : Prop := l = [] ∨ ∃ b off, a = some ⟨b, off, none⟩ ∧ b < w.heap.size ∧ ∀ k (hk : k < l.length), w.cell? ⟨b, off + k, none⟩ = some (.int .i64 l[k])
theorem ArgRow.keep {w w' : World} {a : Option Addr} {l : List Int} (h : ArgRow w a l) {N : Nat} (hb : Below N w w') (hN : w.heap.size ≤ N) : ArgRow w' a l := by
  rcases h with h | ⟨b, off, h1, h2, h3⟩
  · exact .inl h
  · exact .inr ⟨b, off, h1, Nat.lt_of_lt_of_le h2 hb.size, fun k hk => (hb.cell (p := ⟨b, off + k, none⟩) (Nat.lt_of_lt_of_le h2 hN)).trans (h3 k hk)⟩
def cpyL (l : List Int) (k : Nat) : List Int := l.take k ++ List.replicate (l.length - k) 0
theorem cpyL_len (l : List Int) (k : Nat) (hk : k ≤ l.length) : (cpyL l k).length = l.length := by simp [cpyL]; omega
theorem cpyL_step (l : List Int) (k : Nat) (hk : k < l.length) : (cpyL l k).set k l[k] = cpyL l (k + 1) := by
  unfold cpyL
  rw [List.set_append, if_neg (by simp; omega)]
  have e : l.length - k = (l.length - (k + 1)) + 1 := by omega
  have ht : (l.take k).length = k := by simp; omega
  rw [ht, Nat.sub_self, e, List.replicate_succ, List.set_cons_zero]
  rw [List.take_succ_eq_append_getElem hk, List.append_assoc]
  rfl
theorem cpyL_end (l : List Int) : cpyL l l.length = l := by simp [cpyL]

/-- the slice value v of the call's own, in blocks from B on, holds n structs, whose numbers are F -/
def Recs (w : World) (B : Nat) (v : Value) (n : Nat) (F : List Int) : Prop := F.length = n * 3 ∧ w.ownsRow B 46 3 v n (F.map (Value.int .i64))
theorem Recs.form {w : World} {B : Nat} {v : Value} {n : Nat} {F : List Int} (h : Recs w B v n F) : ∃ a cap, v = .slice a n cap ∧ n ≤ maxLen ∧
    ∀ k (hk : k < F.length), ∃ g, a = some ⟨g, 0, none⟩ ∧ B ≤ g ∧ g < w.heap.size ∧ w.cell? ⟨g, k, none⟩ = some (.int .i64 F[k]) ∧ w.frozen? ⟨g, k, none⟩ = false := by
  obtain ⟨hF, h'⟩ := h
  rcases h' with ⟨hl, ⟨rfl, hn⟩ | ⟨g, cap, cur, rfl, hg, hh, hc, hm, hs, ht⟩⟩
  · exact ⟨none, 0, by rw [hn], by rw [hn]; exact Nat.zero_le _, fun k hk => by rw [hn] at hF; omega⟩
  · have h' : w.ownsRow B 46 3 (.slice (some ⟨g, 0, none⟩) n cap) n (F.map (Value.int .i64)) := ⟨hl, .inr ⟨g, cap, cur, rfl, hg, hh, hc, hm, hs, ht⟩⟩
    refine ⟨_, cap, rfl, Nat.le_trans hc hm, fun k hk => ⟨g, rfl, hg, (Array.getElem?_eq_some_iff.1 hh).1, ?_, ?_⟩⟩
    · rw [World.ownsRow.cellAt h' k (by omega)]; simp [List.getElem?_eq_getElem hk]
    · exact World.ownsRow.frozenAt h' k
theorem Recs.keep {w w' : World} {B : Nat} {v : Value} {n : Nat} {F : List Int} (h : Recs w B v n F) {N : Nat} (hb : Below N w w') (hN : w.heap.size ≤ N) : Recs w' B v n F := by
  obtain ⟨hF, h1, ⟨rfl, hn⟩ | ⟨g, cap, cur, rfl, hg, hh, hc, hm, hs, ht⟩⟩ := h
  · exact ⟨hF, h1, .inl ⟨rfl, hn⟩⟩
  · exact ⟨hF, h1, .inr ⟨g, cap, cur, rfl, hg, (hb.block g (by have := (Array.getElem?_eq_some_iff.1 hh).1; omega)).trans hh, hc, hm, hs, ht⟩⟩
theorem Recs.weak {w : World} {B C : Nat} {v : Value} {n : Nat} {F : List Int} (h : Recs w B v n F) (hc : C ≤ B) : Recs w C v n F := by
  obtain ⟨hF, h1, ⟨rfl, hn⟩ | ⟨g, cap, cur, rfl, hg, rest⟩⟩ := h
  · exact ⟨hF, h1, .inl ⟨rfl, hn⟩⟩
  · exact ⟨hF, h1, .inr ⟨g, cap, cur, rfl, by omega, rest⟩⟩
theorem Recs.put {w : World} {B g cap n : Nat} {F : List Int} (h : Recs w B (.slice (some ⟨g, 0, none⟩) n cap) n F) (j : Nat) (x : Int) : Recs (w.setCell ⟨g, j, none⟩ (.int .i64 x)) B (.slice (some ⟨g, 0, none⟩) n cap) n (F.set j x) := by
  obtain ⟨hF, h1⟩ := h
  refine ⟨by rw [List.length_set]; exact hF, ?_⟩
  rw [List.map_set]
  exact (World.ownsRow.stored h1 j (.int .i64 x)).1
theorem Recs.setNe {w : World} {B g g' n cap : Nat} {F : List Int} (h : Recs w B (.slice (some ⟨g, 0, none⟩) n cap) n F) (hne : g' ≠ g) (k : Nat) (x : Value) : Recs (w.setCell ⟨g', k, none⟩ x) B (.slice (some ⟨g, 0, none⟩) n cap) n F := by
  obtain ⟨hF, h1, ⟨h2, _⟩ | ⟨g1, cap1, cur, hv, hg, hh, rest⟩⟩ := h
  · simp at h2
  · simp only [Value.slice.injEq, Option.some.injEq, Addr.mk.injEq, and_true] at hv
    refine ⟨hF, h1, .inr ⟨g1, cap1, cur, by simp [hv], hg, (Below.heap_setCell _ _ _ _ (by dsimp only; omega)).trans hh, rest⟩⟩

theorem toWire_any (x y z : Int) (w : World) :
    Calls Tryd.prog 24 #[.agg #[.int .i64 x, .int .i64 y, .int .i64 z]] w fun e w' => e = .returned (.agg #[.int .i64 x, .int .i64 y, .int .i64 z]) ∧ Below w.heap.size w w' := by
  go_enter Tryd.func24, Tryd.ntmps24
  go_wp2
  refine bodyPost_ret (v := .agg #[.int .i64 x, .int .i64 y, .int .i64 z]) (by simp [results, Tryd.results24, go_sem]) rfl ⟨rfl, ?_⟩
  exact (((Below.refl _ _).alloc (Nat.le_refl _) _).alloc (by simp) _).alloc (by simp; omega) _

set_option maxHeartbeats 2000000 in
set_option maxRecDepth 100000 in
theorem toWireS_any (a : Option Addr) (n cap : Nat) (F : List Int) (w : World) (hn : F.length = n * 3) (h : ArgRow w a F) (hl : n ≤ 1048576) :
    Calls Tryd.prog 14 #[.slice a n cap] w fun e w' => ∃ v, e = .returned v ∧ Recs w' w.heap.size v n F ∧ Below w.heap.size w w' := by
  obtain ⟨i0, hi, hz0, hz1, hz2⟩ := info_parts info_rec
  have HN := Lib.hid hn
  have HA := Lib.hid h
  clear hn h
  go_enter Tryd.func14, Tryd.ntmps14
  go_wp2_with (at_make; refine wpList_make_full _ rfl _ _ 29 rfl w.heap.size 46 i0 (.agg #[.int .i64 0, .int .i64 0, .int .i64 0]) 3 Tryd.underlying29 hi hz0 hz1 .i64 .i64 (n : Int) (n : Int) n rfl rfl rfl rfl (by rw [hz2]; omega) (by unfold maxLen; omega) (Nat.le_refl _) ?_; intro w1 hown1 hgrow1)
  have hi1 : Recs w1 w.heap.size (.slice (some ⟨w.heap.size, 0, none⟩) n n) n (cpyL F (0 * 3)) := by
    refine ⟨by rw [cpyL_len F _ (by omega)]; exact HN.out, ?_⟩
    have e : (cpyL F (0 * 3)).map (Value.int .i64) = (madeCells (Value.agg #[.int .i64 0, .int .i64 0, .int .i64 0]).cells (n * 3)).toList := by
      have e1 : cpyL F (0 * 3) = List.replicate (n * 3) 0 := by rw [Nat.zero_mul]; unfold cpyL; simp [HN.out]
      rw [e1]
      apply List.ext_getElem
      · simp [madeCells]
      · intro i h1 h2
        have hz : ∀ j, j < 3 → (Value.agg #[.int .i64 0, .int .i64 0, .int .i64 0]).cells[j]! = .int .i64 0 := by
          intro j hj
          rcases j with _ | _ | _ | j <;> first | rfl | omega
        have hs : (Value.agg #[.int .i64 0, .int .i64 0, .int .i64 0]).cells.size = 3 := rfl
        simp only [madeCells, Array.toList_map, List.getElem_map, List.getElem_replicate, Array.toList_range, List.getElem_range, hs]
        exact (hz _ (Nat.mod_lt _ (by decide))).symm
    rw [e]; exact hown1
  have hb1w : Below w.heap.size w w1 := (Below.refl _ _).grown hgrow1 (Nat.le_refl _) (fun k e => by cases e)
  have HI1 := Lib.hid hi1
  have HB1 := Lib.hid hb1w
  clear hi1 hb1w hown1 hgrow1
  go_wp2
  go_loopw [4] (fun i wr => ∃ k : Nat, k ≤ n ∧ i = .int .i64 (k : Int) ∧ Recs wr w.heap.size (.slice (some ⟨w.heap.size, 0, none⟩) n n) n (cpyL F (k * 3)) ∧ Below w.heap.size w wr) (fun i _ => n - (intOf i).toNat)
  case atStart => exact ⟨0, Nat.zero_le _, rfl, HI1.out, HB1.out⟩
  case round =>
    obtain ⟨k, hk, rfl, hbuf, hB⟩ := hrel
    by_cases hlt : k < n
    · have hFl := HN.out
      have hk0 : k * 3 < F.length := by have := HN.out; omega
      have hk1 : k * 3 + 1 < F.length := by have := HN.out; omega
      have hk2 : k * 3 + 2 < F.length := by have := HN.out; omega
      rcases HA.out with h0 | ⟨b, off, rfl, hbl, hcells⟩
      · rw [h0] at hk0; simp at hk0
      have ca0 := (hB.cell (p := ⟨b, off + (k * 3), none⟩) hbl).trans (hcells (k * 3) hk0)
      have ca1 := (hB.cell (p := ⟨b, off + (k * 3 + 1), none⟩) hbl).trans (hcells (k * 3 + 1) hk1)
      have ca2 := (hB.cell (p := ⟨b, off + (k * 3 + 2), none⟩) hbl).trans (hcells (k * 3 + 2) hk2)
      obtain ⟨x, hy0⟩ : ∃ y, F[k * 3] = y := ⟨_, rfl⟩
      obtain ⟨y, hy1⟩ : ∃ y, F[k * 3 + 1] = y := ⟨_, rfl⟩
      obtain ⟨z, hy2⟩ : ∃ y, F[k * 3 + 2] = y := ⟨_, rfl⟩
      have st0 := cpyL_step F (k * 3) hk0
      have st1 := cpyL_step F (k * 3 + 1) hk1
      have st2 := cpyL_step F (k * 3 + 2) hk2
      rw [hy0] at ca0 st0
      rw [hy1] at ca1 st1
      rw [hy2] at ca2 st2
      have hbs := hB.size
      rw [← Nat.add_assoc] at ca1
      rw [← Nat.add_assoc] at ca2
      have HBUF := Lib.hid hbuf
      clear hbuf hcells hy0 hy1 hy2 hFl
      go_wp2_with fail
      refine (toWire_any x y z _).mono ?_
      rintro e W2 ⟨rfl, hb2⟩
      have hbuf2 := HBUF.out.keep hb2 (Nat.le_refl _)
      have hBw2 := hB.trans (hb2.mono hbs)
      obtain ⟨a', cap', hv, _, kk⟩ := hbuf2.form
      simp only [Value.slice.injEq] at hv
      obtain ⟨rfl, -, rfl⟩ := hv
      obtain ⟨gg, hg0, _, hgs0, hcell0, hfr0⟩ := kk (k * 3) (by rw [cpyL_len F (k * 3) (by omega)]; exact hk0)
      simp only [Option.some.injEq, Addr.mk.injEq, and_true] at hg0
      subst hg0
      obtain ⟨xx0, hcx0⟩ : ∃ xx, W2.cell? ⟨w.heap.size, k * 3, none⟩ = some xx := ⟨_, hcell0⟩
      obtain ⟨gg, hg1, _, hgs1, hcell1, hfr1⟩ := kk (k * 3 + 1) (by rw [cpyL_len F (k * 3) (by omega)]; exact hk1)
      simp only [Option.some.injEq, Addr.mk.injEq, and_true] at hg1
      subst hg1
      obtain ⟨xx1, hcx1⟩ : ∃ xx, W2.cell? ⟨w.heap.size, k * 3 + 1, none⟩ = some xx := ⟨_, hcell1⟩
      obtain ⟨gg, hg2, _, hgs2, hcell2, hfr2⟩ := kk (k * 3 + 2) (by rw [cpyL_len F (k * 3) (by omega)]; exact hk2)
      simp only [Option.some.injEq, Addr.mk.injEq, and_true] at hg2
      subst hg2
      obtain ⟨xx2, hcx2⟩ : ∃ xx, W2.cell? ⟨w.heap.size, k * 3 + 2, none⟩ = some xx := ⟨_, hcell2⟩
      have hp0 := Recs.put hbuf2 (k * 3) x
      rw [st0] at hp0
      have hp1 := Recs.put hp0 (k * 3 + 1) y
      rw [st1] at hp1
      have hp2 := Recs.put hp1 (k * 3 + 2) z
      rw [st2] at hp2
      have hfin : Recs _ _ _ _ (cpyL F ((k + 1) * 3)) := (show (k + 1) * 3 = k * 3 + 2 + 1 by omega) ▸ hp2
      have HI := Lib.hid hfin
      clear hbuf2 kk hb2 HBUF hcell0 st0 hcell1 st1 hcell2 st2 hp0 hp1 hp2
      go_wp2
      go_roundw
      case rel => exact ⟨k + 1, by omega, by go_num, HI.out, (((hBw2.setCell (Nat.le_refl _) _).setCell (Nat.le_refl _) _).setCell (Nat.le_refl _) _)⟩
      case measure => simp [intOf]; omega
    · obtain rfl : k = n := by omega
      have HI := Lib.hid hbuf
      clear hbuf
      go_wp2
      go_ret
      exact ⟨_, rfl, by have := HI.out; rw [← HN.out, cpyL_end] at this; exact this, hB⟩

theorem Recs.at {w : World} {B n cap : Nat} {a : Option Addr} {F : List Int} (h : Recs w B (.slice a n cap) n F) (k : Nat) (hk : k < n) :
    ∃ (g : Nat) (x y z : Int), a = some ⟨g, 0, none⟩ ∧ B ≤ g ∧ g < w.heap.size ∧ (F.getD (k * 3) 0 = x ∧ F.getD (k * 3 + 1) 0 = y ∧ F.getD (k * 3 + 2) 0 = z) ∧ (w.cell? ⟨g, k * 3, none⟩ = some (.int .i64 x) ∧ w.cell? ⟨g, k * 3 + 1, none⟩ = some (.int .i64 y) ∧ w.cell? ⟨g, k * 3 + 2, none⟩ = some (.int .i64 z)) := by
  have hF := h.1
  obtain ⟨a', cap', hv, _, kk⟩ := h.form
  simp only [Value.slice.injEq] at hv
  obtain ⟨rfl, -, rfl⟩ := hv
  have hk0 : k * 3 < F.length := by omega
  obtain ⟨g0, hg0, hB0, hgs0, hc0, _⟩ := kk (k * 3) hk0
  have hk1 : k * 3 + 1 < F.length := by omega
  obtain ⟨g1, hg1, hB1, hgs1, hc1, _⟩ := kk (k * 3 + 1) hk1
  have hk2 : k * 3 + 2 < F.length := by omega
  obtain ⟨g2, hg2, hB2, hgs2, hc2, _⟩ := kk (k * 3 + 2) hk2
  rw [hg0] at hg1
  simp only [Option.some.injEq, Addr.mk.injEq, and_true] at hg1
  subst hg1
  rw [hg0] at hg2
  simp only [Option.some.injEq, Addr.mk.injEq, and_true] at hg2
  subst hg2
  refine ⟨g0, F[k * 3], F[k * 3 + 1], F[k * 3 + 2], hg0, hB0, hgs0, ⟨?_, ?_, ?_⟩, hc0, hc1, hc2⟩ <;> rw [List.getD_eq_getElem?_getD, List.getElem?_eq_getElem] <;> rfl

theorem eqWire_same (x y z : Int) (w : World) :
    Calls Tryd.prog 32 #[.agg #[.int .i64 x, .int .i64 y, .int .i64 z], .agg #[.int .i64 x, .int .i64 y, .int .i64 z]] w fun e w' => e = .returned (.bool true) ∧ Below w.heap.size w w' := by
  go_enter Tryd.func32, Tryd.ntmps32
  go_wp2
  go_ret
  exact ⟨rfl, ((Below.refl _ _).alloc (Nat.le_refl _) _).alloc (by simp) _⟩
set_option maxHeartbeats 2000000 in
theorem eqWireS_same (B1 B2 n : Nat) (v1 v2 : Value) (F : List Int) (w : World) (h1 : Recs w B1 v1 n F) (h2 : Recs w B2 v2 n F) :
    Calls Tryd.prog 20 #[v1, v2] w fun e w' => e = .returned (.bool true) ∧ Below w.heap.size w w' := by
  obtain ⟨a1, c1, rfl, hl, -⟩ := h1.form
  obtain ⟨a2, c2, rfl, -, -⟩ := h2.form
  unfold maxLen at hl
  have H1 := Lib.hid h1
  have H2 := Lib.hid h2
  clear h1 h2
  go_enter Tryd.func20, Tryd.ntmps20
  go_wp2
  go_loopw [5] (fun i wr => ∃ k : Nat, k ≤ n ∧ i = .int .i64 k ∧ Below w.heap.size w wr) (fun i _ => n - (intOf i).toNat)
  case atStart => exact ⟨0, Nat.zero_le _, rfl, Below.refl _ _⟩
  case round =>
    obtain ⟨k, hk, rfl, hB⟩ := hrel
    have hbs := hB.size
    by_cases hlt : k < n
    · obtain ⟨ga, x, y, z, rfl, -, -, ⟨ea0, ea1, ea2⟩, ca0, ca1, ca2⟩ := (H1.out.keep hB (Nat.le_refl _)).at k hlt
      obtain ⟨gb, p, q, r, rfl, -, -, ⟨eb0, eb1, eb2⟩, cb0, cb1, cb2⟩ := (H2.out.keep hB (Nat.le_refl _)).at k hlt
      obtain rfl : x = p := ea0.symm.trans eb0
      obtain rfl : y = q := ea1.symm.trans eb1
      obtain rfl : z = r := ea2.symm.trans eb2
      go_wp2
      go_region_with (go_at_call 32; refine (eqWire_same _ _ _ _).mono ?_; rintro e W2 ⟨rfl, hb2⟩)
      all_goals
        have hB2 : Below w.heap.size w W2 := hB.trans (⟨hb2.os, hb2.tape, hb2.output, hb2.size, fun j hj => hb2.block j (Nat.lt_of_lt_of_le hj hbs)⟩ : Below w.heap.size wr W2)
        have HB2 := Lib.hid hB2
        clear hb2 hB2
        go_wp2
        go_roundw
        case rel => exact ⟨k + 1, by omega, by go_num, HB2.out⟩
        case measure => simp [intOf]; omega
    · go_wp2
      go_ret
      exact ⟨rfl, hB⟩
end Go.Proofs.YtmhkeiccemfpeaaDoor
