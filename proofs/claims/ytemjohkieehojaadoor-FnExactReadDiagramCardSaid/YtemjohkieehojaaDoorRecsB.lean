/- Slices of structs of numbers: what came in, what a call made of its own, the copy of the one into the other, and whether two are the same. -/
import Derived.Test.YtemjohkieehojaaDoorInts
import Derived.Test.YtemjohkieehojaaDoorPair
import Derived.OwnWalk
import Derived.Deep.RegionWith
namespace Go.Proofs.YtemjohkieehojaaDoor
open Go.RowKit
set_option linter.unusedVariables false

theorem info_rec : (Tryd.prog.info? 60).map (fun i => (i.zero, i.size, i.bytes)) = some (some (.agg #[.int .i64 0, .int .i64 0, .int .i64 0]), 3, 24) := by kernel_rfl
/-- the slice at a, that came in, holds the numbers F in its cells -/
def ArgRow (w : World) (a : Option Addr) (l : List Int) : Prop := l = [] ∨ ∃ b off, a = some ⟨b, off, none⟩ ∧ b < w.heap.size ∧ ∀ k (hk : k < l.length), w.cell? ⟨b, off + k, none⟩ = some (.int .i64 l[k])
theorem ArgRow.keep {w w' : World} {a : Option Addr} {l : List Int} (h : ArgRow w a l) {N : Nat} (hb : Below N w w') (hN : w.heap.size ≤ N) : ArgRow w' a l := by
  rcases h with h | ⟨b, off, h1, h2, h3⟩
  · exact .inl h
  · exact .inr ⟨b, off, h1, Nat.lt_of_lt_of_le h2 hb.size, fun k hk => (hb.cell (p := ⟨b, off + k, none⟩) (Nat.lt_of_lt_of_le h2 hN)).trans (h3 k hk)⟩
def cpyL (l : List Int) (k : Nat) : List Int := l.take k ++ List.replicate (l.length - k) 0
theorem cpyL_len (l : List Int) (k : Nat) (hk : k ≤ l.length) : (cpyL l k).length = l.length := by simp [cpyL]; omega
theorem cpyL_step (l : List Int) (k : Nat) (hk : k < l.length) : (cpyL l k).set k l[k] = cpyL l (k + 1) := by
  unfold cpyL
  rw [List.set_append, if_neg (by simp; omega)]
  have e : l.length - k = (l.length - (k + 1)) + 1 := by omega
  have ht : (l.take k).length = k := by simp; omega
  rw [ht, Nat.sub_self, e, List.replicate_succ, List.set_cons_zero]
  rw [List.take_succ_eq_append_getElem hk, List.append_assoc]
  rfl
theorem cpyL_end (l : List Int) : cpyL l l.length = l := by simp [cpyL]

/-- the slice value v of the call's own, in blocks from B on, holds n structs, whose numbers are F -/
def Recs (w : World) (B : Nat) (v : Value) (n : Nat) (F : List Int) : Prop := F.length = n * 3 ∧ w.ownsRow B 60 3 v n (F.map (Value.int .i64))
theorem Recs.form {w : World} {B : Nat} {v : Value} {n : Nat} {F : List Int} (h : Recs w B v n F) : ∃ a cap, v = .slice a n cap ∧ n ≤ maxLen ∧
    ∀ k (hk : k < F.length), ∃ g, a = some ⟨g, 0, none⟩ ∧ B ≤ g ∧ g < w.heap.size ∧ w.cell? ⟨g, k, none⟩ = some (.int .i64 F[k]) ∧ w.frozen? ⟨g, k, none⟩ = false := by
  obtain ⟨hF, h'⟩ := h
  rcases h' with ⟨hl, ⟨rfl, hn⟩ | ⟨g, cap, cur, rfl, hg, hh, hc, hm, hs, ht⟩⟩
  · exact ⟨none, 0, by rw [hn], by rw [hn]; exact Nat.zero_le _, fun k hk => by rw [hn] at hF; omega⟩
  · have h' : w.ownsRow B 60 3 (.slice (some ⟨g, 0, none⟩) n cap) n (F.map (Value.int .i64)) := ⟨hl, .inr ⟨g, cap, cur, rfl, hg, hh, hc, hm, hs, ht⟩⟩
    refine ⟨_, cap, rfl, Nat.le_trans hc hm, fun k hk => ⟨g, rfl, hg, (Array.getElem?_eq_some_iff.1 hh).1, ?_, ?_⟩⟩
    · rw [World.ownsRow.cellAt h' k (by omega)]; simp [List.getElem?_eq_getElem hk]
    · exact World.ownsRow.frozenAt h' k
theorem Recs.keep {w w' : World} {B : Nat} {v : Value} {n : Nat} {F : List Int} (h : Recs w B v n F) {N : Nat} (hb : Below N w w') (hN : w.heap.size ≤ N) : Recs w' B v n F := by
  obtain ⟨hF, h1, ⟨rfl, hn⟩ | ⟨g, cap, cur, rfl, hg, hh, hc, hm, hs, ht⟩⟩ := h
  · exact ⟨hF, h1, .inl ⟨rfl, hn⟩⟩
  · exact ⟨hF, h1, .inr ⟨g, cap, cur, rfl, hg, (hb.block g (by have := (Array.getElem?_eq_some_iff.1 hh).1; omega)).trans hh, hc, hm, hs, ht⟩⟩
theorem Recs.weak {w : World} {B C : Nat} {v : Value} {n : Nat} {F : List Int} (h : Recs w B v n F) (hc : C ≤ B) : Recs w C v n F := by
  obtain ⟨hF, h1, ⟨rfl, hn⟩ | ⟨g, cap, cur, rfl, hg, rest⟩⟩ := h
  · exact ⟨hF, h1, .inl ⟨rfl, hn⟩⟩
  · exact ⟨hF, h1, .inr ⟨g, cap, cur, rfl, by omega, rest⟩⟩
theorem Recs.put {w : World} {B g cap n : Nat} {F : List Int} (h : Recs w B (.slice (some ⟨g, 0, none⟩) n cap) n F) (j : Nat) (x : Int) : Recs (w.setCell ⟨g, j, none⟩ (.int .i64 x)) B (.slice (some ⟨g, 0, none⟩) n cap) n (F.set j x) := by
  obtain ⟨hF, h1⟩ := h
  refine ⟨by rw [List.length_set]; exact hF, ?_⟩
  rw [List.map_set]
  exact (World.ownsRow.stored h1 j (.int .i64 x)).1
theorem Recs.setNe {w : World} {B g g' n cap : Nat} {F : List Int} (h : Recs w B (.slice (some ⟨g, 0, none⟩) n cap) n F) (hne : g' ≠ g) (k : Nat) (x : Value) : Recs (w.setCell ⟨g', k, none⟩ x) B (.slice (some ⟨g, 0, none⟩) n cap) n F := by
  obtain ⟨hF, h1, ⟨h2, _⟩ | ⟨g1, cap1, cur, hv, hg, hh, rest⟩⟩ := h
  · simp at h2
  · simp only [Value.slice.injEq, Option.some.injEq, Addr.mk.injEq, and_true] at hv
    refine ⟨hF, h1, .inr ⟨g1, cap1, cur, by simp [hv], hg, (Below.heap_setCell _ _ _ _ (by dsimp only; omega)).trans hh, rest⟩⟩

theorem Recs.at {w : World} {B n cap : Nat} {a : Option Addr} {F : List Int} (h : Recs w B (.slice a n cap) n F) (k : Nat) (hk : k < n) :
    ∃ (g : Nat) (x y z : Int), a = some ⟨g, 0, none⟩ ∧ B ≤ g ∧ g < w.heap.size ∧ (F.getD (k * 3) 0 = x ∧ F.getD (k * 3 + 1) 0 = y ∧ F.getD (k * 3 + 2) 0 = z) ∧ (w.cell? ⟨g, k * 3, none⟩ = some (.int .i64 x) ∧ w.cell? ⟨g, k * 3 + 1, none⟩ = some (.int .i64 y) ∧ w.cell? ⟨g, k * 3 + 2, none⟩ = some (.int .i64 z)) := by
  have hF := h.1
  obtain ⟨a', cap', hv, _, kk⟩ := h.form
  simp only [Value.slice.injEq] at hv
  obtain ⟨rfl, -, rfl⟩ := hv
  have hk0 : k * 3 < F.length := by omega
  obtain ⟨g0, hg0, hB0, hgs0, hc0, _⟩ := kk (k * 3) hk0
  have hk1 : k * 3 + 1 < F.length := by omega
  obtain ⟨g1, hg1, hB1, hgs1, hc1, _⟩ := kk (k * 3 + 1) hk1
  have hk2 : k * 3 + 2 < F.length := by omega
  obtain ⟨g2, hg2, hB2, hgs2, hc2, _⟩ := kk (k * 3 + 2) hk2
  rw [hg0] at hg1
  simp only [Option.some.injEq, Addr.mk.injEq, and_true] at hg1
  subst hg1
  rw [hg0] at hg2
  simp only [Option.some.injEq, Addr.mk.injEq, and_true] at hg2
  subst hg2
  refine ⟨g0, F[k * 3], F[k * 3 + 1], F[k * 3 + 2], hg0, hB0, hgs0, ⟨?_, ?_, ?_⟩, hc0, hc1, hc2⟩ <;> rw [List.getD_eq_getElem?_getD, List.getElem?_eq_getElem] <;> rfl

theorem eqBound_same (x y z : Int) (w : World) :
    Calls Tryd.prog 56 #[.agg #[.int .i64 x, .int .i64 y, .int .i64 z], .agg #[.int .i64 x, .int .i64 y, .int .i64 z]] w fun e w' => e = .returned (.bool true) ∧ Below w.heap.size w w' := by
  go_enter Tryd.func56, Tryd.ntmps56
  go_wp2
  go_ret
  exact ⟨rfl, ((Below.refl _ _).alloc (Nat.le_refl _) _).alloc (by simp) _⟩
set_option maxHeartbeats 2000000 in
theorem eqBoundS_same (B1 B2 n : Nat) (v1 v2 : Value) (F : List Int) (w : World) (h1 : Recs w B1 v1 n F) (h2 : Recs w B2 v2 n F) :
    Calls Tryd.prog 36 #[v1, v2] w fun e w' => e = .returned (.bool true) ∧ Below w.heap.size w w' := by
  obtain ⟨a1, c1, rfl, hl, -⟩ := h1.form
  obtain ⟨a2, c2, rfl, -, -⟩ := h2.form
  unfold maxLen at hl
  have H1 := Lib.hid h1
  have H2 := Lib.hid h2
  clear h1 h2
  go_enter Tryd.func36, Tryd.ntmps36
  go_wp2
  go_loopw [5] (fun i wr => ∃ k : Nat, k ≤ n ∧ i = .int .i64 k ∧ Below w.heap.size w wr) (fun i _ => n - (intOf i).toNat)
  case atStart => exact ⟨0, Nat.zero_le _, rfl, Below.refl _ _⟩
  case round =>
    obtain ⟨k, hk, rfl, hB⟩ := hrel
    have hbs := hB.size
    by_cases hlt : k < n
    · obtain ⟨ga, x, y, z, rfl, -, -, ⟨ea0, ea1, ea2⟩, ca0, ca1, ca2⟩ := (H1.out.keep hB (Nat.le_refl _)).at k hlt
      obtain ⟨gb, p, q, r, rfl, -, -, ⟨eb0, eb1, eb2⟩, cb0, cb1, cb2⟩ := (H2.out.keep hB (Nat.le_refl _)).at k hlt
      obtain rfl : x = p := ea0.symm.trans eb0
      obtain rfl : y = q := ea1.symm.trans eb1
      obtain rfl : z = r := ea2.symm.trans eb2
      go_wp2
      go_region_with (go_at_call 56; refine (eqBound_same _ _ _ _).mono ?_; rintro e W2 ⟨rfl, hb2⟩)
      all_goals
        have hB2 : Below w.heap.size w W2 := hB.trans (⟨hb2.os, hb2.tape, hb2.output, hb2.size, fun j hj => hb2.block j (Nat.lt_of_lt_of_le hj hbs)⟩ : Below w.heap.size wr W2)
        have HB2 := Lib.hid hB2
        clear hb2 hB2
        go_wp2
        go_roundw
        case rel => exact ⟨k + 1, by omega, by go_num, HB2.out⟩
        case measure => simp [intOf]; omega
    · go_wp2
      go_ret
      exact ⟨rfl, hB⟩
end Go.Proofs.YtemjohkieehojaaDoor
