/- A table of numbers that a call collects row by row, in slices of its own. -/
import Derived.Test.YtkipgeecibimoaaInts
import Derived.Test.YtkipgeecibimoaaPair
import Derived.Test.YtkipgeecibimoaaIniMath
namespace Go.Proofs.Ytkipgeecibimoaa
open Go.RowKit
set_option linter.unusedVariables false

theorem info_sl : (Try.prog.info? 30).map (fun i => (i.zero, i.size, i.bytes)) = some (some (.slice none 0 0), 1, 24) := by kernel_rfl
theorem Ints.weakB {w : World} {B C : Nat} {v : Value} {l : List Int} (h : Ints w B v l) (hc : C ≤ B) : Ints w C v l := by
  rcases h with ⟨h1, ⟨rfl, hn⟩ | ⟨g, cap, cur, rfl, hg, rest⟩⟩
  · exact ⟨h1, .inl ⟨rfl, hn⟩⟩
  · exact ⟨h1, .inr ⟨g, cap, cur, rfl, by omega, rest⟩⟩
theorem Ints.grownB {w w' : World} {B g n cap : Nat} {l : List Int} {row : Option Nat} (h : Ints w B (.slice (some ⟨g, 0, none⟩) n cap) l) (hg : w.grownBy w' row) (hne : some g ≠ row) : Ints w' B (.slice (some ⟨g, 0, none⟩) n cap) l := by
  rcases h with ⟨h1, ⟨h2, _⟩ | ⟨g1, cap1, cur, hv, hb, hh, rest⟩⟩
  · simp at h2
  · simp only [Value.slice.injEq, Option.some.injEq, Addr.mk.injEq, and_true] at hv
    obtain ⟨rfl, rfl, rfl⟩ := hv
    exact ⟨h1, .inr ⟨g, cap, cur, rfl, hb, (hg.block g (Array.getElem?_eq_some_iff.1 hh).1 hne).trans hh, rest⟩⟩
/-- a row of slices is no row of numbers -/
theorem own_ne {w : World} {B B2 : Nat} {v : Value} {r : Nat} {xs : List Value} {g n cap : Nat} {l : List Int} (h : w.ownsRow B 30 1 v r xs) (h2 : Ints w B2 (.slice (some ⟨g, 0, none⟩) n cap) l) : v.ownBlock ≠ some g := by
  intro e
  rcases h2 with ⟨_, ⟨h2, _⟩ | ⟨g1, cap1, cur, hv, _, hh, _⟩⟩
  · simp at h2
  · simp only [Value.slice.injEq, Option.some.injEq, Addr.mk.injEq, and_true] at hv
    obtain ⟨rfl, rfl, rfl⟩ := hv
    rcases h with ⟨_, ⟨rfl, _⟩ | ⟨g2, cap2, cur2, rfl, _, hh2, _⟩⟩
    · simp [Value.ownBlock] at e
    · have e2 : g2 = g := by simpa [Value.ownBlock] using e
      subst e2
      rw [hh] at hh2
      simp at hh2
def rowL (M : Nat → Nat → Int) (n i : Nat) : List Int := (List.range n).map (M i)
theorem rowL_len (M : Nat → Nat → Int) (n i : Nat) : (rowL M n i).length = n := by simp [rowL]
theorem rowL_snoc (M : Nat → Nat → Int) (k i : Nat) : rowL M (k + 1) i = rowL M k i ++ [M i k] := by simp [rowL, List.range_succ]
def outL (n r : Nat) (g c : Nat → Nat) : List Value := (List.range r).map fun i => Value.slice (some ⟨g i, 0, none⟩) n (c i)
theorem outL_len (n r : Nat) (g c : Nat → Nat) : (outL n r g c).length = r := by simp [outL]
/-- the first r rows -/
structure RowsB (w : World) (B : Nat) (v : Value) (n r : Nat) (M : Nat → Nat → Int) (g c : Nat → Nat) : Prop where
  own : w.ownsRow B 30 1 v r (outL n r g c)
  row : ∀ i, i < r → Ints w B (.slice (some ⟨g i, 0, none⟩) n (c i)) (rowL M n i)
  inj : ∀ i j, i < r → j < r → g i = g j → i = j
theorem RowsB.start (w : World) (n : Nat) (M : Nat → Nat → Int) : RowsB (w.alloc (.cells #[] 30)) w.heap.size (.slice (some ⟨w.heap.size, 0, none⟩) 0 0) n 0 M (fun _ => 0) (fun _ => 0) :=
  ⟨World.ownsRow_lit w #[] 0 (Nat.le_refl _) (Nat.zero_le _) rfl, fun i h => by omega, fun i j h => by omega⟩
theorem ownSl_keep {w w' : World} {B : Nat} {v : Value} {r : Nat} {xs : List Value} (h : w.ownsRow B 30 1 v r xs) {N : Nat} (hb : Below N w w') (hN : w.heap.size ≤ N) : w'.ownsRow B 30 1 v r xs := by
  rcases h with ⟨h1, ⟨rfl, hn⟩ | ⟨g, cap, cur, rfl, hg, hh, rest⟩⟩
  · exact ⟨h1, .inl ⟨rfl, hn⟩⟩
  · exact ⟨h1, .inr ⟨g, cap, cur, rfl, hg, (hb.block g (by have := (Array.getElem?_eq_some_iff.1 hh).1; omega)).trans hh, rest⟩⟩
theorem RowsB.keep {w w' : World} {B : Nat} {v : Value} {n r : Nat} {M : Nat → Nat → Int} {g c : Nat → Nat} (h : RowsB w B v n r M g c) {N : Nat} (hb : Below N w w') (hN : w.heap.size ≤ N) : RowsB w' B v n r M g c :=
  ⟨ownSl_keep h.own hb hN, fun i hi => (h.row i hi).keep hb hN, h.inj⟩
theorem Ints.blk {w : World} {B g n cap : Nat} {l : List Int} (h : Ints w B (.slice (some ⟨g, 0, none⟩) n cap) l) : B ≤ g ∧ g < w.heap.size := by
  rcases h with ⟨_, ⟨h2, _⟩ | ⟨g1, cap1, cur, hv, hb, hh, rest⟩⟩
  · simp at h2
  · simp only [Value.slice.injEq, Option.some.injEq, Addr.mk.injEq, and_true] at hv
    obtain ⟨rfl, rfl, rfl⟩ := hv
    exact ⟨hb, (Array.getElem?_eq_some_iff.1 hh).1⟩
/-- one row more: W is the world ahead of the row, w the one behind it, w1 the one behind its append -/
theorem RowsB.push {W w w1 : World} {B : Nat} {v v' : Value} {n r : Nat} {M : Nat → Nat → Int} {g c : Nat → Nat} {gr cr : Nat} (h0 : RowsB W B v n r M g c) (h : RowsB w B v n r M g c) (hB : B ≤ W.heap.size)
    (hrow : Ints w W.heap.size (.slice (some ⟨gr, 0, none⟩) n cr) (rowL M n r)) (o : Obj) (hg : (w.alloc o).grownBy w1 v.ownBlock) (hown : w1.ownsRow B 30 1 v' (r + 1) (outL n r g c ++ [.slice (some ⟨gr, 0, none⟩) n cr])) :
    RowsB w1 B v' n (r + 1) M (fun i => if i = r then gr else g i) (fun i => if i = r then cr else c i) := by
  have e : outL n (r + 1) (fun i => if i = r then gr else g i) (fun i => if i = r then cr else c i) = outL n r g c ++ [.slice (some ⟨gr, 0, none⟩) n cr] := by
    unfold outL
    rw [List.range_succ, List.map_append]
    congr 1
    · refine List.map_congr_left fun i hi => ?_
      have := List.mem_range.1 hi
      simp [show i ≠ r by omega]
    · simp
  have hal : Below w.heap.size w (w.alloc o) := (Below.refl _ w).alloc (Nat.le_refl _) o
  refine ⟨by rw [e]; exact hown, fun i hi => ?_, fun i j hi hj hij => ?_⟩
  · by_cases hir : i = r
    · subst hir
      simp only [if_true]
      have hr := (hrow.weakB hB).keep hal (Nat.le_refl _)
      exact hr.grownB hg (fun e => own_ne (ownSl_keep h.own hal (Nat.le_refl _)) hr e.symm)
    · simp only [if_neg hir]
      have hr := (h.row i (by omega)).keep hal (Nat.le_refl _)
      exact hr.grownB hg (fun e => own_ne (ownSl_keep h.own hal (Nat.le_refl _)) hr e.symm)
  · have b1 := hrow.blk.1
    by_cases hir : i = r
    · by_cases hjr : j = r
      · omega
      · have b2 := (h0.row j (by omega)).blk.2
        simp only [if_pos hir, if_neg hjr] at hij
        omega
    · by_cases hjr : j = r
      · have b2 := (h0.row i (by omega)).blk.2
        simp only [if_pos hjr, if_neg hir] at hij
        omega
      · simp only [if_neg hir, if_neg hjr] at hij
        exact h.inj i j (by omega) (by omega) hij

/-- the whole table, cell by cell -/
structure MatW (w : World) (B : Nat) (n : Nat) (M : Nat → Nat → Int) (go : Nat) (g c : Nat → Nat) : Prop where
  hgo : B ≤ go
  hlt : go < w.heap.size
  row : ∀ i, i < n → w.cell? ⟨go, i, none⟩ = some (.slice (some ⟨g i, 0, none⟩) n (c i))
  hg : ∀ i, i < n → B ≤ g i ∧ g i ≠ go ∧ n ≤ c i ∧ g i < w.heap.size
  inj : ∀ i j, i < n → j < n → g i = g j → i = j
  cell : ∀ i k, i < n → k < n → w.cell? ⟨g i, k, none⟩ = some (.int .i64 (M i k)) ∧ w.frozen? ⟨g i, k, none⟩ = false
theorem RowsB.mat {w : World} {B : Nat} {v : Value} {n : Nat} {M : Nat → Nat → Int} {g c : Nat → Nat} (h : RowsB w B v n n M g c) (hn : 0 < n) : ∃ go cap, v = .slice (some ⟨go, 0, none⟩) n cap ∧ n ≤ cap ∧ MatW w B n M go g c := by
  have h' := h.own
  obtain ⟨_, ⟨rfl, h0⟩ | ⟨go, cap, cur, rfl, hb, hh, hc, hm, hs, ht⟩⟩ := h.own
  · omega
  · have hne : ∀ i, i < n → g i ≠ go := fun i hi e => own_ne h' (h.row i hi) (by rw [e]; rfl)
    refine ⟨go, cap, rfl, hc, hb, (Array.getElem?_eq_some_iff.1 hh).1, fun i hi => ?_, fun i hi => ?_, h.inj, fun i k hi hk => ?_⟩
    · rw [World.ownsRow.cellAt h' i (by omega)]
      simp [outL, hi]
    · obtain ⟨b1, b2⟩ := (h.row i hi).blk
      refine ⟨b1, hne i hi, ?_, b2⟩
      obtain ⟨_, ⟨h2, _⟩ | ⟨g1, cap1, cur1, hv, _, _, hc1, _⟩⟩ := h.row i hi
      · simp at h2
      · simp only [Value.slice.injEq, Option.some.injEq, Addr.mk.injEq, and_true] at hv
        rw [rowL_len] at hc1
        omega
    · obtain ⟨a, cap2, he, _, hk2⟩ := (h.row i hi).form
      obtain ⟨g2, hg2, _, _, c1, f1⟩ := hk2 k (by rw [rowL_len]; exact hk)
      simp only [Value.slice.injEq] at he
      rw [← he.1] at hg2
      simp only [Option.some.injEq, Addr.mk.injEq, and_true] at hg2
      subst hg2
      exact ⟨by rw [c1]; simp [rowL], f1⟩
theorem MatW.below {w w' : World} {B n : Nat} {M : Nat → Nat → Int} {go : Nat} {g c : Nat → Nat} (h : MatW w B n M go g c) {N : Nat} (hb : Below N w w') (hN : w.heap.size ≤ N) : MatW w' B n M go g c :=
  ⟨h.hgo, Nat.lt_of_lt_of_le h.hlt hb.size, fun i hi => (hb.cell (p := ⟨go, i, none⟩) (Nat.lt_of_lt_of_le h.hlt hN)).trans (h.row i hi), fun i hi => by
    obtain ⟨a, b, d, e⟩ := h.hg i hi
    exact ⟨a, b, d, Nat.lt_of_lt_of_le e hb.size⟩, h.inj, fun i k hi hk => by
    obtain ⟨a, b, d, e⟩ := h.hg i hi
    exact ⟨(hb.cell (p := ⟨g i, k, none⟩) (Nat.lt_of_lt_of_le e hN)).trans (h.cell i k hi hk).1, (hb.frozen (p := ⟨g i, k, none⟩) (Nat.lt_of_lt_of_le e hN)).trans (h.cell i k hi hk).2⟩⟩
theorem MatW.set {w : World} {B n : Nat} {M : Nat → Nat → Int} {go : Nat} {g c : Nat → Nat} (h : MatW w B n M go g c) (i k : Nat) (hi : i < n) (hk : k < n) (x : Int) :
    MatW (w.setCell ⟨g i, k, none⟩ (.int .i64 x)) B n (put M i k x) go g c := by
  refine ⟨h.hgo, by simp; exact h.hlt, fun j hj => ?_, fun j hj => by simpa using h.hg j hj, h.inj, fun j m hj hm => ⟨?_, ?_⟩⟩
  · exact (World.cell?_setCell_other w _ _ _ (fun e => (h.hg i hi).2.1 (by injection e))).trans (h.row j hj)
  · by_cases he : j = i ∧ m = k
    · obtain ⟨rfl, rfl⟩ := he
      rw [World.cell?_setCell_same w _ _ (h.cell j m hj hm).1]
      simp [put]
    · rw [World.cell?_setCell_other w _ _ _ (fun e => he (by
        injection e with e1 e2
        exact ⟨h.inj j i hj hi e1.symm, e2.symm⟩))]
      rw [(h.cell j m hj hm).1]
      simp only [put, if_neg he]
  · simpa using (h.cell j m hj hm).2
end Go.Proofs.Ytkipgeecibimoaa
