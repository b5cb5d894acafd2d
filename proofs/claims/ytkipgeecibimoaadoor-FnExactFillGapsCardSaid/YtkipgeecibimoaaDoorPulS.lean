/- The ticks at which pulses begin that are too short: the model's side. -/
import Derived.Test.YtkipgeecibimoaaDoorPulI
import Derived.Test.YtkipgeecibimoaaDoorWaveStr
import Derived.Test.YtkipgeecibimoaaDoorIn64
import Derived.BigQuiet
import Derived.Deep.QuietTactic
namespace Go.Proofs.YtkipgeecibimoaaDoor
open Go.RowKit Go.Shelf
set_option linter.unusedVariables false
set_option linter.unusedSimpArgs false

def ShoR (w : World) (l : List Int) (ok : Bool) (e : Ending) (w' : World) : Prop := ∃ v, e = .returned (.tuple #[v, .bool ok]) ∧ Ints w' w.heap.size v l ∧ Below w.heap.size w w'
theorem Ints.weak {w : World} {B C : Nat} {v : Value} {l : List Int} (h : Ints w B v l) (hc : C ≤ B) : Ints w C v l := World.ownsRow.mono h hc
theorem Ints.at {w : World} {B n cap : Nat} {a : Option Addr} {l : List Int} (h : Ints w B (.slice a n cap) l) (k : Nat) (hk : k < l.length) :
    ∃ g, a = some ⟨g, 0, none⟩ ∧ B ≤ g ∧ g < w.heap.size ∧ w.cell? ⟨g, k, none⟩ = some (.int .i64 (l.getD k 0)) := by
  obtain ⟨a', cap', hv, _, kk⟩ := h.form
  simp only [Value.slice.injEq] at hv
  obtain ⟨rfl, -, -⟩ := hv
  obtain ⟨g, h1, h2, h3, h4, _⟩ := kk k hk
  exact ⟨g, h1, h2, h3, by rw [h4, List.getD_eq_getElem?_getD, List.getElem?_eq_getElem hk]; rfl⟩
theorem ints_below2 {B : Nat} {w wr w1 : World} {v : Value} {l : List Int} (hB : Below B w wr) (hBw : B ≤ w.heap.size) (h : Ints wr B v l) (o : Obj) (hg : (wr.alloc o).grownBy w1 v.ownBlock) : Below B w w1 :=
  (hB.alloc (Nat.le_trans hBw hB.size) o).grown hg (by have := hB.size; simp; omega) (fun k e => ((World.ownsRow.alloc h o).lt k e).1)
theorem endsL_len (n : Int) (us ds : List Int) (h : us.length = ds.length ∨ us.length = ds.length + 1) : (endsL n us ds).length = us.length := by
  unfold endsL; split
  · simp; omega
  · omega
theorem endsL_getD (n : Int) (us ds : List Int) (i : Nat) (hi : i < us.length) (h : us.length = ds.length ∨ us.length = ds.length + 1) : (endsL n us ds).getD i 0 = if i < ds.length then ds.getD i 0 else n := by
  unfold endsL
  split
  · split
    · rw [List.getD_eq_getElem?_getD, List.getElem?_append_left (by assumption), ← List.getD_eq_getElem?_getD]
    · have : i = ds.length := by omega
      subst this
      rw [List.getD_eq_getElem?_getD, List.getElem?_append_right (Nat.le_refl _)]; simp
  · rw [if_pos (by omega)]

set_option maxHeartbeats 2000000 in
set_option maxRecDepth 100000 in
theorem specPul (s : ByteArray) (w : World) (hs : s.size ≤ 400) :
    Calls Tryd.prog 32 #[.string s] w fun e W' => ∃ v1 v2, e = .returned (.tuple #[v1, v2]) ∧ Ints W' w.heap.size v1 (edgesL 49 s.data.toList s.size) ∧ Ints W' w.heap.size v2 (endsL (s.size : Int) (edgesL 49 s.data.toList s.size) (edgesL 48 s.data.toList s.size)) ∧ Below w.heap.size w W' := by
  obtain ⟨i0, hi, hz0, hz1, hz2⟩ := info_parts info_i64
  have HS1 := Lib.hid (fun w => specEdges 49 s w (by omega))
  have HS2 := Lib.hid (fun w => specEdges 48 s w (by omega))
  have len1 := edgesL_len 49 s.data.toList s.size
  have len2 := edgesL_len 48 s.data.toList s.size
  obtain ⟨us, hus⟩ : ∃ us, edgesL 49 s.data.toList s.size = us := ⟨_, rfl⟩
  obtain ⟨ds, hds⟩ : ∃ us, edgesL 48 s.data.toList s.size = us := ⟨_, rfl⟩
  rw [hus] at HS1 len1 ⊢
  rw [hds] at HS2 len2 ⊢
  clear hus hds
  go_enter Tryd.func32, Tryd.ntmps32
  go_wp2_with fail
  refine (HS1.out _).mono ?_; rintro e w1 ⟨v1, rfl, i1, b1⟩
  have HI1 := Lib.hid i1
  clear i1
  have hz1s := b1.size
  go_wp2_with fail
  refine (HS2.out _).mono ?_; rintro e w2 ⟨v2, rfl, i2, b2⟩
  have hz2s := b2.size
  have HI12 := Lib.hid (HI1.out.keep b2 (Nat.le_refl _))
  have HI2 := Lib.hid i2
  have HB2 := Lib.hid (b1.trans (b2.mono hz1s))
  have HB12 := Lib.hid b2
  have HB1 := Lib.hid b1
  clear i2 b1 b2
  obtain ⟨a1, cap1, rfl, hm1, _⟩ := HI12.out.form
  obtain ⟨a2, cap2, rfl, hm2, _⟩ := HI2.out.form
  by_cases hlt : ds.length < us.length
  · have hE : endsL (s.size : Int) us ds = ds ++ [(s.size : Int)] := by unfold endsL; rw [if_pos hlt]
    have HE := Lib.hid hE
    clear hE
    have hlt2 : (ds.length : Int) < (us.length : Int) := by omega
    go_wp2_with (at_builtin; refine wpList_append_own _ rfl _ _ 29 rfl w1.heap.size 2 i0 (.int .i64 0) 1 8 Tryd.underlying29 hi hz0 hz1 hz2 rfl (by decide) _ _ _ rfl (HI2.out.alloc _) ⟨w2.heap.size, 0, none⟩ 1 1 [.int .i64 (s.size : Int)] rfl rfl ?c1 ?c2 ?c3 ?c4 ?c5 ?_)
    case c1 => exact cell_one_new _ _ _
    case c2 => simp [Value.oneCell']
    case c3 => unfold maxLen; omega
    case c4 => omega
    case c5 => first | omega | (simp; omega)
    intro v' w3 hown' hgrow _
    have HO := Lib.hid (Ints.snoc hown')
    have HW3 := Lib.hid (Ints.below HB12.out HI2.out _ hgrow)
    clear hown' hgrow
    go_wp2
    go_ret2
    exact ⟨_, _, rfl, HI1.out.keep HW3.out (Nat.le_refl _), by rw [HE.out]; exact HO.out.weak hz1s, HB1.out.trans (HW3.out.mono hz1s)⟩
  · have hE : endsL (s.size : Int) us ds = ds := by unfold endsL; rw [if_neg hlt]
    have HE := Lib.hid hE
    clear hE
    have hlt2 : ¬ (ds.length : Int) < (us.length : Int) := by omega
    go_wp2
    go_ret2
    exact ⟨_, _, rfl, HI12.out, by rw [HE.out]; exact HI2.out.weak hz1s, HB2.out⟩
end Go.Proofs.YtkipgeecibimoaaDoor
