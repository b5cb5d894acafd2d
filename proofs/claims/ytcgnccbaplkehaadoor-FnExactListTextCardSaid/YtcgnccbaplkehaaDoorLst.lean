/- Contracts: the copy of a list of numbers that came in; the numbers of a list of the call's own. -/
import Derived.Test.YtcgnccbaplkehaaDoorInts
import Derived.Test.YtcgnccbaplkehaaDoorTab
import Derived.Test.YtcgnccbaplkehaaDoorHas
import Derived.OwnWalk
namespace Go.Proofs.YtcgnccbaplkehaaDoor
open Go.RowKit
set_option linter.unusedVariables false

/-- the slice at a, that came in, holds the numbers l -/
def ArgRow (w : World) (a : Option Addr) (l : List Int) : Prop := l = [] ∨ ∃ b off, a = some ⟨b, off, none⟩ ∧ b < w.heap.size ∧ ∀ k (hk : k < l.length), w.cell? ⟨b, off + k, none⟩ = some (.int .i64 l[k])
theorem ArgRow.keep {w w' : World} {a : Option Addr} {l : List Int} (h : ArgRow w a l) {N : Nat} (hb : Below N w w') (hN : w.heap.size ≤ N) : ArgRow w' a l := by
  rcases h with h | ⟨b, off, h1, h2, h3⟩
  · exact .inl h
  · exact .inr ⟨b, off, h1, Nat.lt_of_lt_of_le h2 hb.size, fun k hk => (hb.cell (p := ⟨b, off + k, none⟩) (Nat.lt_of_lt_of_le h2 hN)).trans (h3 k hk)⟩

def cpyL (l : List Int) (k : Nat) : List Int := l.take k ++ List.replicate (l.length - k) 0
theorem cpyL_len (l : List Int) (k : Nat) (hk : k ≤ l.length) : (cpyL l k).length = l.length := by simp [cpyL]; omega
theorem cpyL_step (l : List Int) (k : Nat) (hk : k < l.length) : (cpyL l k).set k l[k] = cpyL l (k + 1) := by
  unfold cpyL
  rw [List.set_append, if_neg (by simp; omega)]
  have e : l.length - k = (l.length - (k + 1)) + 1 := by omega
  have ht : (l.take k).length = k := by simp; omega
  rw [ht, Nat.sub_self, e, List.replicate_succ, List.set_cons_zero]
  rw [List.take_succ_eq_append_getElem hk, List.append_assoc]
  rfl
theorem cpyL_end (l : List Int) : cpyL l l.length = l := by simp [cpyL]

set_option maxHeartbeats 1000000 in
theorem toInt64S_any (a : Option Addr) (n cap : Nat) (l : List Int) (w : World) (hn : n = l.length) (h : ArgRow w a l) (hl : n ≤ 1048576) :
    Calls Tryd.prog 6 #[.slice a n cap] w fun e w' => e = .returned (.slice (some ⟨w.heap.size, 0, none⟩) n n) ∧ Ints w' w.heap.size (.slice (some ⟨w.heap.size, 0, none⟩) n n) l ∧ Below w.heap.size w w' := by
  obtain ⟨i0, hi, hz0, hz1, hz2⟩ := info_parts info_i64
  have HN := Lib.hid hn
  have HA := Lib.hid h
  clear hn h
  go_enter Tryd.func6, Tryd.ntmps6
  go_wp2_with (at_make; refine wpList_make_full _ rfl _ _ 22 rfl w.heap.size 2 i0 (.int .i64 0) 1 Tryd.underlying22 hi hz0 hz1 .i64 .i64 (n : Int) (n : Int) n rfl rfl rfl rfl (by rw [hz2]; omega) (by unfold maxLen; omega) (Nat.le_refl _) ?_; intro w1 hown1 hgrow1)
  have hi1 : Ints w1 w.heap.size (.slice (some ⟨w.heap.size, 0, none⟩) n n) (cpyL l 0) := by
    unfold Ints
    have e : cpyL l 0 = List.replicate n 0 := by simp [cpyL, HN.out]
    rw [e, ← zeros_list, List.length_replicate]
    have h : w1.ownsRow w.heap.size 2 1 (.slice (some ⟨w.heap.size, 0, none⟩) n n) n (madeCells (Value.int IntKind.i64 0).cells n).toList := by simpa using hown1
    exact h
  have hb1w : Below w.heap.size w w1 := (Below.refl _ _).grown hgrow1 (Nat.le_refl _) (fun k e => by cases e)
  have HI1 := Lib.hid hi1
  have HB1 := Lib.hid hb1w
  clear hi1 hb1w hown1 hgrow1
  go_wp2
  go_loopw [4] (fun i wr => ∃ k : Nat, k ≤ n ∧ i = .int .i64 (k : Int) ∧ Ints wr w.heap.size (.slice (some ⟨w.heap.size, 0, none⟩) n n) (cpyL l k) ∧ Below w.heap.size w wr) (fun i _ => n - (intOf i).toNat)
  case atStart => exact ⟨0, Nat.zero_le _, rfl, HI1.out, HB1.out⟩
  case round =>
    obtain ⟨k, hk, rfl, hbuf, hB⟩ := hrel
    by_cases hlt : k < n
    · have hkl : k < l.length := by have := HN.out; omega
      rcases HA.out with h0 | ⟨b, off, rfl, hbl, hcells⟩
      · rw [h0] at hkl; simp at hkl
      have hca := (hB.cell (p := ⟨b, off + k, none⟩) hbl).trans (hcells k hkl)
      obtain ⟨y, hy⟩ : ∃ y, l[k] = y := ⟨_, rfl⟩
      have hstep := cpyL_step l k hkl
      rw [hy] at hca hstep
      obtain ⟨a', cap', hv, _, kk⟩ := hbuf.form
      simp only [Value.slice.injEq] at hv
      obtain ⟨g', hg', _, hgs, hcell, hfr⟩ := kk k (by rw [cpyL_len l k (by omega)]; exact hkl)
      obtain ⟨rfl, -, rfl⟩ := hv
      simp only [Option.some.injEq, Addr.mk.injEq, and_true] at hg'
      subst hg'
      obtain ⟨xx, hcx⟩ : ∃ xx, wr.cell? ⟨w.heap.size, k, none⟩ = some xx := ⟨_, hcell⟩
      have hput := hbuf.put k y
      rw [hstep] at hput
      have HI := Lib.hid hput
      clear hbuf kk hcell hput hstep hcells hy hkl
      go_wp2
      go_roundw
      case rel => exact ⟨k + 1, by omega, by go_num, HI.out, hB.setCell (Nat.le_refl _) _⟩
      case measure => simp [intOf]; omega
    · obtain rfl : k = n := by omega
      have HI := Lib.hid hbuf
      clear hbuf
      go_wp2
      go_ret
      exact ⟨rfl, by have := HI.out; rw [HN.out, cpyL_end] at this; rw [HN.out]; exact this, hB⟩


theorem getD_of {T : List Int} {k : Nat} (hk : k < T.length) : T[k] = T.getD k 0 := by rw [List.getD_eq_getElem?_getD, List.getElem?_eq_getElem hk]; rfl
/-- a number of a row of the call's own -/
theorem Ints.at {w : World} {B n cap : Nat} {a : Option Addr} {T : List Int} (h : Ints w B (.slice a n cap) T) (k : Nat) (hk : k < T.length) : ∃ g, a = some ⟨g, 0, none⟩ ∧ w.cell? ⟨g, k, none⟩ = some (.int .i64 (T.getD k 0)) := by
  obtain ⟨a', cap', hv, _, kk⟩ := h.form
  simp only [Value.slice.injEq] at hv
  obtain ⟨rfl, -, rfl⟩ := hv
  obtain ⟨g, h1, -, -, h2, -⟩ := kk k hk
  exact ⟨g, h1, by rw [h2, getD_of hk]⟩

/-- a list that rises, from 0 to hi -/
def rsK (T : List Int) (hi : Int) (k : Nat) : Bool := decide (0 ≤ T.getD k 0 ∧ T.getD k 0 ≤ hi ∧ (k = 0 ∨ T.getD (k - 1) 0 < T.getD k 0))
def risesB (T : List Int) (hi : Int) : Bool := (List.range T.length).all (rsK T hi)
theorem rngL_step (f : Nat → Bool) (k : Nat) (h0 : (List.range k).all f = true) (h : f k = true) : (List.range (k + 1)).all f = true := by
  rw [List.range_succ, List.all_append, h0]; simp [h]
theorem rngL_bad (f : Nat → Bool) (k n : Nat) (hk : k < n) (h : f k = false) : (List.range n).all f = false := by
  rw [List.all_eq_false]; exact ⟨k, List.mem_range.2 hk, by simp [h]⟩
theorem rises_at {T : List Int} {hi : Int} (h : risesB T hi = true) (k : Nat) (hk : k < T.length) : 0 ≤ T.getD k 0 ∧ T.getD k 0 ≤ hi ∧ (k = 0 ∨ T.getD (k - 1) 0 < T.getD k 0) := by
  have := List.all_eq_true.1 h k (List.mem_range.2 hk); unfold rsK at this; simpa using this
theorem rises_lt {T : List Int} (h : ∀ k, k + 1 < T.length → T.getD k 0 < T.getD (k + 1) 0) (i d : Nat) (hj : i + d < T.length) : T.getD i 0 ≤ T.getD (i + d) 0 := by
  induction d with
  | zero => exact Int.le_refl _
  | succ d ih => have h1 := ih (by omega); have h2 := h (i + d) (by omega); rw [← Nat.add_assoc]; omega
theorem rises_sorted {T : List Int} (h : ∀ k, k + 1 < T.length → T.getD k 0 < T.getD (k + 1) 0) : T.Pairwise (· ≤ ·) := by
  rw [List.pairwise_iff_getElem]
  intro i j hi hj hij
  rw [getD_of hi, getD_of hj]
  have := rises_lt h i (j - i) (by omega)
  rwa [show i + (j - i) = j by omega] at this
theorem incr_of {T : List Int} (h : ∀ k, k < T.length → k = 0 ∨ T.getD (k - 1) 0 < T.getD k 0) : ∀ k, k + 1 < T.length → T.getD k 0 < T.getD (k + 1) 0 := fun k hk => by
  rcases h (k + 1) hk with h | h
  · omega
  · simpa using h
/-- out of the first, the last, and that each is greater than the one before -/
theorem rises_of {T : List Int} {hi : Int} (h : ∀ k, k < T.length → k = 0 ∨ T.getD (k - 1) 0 < T.getD k 0) (h0 : 0 ≤ T.getD 0 0) (h1 : T.getD (T.length - 1) 0 ≤ hi) : risesB T hi = true := by
  unfold risesB
  rw [List.all_eq_true]
  intro k hk
  have hk := List.mem_range.1 hk
  have a := rises_lt (incr_of h) 0 k (by omega)
  have b := rises_lt (incr_of h) k (T.length - 1 - k) (by omega)
  rw [Nat.zero_add] at a
  rw [show k + (T.length - 1 - k) = T.length - 1 by omega] at b
  unfold rsK
  exact decide_eq_true ⟨by omega, by omega, h k hk⟩

/-- one tick: nothing, where an edge goes to the level that is there -/
def wfStep (u d : Bool) (lv : UInt8) : Option UInt8 := if (u && decide (lv = 49)) || (d && decide (lv = 48)) then none else some (if u then 49 else if d then 48 else lv)
def wfR (U D : List Int) : Nat → Option (List UInt8 × UInt8)
  | 0 => some ([], 48)
  | i + 1 => match wfR U D i with
    | none => none
    | some (L, lv) => match wfStep (hasB U (i : Int)) (hasB D (i : Int)) lv with
      | none => none
      | some c => some (L ++ [c], c)
theorem wfR_next {U D : List Int} {i : Nat} {L : List UInt8} {lv c : UInt8} (h : wfR U D i = some (L, lv)) (hs : wfStep (hasB U (i : Int)) (hasB D (i : Int)) lv = some c) : wfR U D (i + 1) = some (L ++ [c], c) := by
  rw [wfR, h]; simp only; rw [hs]
theorem wfR_stop {U D : List Int} {i : Nat} {L : List UInt8} {lv : UInt8} (h : wfR U D i = some (L, lv)) (hs : wfStep (hasB U (i : Int)) (hasB D (i : Int)) lv = none) (n : Nat) (hn : i < n) : wfR U D n = none := by
  obtain ⟨d, rfl⟩ : ∃ d, n = i + 1 + d := ⟨n - (i + 1), by omega⟩
  induction d with
  | zero => rw [Nat.add_zero, wfR, h]; simp only; rw [hs]
  | succ d ih => rw [← Nat.add_assoc, wfR, ih (by omega)]
def wfRes (U D : List Int) (n : Nat) : ByteArray × Bool := match wfR U D n with
  | none => (⟨#[]⟩, false)
  | some (L, _) => (⟨L.toArray⟩, true)
theorem wfRes_none {U D : List Int} {n : Nat} (h : wfR U D n = none) : wfRes U D n = (⟨#[]⟩, false) := by unfold wfRes; rw [h]
theorem wfRes_some {U D : List Int} {n : Nat} {L : List UInt8} {lv : UInt8} (h : wfR U D n = some (L, lv)) : wfRes U D n = (⟨L.toArray⟩, true) := by unfold wfRes; rw [h]
end Go.Proofs.YtcgnccbaplkehaaDoor
