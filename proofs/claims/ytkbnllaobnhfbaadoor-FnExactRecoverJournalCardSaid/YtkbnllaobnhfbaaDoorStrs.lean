/- Strings in a slice: rows that came in and rows of the call's own; the copy, the size, and that two are the same. -/
import Derived.Test.YtkbnllaobnhfbaaDoorWords
import Derived.Test.YtkbnllaobnhfbaaDoorRows
import Derived.LoopTactic
import Derived.Maps.AppendAt
import Derived.BigQuiet
import Derived.Deep.QuietTactic
import Derived.OwnWalk
import Derived.IntWalk
namespace Go.Proofs.YtkbnllaobnhfbaaDoor
open Go.RowKit
set_option linter.unusedVariables false
set_option linter.unusedSimpArgs false
theorem info_str : (Tryd.prog.info? 9).map (fun i => (i.zero, i.size, i.bytes)) = some (some (.string ByteArray.empty), 1, 16) := by kernel_rfl
/-- the slice at a holds the strings l -/
def SRow (w : World) (a : Option Addr) (l : List ByteArray) : Prop := l = [] ∨ ∃ b off, a = some ⟨b, off, none⟩ ∧ b < w.heap.size ∧ ∀ k (hk : k < l.length), w.cell? ⟨b, off + k, none⟩ = some (.string l[k])
theorem SRow.keep {w w' : World} {a : Option Addr} {l : List ByteArray} (h : SRow w a l) {N : Nat} (hb : Below N w w') (hN : w.heap.size ≤ N) : SRow w' a l := by
  rcases h with h | ⟨b, off, h1, h2, h3⟩
  · exact .inl h
  · exact .inr ⟨b, off, h1, Nat.lt_of_lt_of_le h2 hb.size, fun k hk => (hb.cell (p := ⟨b, off + k, none⟩) (Nat.lt_of_lt_of_le h2 hN)).trans (h3 k hk)⟩
theorem SRow.at {w : World} {a : Option Addr} {l : List ByteArray} (h : SRow w a l) (k : Nat) (hk : k < l.length) : ∃ b off, a = some ⟨b, off, none⟩ ∧ b < w.heap.size ∧ w.cell? ⟨b, off + k, none⟩ = some (.string l[k]) := by
  rcases h with h | ⟨b, off, h1, h2, h3⟩
  · rw [h] at hk; simp at hk
  · exact ⟨b, off, h1, h2, h3 k hk⟩
/-- the slice value v of the call's own, in blocks from B on, holds the strings l -/
def Strs (w : World) (B : Nat) (v : Value) (l : List ByteArray) : Prop := w.ownsRow B 9 1 v l.length (l.map Value.string)
theorem Strs.nil (w : World) (B : Nat) : Strs w B (.slice none 0 0) [] := World.ownsRow_nil _ _ _ _
theorem Strs.lit (w : World) : Strs (w.alloc (.cells #[] 9)) w.heap.size (.slice (some ⟨w.heap.size, 0, none⟩) 0 0) [] :=
  World.ownsRow_lit w #[] 0 (Nat.le_refl _) (Nat.zero_le _) rfl
theorem Strs.form {w : World} {B : Nat} {v : Value} {l : List ByteArray} (h : Strs w B v l) : ∃ a cap, v = .slice a l.length cap ∧ l.length ≤ maxLen ∧
    ∀ k (hk : k < l.length), ∃ g, a = some ⟨g, 0, none⟩ ∧ B ≤ g ∧ g < w.heap.size ∧ w.cell? ⟨g, k, none⟩ = some (.string l[k]) ∧ w.frozen? ⟨g, k, none⟩ = false := by
  have h' := h
  rcases h with ⟨_, ⟨rfl, hn⟩ | ⟨g, cap, cur, rfl, hg, hh, hc, hm, hs, ht⟩⟩
  · exact ⟨none, 0, by rw [hn], by rw [hn]; exact Nat.zero_le _, fun k hk => by omega⟩
  · refine ⟨_, cap, rfl, Nat.le_trans hc hm, fun k hk => ⟨g, rfl, hg, (Array.getElem?_eq_some_iff.1 hh).1, ?_, ?_⟩⟩
    · rw [World.ownsRow.cellAt h' k (by omega)]; simp [List.getElem?_eq_getElem hk]
    · exact World.ownsRow.frozenAt h' k
theorem Strs.keep {w w' : World} {B : Nat} {v : Value} {l : List ByteArray} (h : Strs w B v l) {N : Nat} (hb : Below N w w') (hN : w.heap.size ≤ N) : Strs w' B v l := by
  rcases h with ⟨h1, ⟨rfl, hn⟩ | ⟨g, cap, cur, rfl, hg, hh, hc, hm, hs, ht⟩⟩
  · exact ⟨h1, .inl ⟨rfl, hn⟩⟩
  · exact ⟨h1, .inr ⟨g, cap, cur, rfl, hg, (hb.block g (by have := (Array.getElem?_eq_some_iff.1 hh).1; omega)).trans hh, hc, hm, hs, ht⟩⟩
theorem Strs.low {w : World} {B C : Nat} {v : Value} {l : List ByteArray} (h : Strs w B v l) (hc : C ≤ B) : Strs w C v l := by
  rcases h with ⟨h1, ⟨rfl, hn⟩ | ⟨g, cap, cur, rfl, hg, rest⟩⟩
  · exact ⟨h1, .inl ⟨rfl, hn⟩⟩
  · exact ⟨h1, .inr ⟨g, cap, cur, rfl, by omega, rest⟩⟩
theorem Strs.set {w : World} {B : Nat} {v : Value} {l : List ByteArray} (h : Strs w B v l) (p : Addr) (x : Value) (hp : p.block < B) : Strs (w.setCell p x) B v l := by
  rcases h with ⟨h1, ⟨rfl, hn⟩ | ⟨g, cap, cur, rfl, hg, hh, rest⟩⟩
  · exact ⟨h1, .inl ⟨rfl, hn⟩⟩
  · exact ⟨h1, .inr ⟨g, cap, cur, rfl, hg, (Below.heap_setCell _ _ _ _ (by omega)).trans hh, rest⟩⟩
theorem Strs.row {w : World} {B n cap : Nat} {a : Option Addr} {l : List ByteArray} (h : Strs w B (.slice a n cap) l) : SRow w a l ∧ n = l.length ∧ l.length ≤ maxLen := by
  obtain ⟨a', cap', hv, hm, hk⟩ := h.form
  simp only [Value.slice.injEq] at hv
  obtain ⟨rfl, rfl, rfl⟩ := hv
  refine ⟨?_, rfl, hm⟩
  by_cases h0 : l = []
  · exact .inl h0
  · have hp : 0 < l.length := by cases l with | nil => exact absurd rfl h0 | cons x xs => simp
    obtain ⟨g, h1, _, h2, _, _⟩ := hk 0 hp
    refine .inr ⟨g, 0, h1, h2, fun k hk2 => ?_⟩
    obtain ⟨g', h1', _, _, h3, _⟩ := hk k hk2
    rw [h1] at h1'
    injection h1' with e
    injection e with e1
    subst e1
    rw [Nat.zero_add]; exact h3
theorem Strs.put {w : World} {B g cap n : Nat} {l : List ByteArray} (h : Strs w B (.slice (some ⟨g, 0, none⟩) n cap) l) (j : Nat) (x : ByteArray) : Strs (w.setCell ⟨g, j, none⟩ (.string x)) B (.slice (some ⟨g, 0, none⟩) n cap) (l.set j x) := by
  have hn : n = l.length := by
    obtain ⟨a, c, he, _⟩ := h.form
    simp at he; exact he.2.1
  subst hn
  have := (World.ownsRow.stored h j (.string x)).1
  unfold Strs
  rw [List.length_set, List.map_set]
  exact this
theorem nones_list (n : Nat) : (Go.madeCells #[Value.string ByteArray.empty] n).toList = (List.replicate n ByteArray.empty).map Value.string := by
  apply List.ext_getElem
  · simp [Go.madeCells]
  · intro i h1 h2; simp [Go.madeCells, Nat.mod_one]
def cpyS (l : List ByteArray) (k : Nat) : List ByteArray := l.take k ++ List.replicate (l.length - k) ByteArray.empty
theorem cpyS_len (l : List ByteArray) (k : Nat) (hk : k ≤ l.length) : (cpyS l k).length = l.length := by simp [cpyS]; omega
theorem cpyS_step (l : List ByteArray) (k : Nat) (hk : k < l.length) : (cpyS l k).set k l[k] = cpyS l (k + 1) := by
  unfold cpyS
  rw [List.set_append, if_neg (by simp; omega)]
  have e : l.length - k = (l.length - (k + 1)) + 1 := by omega
  have ht : (l.take k).length = k := by simp; omega
  rw [ht, Nat.sub_self, e, List.replicate_succ, List.set_cons_zero]
  rw [List.take_succ_eq_append_getElem hk, List.append_assoc]
  rfl
theorem cpyS_end (l : List ByteArray) : cpyS l l.length = l := by simp [cpyS]
set_option maxHeartbeats 1000000 in
theorem toStringS_any (a : Option Addr) (n cap : Nat) (l : List ByteArray) (w : World) (hn : n = l.length) (h : SRow w a l) (hl : n ≤ 1048576) :
    Calls Tryd.prog 18 #[.slice a n cap] w fun e w' => e = .returned (.slice (some ⟨w.heap.size, 0, none⟩) n n) ∧ Strs w' w.heap.size (.slice (some ⟨w.heap.size, 0, none⟩) n n) l ∧ Below w.heap.size w w' := by
  obtain ⟨i0, hi, hz0, hz1, hz2⟩ := info_parts info_str
  have HN := Lib.hid hn
  have HA := Lib.hid h
  clear hn h
  go_enter Tryd.func18, Tryd.ntmps18
  go_wp2_with (at_make; refine wpList_make_full _ rfl _ _ 22 rfl w.heap.size 9 i0 (.string ByteArray.empty) 1 Tryd.underlying22 hi hz0 hz1 .i64 .i64 (n : Int) (n : Int) n rfl rfl rfl rfl (by rw [hz2]; omega) (by unfold maxLen; omega) (Nat.le_refl _) ?_; intro w1 hown1 hgrow1)
  have hi1 : Strs w1 w.heap.size (.slice (some ⟨w.heap.size, 0, none⟩) n n) (cpyS l 0) := by
    unfold Strs
    have e : cpyS l 0 = List.replicate n ByteArray.empty := by simp [cpyS, HN.out]
    rw [e, ← nones_list, List.length_replicate]
    have h : w1.ownsRow w.heap.size 9 1 (.slice (some ⟨w.heap.size, 0, none⟩) n n) n (madeCells (Value.string ByteArray.empty).cells n).toList := by simpa using hown1
    exact h
  have hb1w : Below w.heap.size w w1 := (Below.refl _ _).grown hgrow1 (Nat.le_refl _) (fun k e => by cases e)
  have HI1 := Lib.hid hi1
  have HB1 := Lib.hid hb1w
  clear hi1 hb1w hown1 hgrow1
  go_wp2
  go_loopw [4] (fun i wr => ∃ k : Nat, k ≤ n ∧ i = .int .i64 (k : Int) ∧ Strs wr w.heap.size (.slice (some ⟨w.heap.size, 0, none⟩) n n) (cpyS l k) ∧ Below w.heap.size w wr) (fun i _ => n - (intOf i).toNat)
  case atStart => exact ⟨0, Nat.zero_le _, rfl, HI1.out, HB1.out⟩
  case round =>
    obtain ⟨k, hk, rfl, hbuf, hB⟩ := hrel
    by_cases hlt : k < n
    · have hkl : k < l.length := by have := HN.out; omega
      rcases HA.out with h0 | ⟨b, off, rfl, hbl, hcells⟩
      · rw [h0] at hkl; simp at hkl
      have hca := (hB.cell (p := ⟨b, off + k, none⟩) hbl).trans (hcells k hkl)
      obtain ⟨y, hy⟩ : ∃ y, l[k] = y := ⟨_, rfl⟩
      have hstep := cpyS_step l k hkl
      rw [hy] at hca hstep
      obtain ⟨a', cap', hv, _, kk⟩ := hbuf.form
      simp only [Value.slice.injEq] at hv
      obtain ⟨g', hg', _, hgs, hcell, hfr⟩ := kk k (by rw [cpyS_len l k (by omega)]; exact hkl)
      obtain ⟨rfl, -, rfl⟩ := hv
      simp only [Option.some.injEq, Addr.mk.injEq, and_true] at hg'
      subst hg'
      obtain ⟨xx, hcx⟩ : ∃ xx, wr.cell? ⟨w.heap.size, k, none⟩ = some xx := ⟨_, hcell⟩
      have hput := hbuf.put k y
      rw [hstep] at hput
      have HI := Lib.hid hput
      clear hbuf kk hcell hput hstep hcells hy hkl
      go_wp2
      go_roundw
      case rel => exact ⟨k + 1, by omega, by go_num, HI.out, hB.setCell (Nat.le_refl _) _⟩
      case measure => simp [intOf]; omega
    · obtain rfl : k = n := by omega
      have HI := Lib.hid hbuf
      clear hbuf
      go_wp2
      go_ret
      exact ⟨rfl, by have := HI.out; rw [HN.out, cpyS_end] at this; rw [HN.out]; exact this, hB⟩
theorem szStringS_any (a : Option Addr) (n cap : Nat) (l : List ByteArray) (c : Int) (w : World) (hn : n = l.length) (h : SRow w a l) (hc : 0 ≤ c) (hc2 : c ≤ 1048576) (hm : n ≤ 9223372036854775807) (hs : ∀ k (hk : k < l.length), l[k].size ≤ maxLen) :
    Calls Tryd.prog 16 #[.slice a n cap, .int .i64 c] w fun e w' => ∃ r : Int, e = .returned (.int .i64 r) ∧ (r = -1 ∨ (0 ≤ r ∧ r ≤ c ∧ (n : Int) ≤ c)) ∧ w = w' := by
  have HN := Lib.hid hn
  have HA := Lib.hid h
  have HS := Lib.hid hs
  clear hn h hs
  have wr0 : IntKind.i64.wrap (c - (n : Int)) = c - (n : Int) := IntWalk.i64_in _ (by omega)
  go_enter Tryd.func16, Tryd.ntmps16
  by_cases hnc : (n : Int) ≤ c
  · have t0 : decide (c - (n : Int) < 0) = false := decide_eq_false (by omega)
    have t1 : ¬ c - (n : Int) < 0 := by omega
    go_wp2
    go_loop [1, 5] (fun r i => ∃ (k : Nat) (q : Int), k ≤ n ∧ i = .int .i64 (k : Int) ∧ r = .int .i64 q ∧ 0 ≤ q ∧ q ≤ c) (fun _ i => n - (intOf i).toNat)
    case atStart => exact ⟨0, c - (n : Int), Nat.zero_le _, rfl, rfl, by omega, by omega⟩
    case round =>
      obtain ⟨k, q, hk, rfl, rfl, hq0, hqc⟩ := hrel
      by_cases hlt : k < n
      · have hkl : k < l.length := by have := HN.out; omega
        obtain ⟨b, off, rfl, hbl, hcell⟩ := HA.out.at k hkl
        have hsz := HS.out k hkl
        unfold maxLen at hsz
        obtain ⟨y, hy⟩ : ∃ y, l[k] = y := ⟨_, rfl⟩
        rw [hy] at hcell hsz
        clear hy hkl
        have wr1 : IntKind.i64.wrap (q - (y.size : Int)) = q - (y.size : Int) := IntWalk.i64_in _ (by omega)
        by_cases hneg : q - (y.size : Int) < 0
        · have t2 : decide (q - (y.size : Int) < 0) = true := decide_eq_true hneg
          go_wp2
          go_ret
          exact ⟨_, rfl, .inl rfl, rfl⟩
        · have t2 : decide (q - (y.size : Int) < 0) = false := decide_eq_false hneg
          go_wp2
          go_round
          case rel => exact ⟨k + 1, _, by omega, by go_num, rfl, by omega, by omega⟩
          case measure => simp [intOf]; omega
      · obtain rfl : k = n := by omega
        go_wp2
        go_ret
        exact ⟨q, rfl, .inr ⟨hq0, hqc⟩, rfl⟩
  · have t0 : decide (c - (n : Int) < 0) = true := decide_eq_true (by omega)
    have t1 : c - (n : Int) < 0 := by omega
    go_wp2
    go_ret
    exact ⟨_, rfl, .inl rfl, rfl⟩
theorem eqStringS_same (a1 a2 : Option Addr) (n c1 c2 : Nat) (l : List ByteArray) (w : World) (hn : n = l.length) (hm : n ≤ maxLen) (h1 : SRow w a1 l) (h2 : SRow w a2 l) :
    Calls Tryd.prog 20 #[.slice a1 n c1, .slice a2 n c2] w fun e w' => e = .returned (.bool true) ∧ ∃ q, w' = w.drewN q := by
  unfold maxLen at hm
  have HN := Lib.hid hn
  have K1 := Lib.hid h1
  have K2 := Lib.hid h2
  clear h1 h2 hn
  go_enter Tryd.func20, Tryd.ntmps20
  go_wp2
  go_loopw [5] (fun i wr => ∃ k : Nat, k ≤ n ∧ i = .int .i64 k ∧ ∃ q, wr = w.drewN q) (fun i _ => n - (intOf i).toNat)
  case atStart => exact ⟨0, Nat.zero_le _, rfl, 0, rfl⟩
  case round =>
    obtain ⟨k, hk, rfl, q, rfl⟩ := hrel
    by_cases hlt : k < n
    · have hkl : k < l.length := by have := HN.out; omega
      obtain ⟨b1, o1, rfl, _, hc1⟩ := K1.out.at k hkl
      obtain ⟨b2, o2, rfl, _, hc2⟩ := K2.out.at k hkl
      obtain ⟨y, hy⟩ : ∃ y, l[k] = y := ⟨_, rfl⟩
      rw [hy] at hc1 hc2
      clear hy hkl
      have t1 : (y.toList == y.toList) = true := by simp
      go_wp2
      go_quiet (fail)
      go_wp2
      go_roundw
      case rel => exact ⟨k + 1, by omega, by go_num, _, rfl⟩
      case measure => simp [intOf]; omega
    · go_wp2
      go_ret
      exact ⟨rfl, q, rfl⟩
end Go.Proofs.YtkbnllaobnhfbaaDoor
