/- The source of drawn choices: its next byte, a number below another one. -/
import Derived.Test.YtkfakoodejpjmaaByteB
import Derived.Test.YtkfakoodejpjmaaBits
import Derived.WalkSmall
import Derived.StillTailTactics
import Derived.BigQuiet
import Derived.Deep.QuietTactic
import Derived.Lib.FrozenHead
namespace Go.Proofs.Ytkfakoodejpjmaa
open Go.RowKit
set_option linter.unusedVariables false

abbrev TSR : Nat := 129
/-- a source at block b, that has drawn no more than N bytes -/
def Src (w : World) (b : Nat) (v : Value) (N : Nat) : Prop := ∃ (p : Nat) (sd : Int), p ≤ N ∧ w.heap[b]? = some (.cells #[v, .int .i64 (p : Int), .int .u64 sd] TSR (0, 0))
theorem and255 (x : Int) : 0 ≤ bits .and .u64 x 255 ∧ bits .and .u64 x 255 ≤ 255 := by
  have h1 : (BitVec.ofInt 64 255).toNat = 255 := by decide
  have hx : (BitVec.ofInt 64 x).toNat &&& 255 ≤ 255 := Nat.and_le_right
  have e : bits .and .u64 x 255 = (((BitVec.ofInt 64 x).toNat &&& 255 : Nat) : Int) := by
    show IntKind.u64.wrap ((BitVec.ofInt 64 x &&& BitVec.ofInt 64 255).toNat : Int) = _
    rw [BitVec.toNat_and, h1, IntKind.wrap_u64]
    omega
  rw [e]; omega
theorem and255w (x : Int) : 0 ≤ wrap64 (bits .and .u64 x 255) ∧ wrap64 (bits .and .u64 x 255) ≤ 255 := by
  have h := and255 x
  rw [IntWalk.wrap64_in _ (by omega)]; exact h
theorem src_grown (w : World) (b i j : Nat) (x y : Value) : w.grownBy ((((w.drewN i).setCell ⟨b, 1, none⟩ x).setCell ⟨b, 2, none⟩ y).drewN j) (some b) :=
  ⟨rfl, rfl, rfl, by simp, fun k _ hk => (Below.heap_setCell _ ⟨b, 2, none⟩ _ _ (fun e => hk (by rw [e]))).trans (Below.heap_setCell _ ⟨b, 1, none⟩ _ _ (fun e => hk (by rw [e])))⟩
theorem grown_belowS {w w' : World} {b : Nat} (h : w.grownBy w' (some b)) (hb : b < w.heap.size) : Below b w w' := ⟨h.os, h.tape, h.output, h.size, fun k hk => h.block k (by omega) (fun e => by cases e; omega)⟩
theorem below_dsr {B : Nat} {a w : World} (h : Below B a w) (n : Nat) : Below B a (w.drewN n) := ⟨h.os, h.tape, h.output, h.size, h.block⟩
theorem src_set {w : World} {b : Nat} {v x y : Value} (h : w.heap[b]? = some (.cells #[v, x, y] TSR (0, 0))) (x' y' : Value) : ((w.setCell ⟨b, 1, none⟩ x').setCell ⟨b, 2, none⟩ y').heap[b]? = some (.cells #[v, x', y'] TSR (0, 0)) := by
  simp [World.setCell, Array.getElem?_modify, h]

set_option maxHeartbeats 1000000 in
set_option maxRecDepth 100000 in
theorem nextS_any (b N : Nat) (a : Option Addr) (n cap : Nat) (l : List Int) (w : World) (hn : n = l.length) (hn2 : n ≤ 1048576) (hN : N ≤ 1000000) (hs : Src w b (.slice a n cap) N) (hr : ByteRow w a l) :
    Calls Try.prog 81 #[.pointer (some ⟨b, 0, none⟩)] w fun e w' => ∃ z : Int, e = .returned (.int .i64 z) ∧ (0 ≤ z ∧ z ≤ 255) ∧ Src w' b (.slice a n cap) (N + 1) ∧ w.grownBy w' (some b) ∧ w'.heap.size = w.heap.size := by
  obtain ⟨p, sd, hp, hb⟩ := hs
  have c0 : w.cell? ⟨b, 0, none⟩ = some (.slice a n cap) := by rw [Lib.cell_of_heap hb]; rfl
  have c1 : w.cell? ⟨b, 1, none⟩ = some (.int .i64 (p : Int)) := by rw [Lib.cell_of_heap hb]; rfl
  have c2 : w.cell? ⟨b, 2, none⟩ = some (.int .u64 sd) := by rw [Lib.cell_of_heap hb]; rfl
  have f1 : w.frozen? ⟨b, 1, none⟩ = false := Lib.frozen_of_heap hb 1
  have f2 : w.frozen? ⟨b, 2, none⟩ = false := Lib.frozen_of_heap hb 2
  have HB := Lib.hid hb
  have wp : IntKind.i64.wrap ((p : Int) + 1) = (p : Int) + 1 := IntWalk.i64_in _ (by omega)
  clear hb
  by_cases hlt : p < n
  · have hpl : p < l.length := by omega
    obtain ⟨h0, h⟩ := hr
    rcases h with h | ⟨g, off, rfl, hg, hc⟩
    · rw [h] at hpl; simp at hpl
    have hce := hc p hpl
    have hz := h0 l[p] (List.getElem_mem hpl)
    obtain ⟨z, hzz⟩ : ∃ z, l[p] = z := ⟨_, rfl⟩
    rw [hzz] at hce hz
    have wz : IntKind.i64.wrap z = z := IntWalk.i64_in _ (by omega)
    have hle : (p : Int) + 1 ≤ (n : Int) := by omega
    clear h0 hc hn hzz hpl
    go_enter Try.func81, Try.ntmps81
    go_wp2
    go_quiet (fail)
    go_wp2
    go_quiet (fail)
    go_wp2
    go_quiet (fail)
    go_wp2
    go_ret
    refine ⟨z, rfl, hz, ?_, ?_, ?_⟩
    · exact ⟨p + 1, _, by omega, src_set HB.out _ _⟩
    · exact src_grown w b _ _ _ _
    · simp
  · have hge : ¬ (p : Int) < (n : Int) := by omega
    have hle : ¬ (p : Int) + 1 ≤ (n : Int) := by omega
    clear hr hn
    go_enter Try.func81, Try.ntmps81
    go_wp2
    go_quiet (fail)
    go_wp2
    go_quiet (fail)
    go_wp2
    go_ret
    refine ⟨_, rfl, ?_, ?_, ?_, ?_⟩
    · exact and255w _
    · exact ⟨p + 1, _, by omega, src_set HB.out _ _⟩
    · exact src_grown w b _ _ _ _
    · simp

theorem src_more {w : World} {b : Nat} {v : Value} {N M : Nat} (h : Src w b v N) (hM : N ≤ M) : Src w b v M := by
  obtain ⟨p, sd, h1, h2⟩ := h
  exact ⟨p, sd, by omega, h2⟩
theorem grown_refl (w : World) (r : Option Nat) : w.grownBy w r := ⟨rfl, rfl, rfl, Nat.le_refl _, fun _ _ _ => rfl⟩
set_option maxRecDepth 100000 in
theorem pick_any (b N : Nat) (m : Int) (a : Option Addr) (n cap : Nat) (l : List Int) (w : World) (hn : n = l.length) (hn2 : n ≤ 1048576) (hN : N ≤ 1000000) (hs : Src w b (.slice a n cap) N) (hr : ByteRow w a l) (hm : 1 ≤ m) (hm2 : m ≤ 200) :
    Calls Try.prog 50 #[.pointer (some ⟨b, 0, none⟩), .int .i64 m] w fun e w' => ∃ z : Int, e = .returned (.int .i64 z) ∧ (0 ≤ z ∧ z < m) ∧ Src w' b (.slice a n cap) (N + 1) ∧ w.grownBy w' (some b) ∧ w'.heap.size = w.heap.size := by
  by_cases h1 : m ≤ 1
  · have hs2 := Lib.hid (src_more hs (Nat.le_succ N))
    clear hs hr hn
    go_enter Try.func50, Try.ntmps50
    go_wp2
    go_ret
    exact ⟨0, rfl, by omega, hs2.out, grown_refl _ _, rfl⟩
  · have HN := Lib.hid (nextS_any b N a n cap l w hn hn2 hN hs hr)
    have h2 : ¬ 200 < m := by omega
    have hne : (m == 0) = false := by simp; omega
    have hn0 : ¬ m = 0 := by omega
    clear hs hr hn
    go_enter Try.func50, Try.ntmps50
    go_wp2_with fail
    refine HN.out.mono ?_; rintro e w1 ⟨z, rfl, hz, hs1, hg1, hz1⟩
    have hr0 := Int.emod_nonneg z hn0
    have hr1 := Int.emod_lt_of_pos z (show 0 < m by omega)
    have wr : IntKind.i64.wrap (z.tmod m) = z % m := by rw [Int.tmod_eq_emod_of_nonneg (by omega)]; exact IntWalk.i64_in _ (by omega)
    have HS := Lib.hid hs1
    have HG := Lib.hid hg1
    have HZ := Lib.hid hz1
    clear hs1 hg1 hz1
    go_wp2
    go_ret
    exact ⟨z % m, rfl, ⟨hr0, hr1⟩, HS.out, HG.out, HZ.out⟩
set_option maxRecDepth 100000 in
theorem one_any (b N : Nat) (m : Int) (a : Option Addr) (n cap : Nat) (l : List Int) (w : World) (hn : n = l.length) (hn2 : n ≤ 1048576) (hN : N ≤ 1000000) (hs : Src w b (.slice a n cap) N) (hr : ByteRow w a l) (hm : 1 ≤ m) (hm2 : m ≤ 200) :
    Calls Try.prog 82 #[.pointer (some ⟨b, 0, none⟩), .int .i64 m] w fun e w' => ∃ r : Bool, e = .returned (.bool r) ∧ Src w' b (.slice a n cap) (N + 1) ∧ w.grownBy w' (some b) ∧ w'.heap.size = w.heap.size := by
  have HP := Lib.hid (pick_any b N m a n cap l w hn hn2 hN hs hr hm hm2)
  clear hs hr hn
  go_enter Try.func82, Try.ntmps82
  go_wp2_with fail
  refine HP.out.mono ?_; rintro e w1 ⟨z, rfl, hz, hs1, hg1, hz1⟩
  have HS := Lib.hid hs1
  have HG := Lib.hid hg1
  have HZ := Lib.hid hz1
  clear hs1 hg1 hz1
  go_wp2
  go_ret
  exact ⟨_, rfl, HS.out, HG.out, HZ.out⟩
theorem l00From_any (a : Option Addr) (n cap : Nat) (w : World) :
    Calls Try.prog 49 #[.slice a n cap] w fun e w' => e = .returned (.pointer (some ⟨w.heap.size, 0, none⟩)) ∧ Src w' w.heap.size (.slice a n cap) 0 ∧ Below w.heap.size w w' ∧ w.heap.size < w'.heap.size := by
  go_enter Try.func49, Try.ntmps49
  go_wp2
  go_ret
  refine ⟨rfl, ⟨0, 0, Nat.le_refl _, ?_⟩, (Below.refl _ _).alloc (Nat.le_refl _) _, by simp⟩
  unfold World.alloc; simp
end Go.Proofs.Ytkfakoodejpjmaa
