/- Contracts: the copy of a list of numbers and of a counter that came in; how great they are. -/
import Derived.Test.YtomdoamfdidghabInts
import Derived.Test.YtomdoamfdidghabPair
import Derived.Test.YtomdoamfdidghabTab
import Derived.OwnWalk
namespace Go.Proofs.Ytomdoamfdidghab
open Go.RowKit

/-- the slice at a, that came in, holds the numbers l -/
def ArgRow (w : World) (a : Option Addr) (l : List Int) : Prop := l = [] ∨ ∃ b off, a = some ⟨b, off, none⟩ ∧ b < w.heap.size ∧ ∀ k (hk : k < l.length), w.cell? ⟨b, off + k, none⟩ = some (.int .i64 l[k])
theorem ArgRow.keep {w w' : World} {a : Option Addr} {l : List Int} (h : ArgRow w a l) {N : Nat} (hb : Below N w w') (hN : w.heap.size ≤ N) : ArgRow w' a l := by
  rcases h with h | ⟨b, off, h1, h2, h3⟩
  · exact .inl h
  · exact .inr ⟨b, off, h1, Nat.lt_of_lt_of_le h2 hb.size, fun k hk => (hb.cell (p := ⟨b, off + k, none⟩) (Nat.lt_of_lt_of_le h2 hN)).trans (h3 k hk)⟩

def cpyL (l : List Int) (k : Nat) : List Int := l.take k ++ List.replicate (l.length - k) 0
theorem cpyL_len (l : List Int) (k : Nat) (hk : k ≤ l.length) : (cpyL l k).length = l.length := by simp [cpyL]; omega
theorem cpyL_step (l : List Int) (k : Nat) (hk : k < l.length) : (cpyL l k).set k l[k] = cpyL l (k + 1) := by
  unfold cpyL
  rw [List.set_append, if_neg (by simp; omega)]
  have e : l.length - k = (l.length - (k + 1)) + 1 := by omega
  have ht : (l.take k).length = k := by simp; omega
  rw [ht, Nat.sub_self, e, List.replicate_succ, List.set_cons_zero]
  rw [List.take_succ_eq_append_getElem hk, List.append_assoc]
  rfl
theorem cpyL_end (l : List Int) : cpyL l l.length = l := by simp [cpyL]

set_option maxHeartbeats 1000000 in
theorem toInt64S_any (a : Option Addr) (n cap : Nat) (l : List Int) (w : World) (hn : n = l.length) (h : ArgRow w a l) (hl : n ≤ 1048576) :
    Calls Try.prog 18 #[.slice a n cap] w fun e w' => ∃ v, e = .returned v ∧ Ints w' w.heap.size v l ∧ Below w.heap.size w w' := by
  obtain ⟨i0, hi, hz0, hz1, hz2⟩ := info_parts info_i64
  have HN := Lib.hid hn
  have HA := Lib.hid h
  clear hn h
  go_enter Try.func18, Try.ntmps18
  go_wp2_with (at_make; refine wpList_make_full _ rfl _ _ 22 rfl w.heap.size 2 i0 (.int .i64 0) 1 Try.underlying22 hi hz0 hz1 .i64 .i64 (n : Int) (n : Int) n rfl rfl rfl rfl (by rw [hz2]; omega) (by unfold maxLen; omega) (Nat.le_refl _) ?_; intro w1 hown1 hgrow1)
  have hi1 : Ints w1 w.heap.size (.slice (some ⟨w.heap.size, 0, none⟩) n n) (cpyL l 0) := by
    unfold Ints
    have e : cpyL l 0 = List.replicate n 0 := by simp [cpyL, HN.out]
    rw [e, ← zeros_list, List.length_replicate]
    have h : w1.ownsRow w.heap.size 2 1 (.slice (some ⟨w.heap.size, 0, none⟩) n n) n (madeCells (Value.int IntKind.i64 0).cells n).toList := by simpa using hown1
    exact h
  have hb1w : Below w.heap.size w w1 := (Below.refl _ _).grown hgrow1 (Nat.le_refl _) (fun k e => by cases e)
  have HI1 := Lib.hid hi1
  have HB1 := Lib.hid hb1w
  clear hi1 hb1w hown1 hgrow1
  go_wp2
  go_loopw [4] (fun i wr => ∃ k : Nat, k ≤ n ∧ i = .int .i64 (k : Int) ∧ Ints wr w.heap.size (.slice (some ⟨w.heap.size, 0, none⟩) n n) (cpyL l k) ∧ Below w.heap.size w wr) (fun i _ => n - (intOf i).toNat)
  case atStart => exact ⟨0, Nat.zero_le _, rfl, HI1.out, HB1.out⟩
  case round =>
    obtain ⟨k, hk, rfl, hbuf, hB⟩ := hrel
    by_cases hlt : k < n
    · have hkl : k < l.length := by have := HN.out; omega
      rcases HA.out with h0 | ⟨b, off, rfl, hbl, hcells⟩
      · rw [h0] at hkl; simp at hkl
      have hca := (hB.cell (p := ⟨b, off + k, none⟩) hbl).trans (hcells k hkl)
      obtain ⟨y, hy⟩ : ∃ y, l[k] = y := ⟨_, rfl⟩
      have hstep := cpyL_step l k hkl
      rw [hy] at hca hstep
      obtain ⟨a', cap', hv, _, kk⟩ := hbuf.form
      simp only [Value.slice.injEq] at hv
      obtain ⟨g', hg', _, hgs, hcell, hfr⟩ := kk k (by rw [cpyL_len l k (by omega)]; exact hkl)
      obtain ⟨rfl, -, rfl⟩ := hv
      simp only [Option.some.injEq, Addr.mk.injEq, and_true] at hg'
      subst hg'
      obtain ⟨xx, hcx⟩ : ∃ xx, wr.cell? ⟨w.heap.size, k, none⟩ = some xx := ⟨_, hcell⟩
      have hput := hbuf.put k y
      rw [hstep] at hput
      have HI := Lib.hid hput
      clear hbuf kk hcell hput hstep hcells hy hkl
      go_wp2
      go_roundw
      case rel => exact ⟨k + 1, by omega, by go_num, HI.out, hB.setCell (Nat.le_refl _) _⟩
      case measure => simp [intOf]; omega
    · obtain rfl : k = n := by omega
      have HI := Lib.hid hbuf
      clear hbuf
      go_wp2
      go_ret
      exact ⟨_, rfl, by have := HI.out; rw [HN.out, cpyL_end] at this; rw [HN.out]; exact this, hB⟩

theorem toCounter_any (m : Int) (a : Option Addr) (n cap : Nat) (l : List Int) (w : World) (hn : n = l.length) (h : ArgRow w a l) (hl : n ≤ 1048576) :
    Calls Try.prog 8 #[.agg #[.int .i64 m, .slice a n cap]] w fun e w' => ∃ v, e = .returned (.agg #[.int .i64 m, v]) ∧ Ints w' w.heap.size v l ∧ Below w.heap.size w w' := by
  have HN := Lib.hid hn
  have HA := Lib.hid h
  clear hn h
  go_enter Try.func8, Try.ntmps8
  go_wp2_with fail
  refine (toInt64S_any a n cap l _ HN.out (HA.out.keep ((((Below.refl w.heap.size w).alloc (Nat.le_refl _) (.cells #[.int .i64 m, .slice a n cap] 24)).alloc (by simp) (.cells #[.int .i64 0, .slice none 0 0] 28)).alloc (by simp; omega) (.cells #[.int .i64 m, .slice none 0 0] 28)) (Nat.le_refl _)) hl).mono ?_
  rintro e w1 ⟨v, rfl, hi, hb⟩
  obtain ⟨av, cv, rfl, -, -⟩ := hi.form
  have hA := ((At2.new (w.alloc (.cells #[.int .i64 m, .slice a n cap] 24)) (.int .i64 0) (.slice none 0 0) 28).alloc (.cells #[.int .i64 m, .slice none 0 0] 28)).below hb (by simp)
  have hB := (At2.new ((w.alloc (.cells #[.int .i64 m, .slice a n cap] 24)).alloc (.cells #[.int .i64 0, .slice none 0 0] 28)) (.int .i64 m) (.slice none 0 0) 28).below hb (by simp)
  simp only [World.size_alloc] at hA hB
  have hB2 := hB.set1 (.slice av l.length cv)
  have hA1 := hA.set_ne (g' := w.heap.size + 1 + 1) (by omega) 1 (.slice av l.length cv)
  have hA2 := hA1.set0 (.int .i64 m)
  have hA3 := hA2.set1 (.slice av l.length cv)
  have HI := Lib.hid hi
  have HB := Lib.hid hb
  have HG := Lib.hid hi.block_ge
  obtain ⟨p0, p1, p2, p3⟩ := hB
  obtain ⟨q0, q1, q2, q3⟩ := hB2
  obtain ⟨r0, r1, r2, r3⟩ := hA1
  obtain ⟨s0, s1, s2, s3⟩ := hA2
  obtain ⟨t0, t1, t2, t3⟩ := hA3
  clear hi hb hA
  go_wp2
  refine bodyPost_ret (v := .agg #[.int .i64 m, .slice av l.length cv]) (by simp [results, Try.results8, go_sem, t0, t1]) rfl ⟨_, rfl, ?_, ?_⟩
  · exact (((HI.out.weak (by simp; omega)).setBelow HG.out (by simp) _ _).setBelow HG.out (by simp) _ _).setBelow HG.out (by simp) _ _
  · exact (((((((Below.refl w.heap.size w).alloc (Nat.le_refl _) _).alloc (by simp) _).alloc (by simp; omega) _).trans (HB.out.mono (by simp; omega))).setCell (by simp; omega) _).setCell (by simp) _).setCell (by simp) _

theorem szCounter_any (m : Int) (a : Option Addr) (n cap : Nat) (c : Int) (w : World) (hc : 0 ≤ c) (hc2 : c ≤ 1048576) (hn : n ≤ 9223372036854775807) :
    Calls Try.prog 6 #[.agg #[.int .i64 m, .slice a n cap], .int .i64 c] w fun e w' => e = .returned (.int .i64 (if (n : Int) ≤ c then c - n else -1)) ∧ Below w.heap.size w w' := by
  by_cases h : (n : Int) ≤ c
  · rw [if_pos h]
    go_enter Try.func6, Try.ntmps6
    go_wp2
    go_ret
    exact ⟨by simp, (Below.refl _ _).alloc (Nat.le_refl _) _⟩
  · rw [if_neg h]
    go_enter Try.func6, Try.ntmps6
    go_wp2
    go_ret
    exact ⟨by simp, (Below.refl _ _).alloc (Nat.le_refl _) _⟩
end Go.Proofs.Ytomdoamfdidghab
