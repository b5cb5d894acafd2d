/- A source that draws waves: what it draws is a wave, however it draws it. -/
import Derived.Test.YtafecdmcbpnniabDoorSrc
import Derived.Test.YtafecdmcbpnniabDoorBytes
import Derived.Test.YtafecdmcbpnniabDoorIn64
namespace Go.Proofs.YtafecdmcbpnniabDoor
open Go.RowKit
set_option linter.unusedVariables false

/-- the row lies in a block below b -/
def RowBelow (b : Nat) (a : Option Addr) (l : List Int) : Prop := l = [] ∨ ∃ ad : Addr, a = some ad ∧ ad.block < b
theorem ByteRow.grown {w w' : World} {a : Option Addr} {l : List Int} {b : Nat} {row : Option Nat} (h : ByteRow w a l) (hrb : RowBelow b a l) (hg : w.grownBy w' row) (hrow : ∀ k, row = some k → b ≤ k) : ByteRow w' a l := by
  obtain ⟨h0, h⟩ := h
  rcases h with h | ⟨g, off, h1, h2, h3⟩
  · exact ⟨h0, .inl h⟩
  · rcases hrb with h | ⟨ad, h4, h5⟩
    · exact ⟨h0, .inl h⟩
    · rw [h1] at h4
      obtain rfl := Option.some.inj h4
      have hne : some g ≠ row := fun e => by have := hrow g e.symm; simp at h5; omega
      exact ⟨h0, .inr ⟨g, off, h1, Nat.lt_of_lt_of_le h2 hg.size, fun k hk => (World.cell?_of_block (a := ⟨g, off + k, none⟩) (hg.block g h2 hne)).trans (h3 k hk)⟩⟩
theorem Src.grown {w w' : World} {b : Nat} {v : Value} {N : Nat} {row : Option Nat} (h : Src w b v N) (hg : w.grownBy w' row) (hrow : row ≠ some b) : Src w' b v N := by
  obtain ⟨p, sd, h1, h2⟩ := h
  have hlt : b < w.heap.size := by
    rcases Nat.lt_or_ge b w.heap.size with h | h
    · exact h
    · rw [Array.getElem?_eq_none h] at h2; cases h2
  exact ⟨p, sd, h1, (hg.block b hlt (fun e => hrow e.symm)).trans h2⟩
theorem grown_transS {w w1 w2 : World} {b : Nat} {row : Option Nat} (h : w.grownBy w1 (some b)) (h2 : w1.grownBy w2 row) (hrow : ∀ k, row = some k → k = b ∨ w.heap.size ≤ k) : w.grownBy w2 (some b) := by
  refine ⟨h2.os.trans h.os, h2.tape.trans h.tape, h2.output.trans h.output, Nat.le_trans h.size h2.size, fun k hk hb => ?_⟩
  refine (h2.block k (Nat.lt_of_lt_of_le hk h.size) (fun e => ?_)).trans (h.block k hk hb)
  rcases hrow k e.symm with h3 | h3
  · exact hb (by rw [h3])
  · omega
theorem grown_allocS (w : World) (o : Obj) (row : Option Nat) : w.grownBy (w.alloc o) row := by
  have h := (Below.refl w.heap.size w).alloc (Nat.le_refl _) o
  exact ⟨h.os, h.tape, h.output, h.size, fun k hk _ => h.block k hk⟩

/-- a source at b that reads a row below it, in a world that has grown out of w0 -/
structure Dr (w0 w : World) (b : Nat) (a : Option Addr) (n cap : Nat) (l : List Int) (N : Nat) : Prop where
  src : Src w b (.slice a n cap) N
  row : ByteRow w a l
  grown : w0.grownBy w (some b)
  lt : b < w0.heap.size
  below : RowBelow b a l
  len : n = l.length
  le : n ≤ 1048576
theorem Dr.alloc {w0 w : World} {b : Nat} {a : Option Addr} {n cap : Nat} {l : List Int} {N : Nat} (h : Dr w0 w b a n cap l N) (o : Obj) : Dr w0 (w.alloc o) b a n cap l N :=
  ⟨h.src.grown (grown_allocS w o none) (by simp), h.row.grown h.below (grown_allocS w o none) (by simp), grown_transS h.grown (grown_allocS w o none) (by simp), h.lt, h.below, h.len, h.le⟩
theorem Dr.step {w0 w w' : World} {b : Nat} {a : Option Addr} {n cap : Nat} {l : List Int} {N : Nat} (h : Dr w0 w b a n cap l N) {row : Option Nat} (hg : w.grownBy w' row) (hrow : ∀ k, row = some k → w0.heap.size ≤ k) : Dr w0 w' b a n cap l N := by
  have hlt := h.lt
  refine ⟨h.src.grown hg (fun e => ?_), h.row.grown h.below hg (fun k e => ?_), grown_transS h.grown hg (fun k e => .inr (hrow k e)), h.lt, h.below, h.len, h.le⟩
  · have := hrow b e; omega
  · have := hrow k e; omega
theorem Dr.more {w0 w : World} {b : Nat} {a : Option Addr} {n cap : Nat} {l : List Int} {N M : Nat} (h : Dr w0 w b a n cap l N) (hM : N ≤ M) : Dr w0 w b a n cap l M :=
  ⟨src_more h.src hM, h.row, h.grown, h.lt, h.below, h.len, h.le⟩
theorem Dr.own {w0 w w1 : World} {b : Nat} {a : Option Addr} {n cap : Nat} {l : List Int} {N : Nat} (h : Dr w0 w b a n cap l N) {M : Nat} (hs : Src w1 b (.slice a n cap) M) (hg : w.grownBy w1 (some b)) : Dr w0 w1 b a n cap l M :=
  ⟨hs, h.row.grown h.below hg (fun k e => by cases e; exact Nat.le_refl _), grown_transS h.grown hg (fun k e => .inl (by cases e; rfl)), h.lt, h.below, h.len, h.le⟩

theorem pick_dr {w0 w : World} {b : Nat} {a : Option Addr} {n cap : Nat} {l : List Int} {N : Nat} (m : Int) (h : Dr w0 w b a n cap l N) (hN : N ≤ 1000000) (hm : 1 ≤ m) (hm2 : m ≤ 200) :
    Calls Tryd.prog 31 #[.pointer (some ⟨b, 0, none⟩), .int .i64 m] w fun e w' => ∃ z : Int, e = .returned (.int .i64 z) ∧ (0 ≤ z ∧ z < m) ∧ Dr w0 w' b a n cap l (N + 1) ∧ w.grownBy w' (some b) := by
  refine (pick_any b N m a n cap l w h.len h.le hN h.src h.row hm hm2).mono ?_
  rintro e w1 ⟨z, he, hz, hs, hg, _⟩
  exact ⟨z, he, hz, h.own hs hg, hg⟩
theorem one_dr {w0 w : World} {b : Nat} {a : Option Addr} {n cap : Nat} {l : List Int} {N : Nat} (m : Int) (h : Dr w0 w b a n cap l N) (hN : N ≤ 1000000) (hm : 1 ≤ m) (hm2 : m ≤ 200) :
    Calls Tryd.prog 32 #[.pointer (some ⟨b, 0, none⟩), .int .i64 m] w fun e w' => ∃ r : Bool, e = .returned (.bool r) ∧ Dr w0 w' b a n cap l (N + 1) ∧ w.grownBy w' (some b) := by
  refine (one_any b N m a n cap l w h.len h.le hN h.src h.row hm hm2).mono ?_
  rintro e w1 ⟨r, he, hs, hg, _⟩
  exact ⟨r, he, h.own hs hg, hg⟩
theorem Buf.dr {w w1 : World} {B b : Nat} {v : Value} {l : List UInt8} (h : Buf w B v l) (hg : w.grownBy w1 (some b)) (hb : b < B) : Buf w1 B v l := by
  refine World.ownsRow.kept h hg ?_
  right
  intro e
  have := (World.ownsRow.lt h b e).1
  omega
/-- the bytes are all '0' or '1' -/
def Lv (l : List UInt8) : Prop := ∀ x ∈ l, x = 48 ∨ x = 49
theorem Lv.snoc {l : List UInt8} (h : Lv l) {c : UInt8} (hc : c = 48 ∨ c = 49) : Lv (l ++ [c]) := by
  intro x hx
  rcases List.mem_append.1 hx with h1 | h1
  · exact h x h1
  · simp at h1; subst h1; exact hc
theorem lv_int (z : Int) (h : 0 ≤ z ∧ z < 2) : ∃ c : UInt8, (c = 48 ∨ c = 49) ∧ 48 + z = (c.toNat : Int) ∧ IntKind.u8.wrap (48 + z) = (c.toNat : Int) := by
  rcases (show z = 0 ∨ z = 1 by omega) with rfl | rfl
  · exact ⟨48, .inl rfl, by decide, by decide⟩
  · exact ⟨49, .inr rfl, by decide, by decide⟩
theorem lv_small {c : UInt8} (h : c = 48 ∨ c = 49) : 48 ≤ (c.toNat : Int) ∧ (c.toNat : Int) ≤ 49 := by
  rcases h with rfl | rfl <;> decide

set_option maxHeartbeats 2000000 in
set_option maxRecDepth 100000 in
theorem drawGood (b N : Nat) (a : Option Addr) (n cap : Nat) (l : List Int) (w : World) (hN : N ≤ 1000) (hd : Dr w w b a n cap l N) :
    Calls Tryd.prog 16 #[.pointer (some ⟨b, 0, none⟩), .int .i64 40] w fun e w' => ∃ bs : List UInt8, e = .returned (.string ⟨bs.toArray⟩) ∧ Lv bs ∧ bs.length ≤ 40 ∧ w.grownBy w' (some b) := by
  obtain ⟨i0, hi, hz0, hz1, hz2⟩ := info_parts info_u8
  have hlt := hd.lt
  have HD0 := Lib.hid (hd.alloc (.cells #[] 5))
  have HB0 := Lib.hid (Buf.lit w)
  clear hd
  go_enter Tryd.func16, Tryd.ntmps16
  go_wp2_with fail
  refine (pick_dr 2 HD0.out (by omega) (by decide) (by decide)).mono ?_; rintro e w1 ⟨z1, rfl, hz1', hd1, hg1⟩
  have HD1 := Lib.hid hd1
  have HB1 := Lib.hid (HB0.out.dr hg1 hlt)
  clear hd1 hg1 HD0 HB0
  obtain ⟨c, hc, hcz, hcw⟩ := lv_int z1 hz1'
  have wz1 : IntKind.i64.wrap (48 + z1) = 48 + z1 := IntWalk.i64_in _ (by omega)
  go_wp2_with fail
  refine (pick_dr 5 HD1.out (by omega) (by decide) (by decide)).mono ?_; rintro e w2 ⟨z2, rfl, hz2', hd2, hg2⟩
  have HD2 := Lib.hid hd2
  have HB2 := Lib.hid (HB1.out.dr hg2 hlt)
  clear hd2 hg2 HD1 HB1
  have wz2 : IntKind.i64.wrap (1 + z2) = 1 + z2 := IntWalk.i64_in _ (by omega)
  go_wp2_with fail
  refine (pick_dr 41 HD2.out (by omega) (by decide) (by decide)).mono ?_; rintro e w3 ⟨z3, rfl, hz3', hd3, hg3⟩
  have HD3 := Lib.hid hd3
  have HB3 := Lib.hid (HB2.out.dr hg3 hlt)
  clear hd3 hg3 HD2 HB2
  obtain ⟨k0, rfl⟩ := Int.eq_ofNat_of_zero_le hz3'.1
  go_wp2
  go_loopw [5, 6, 8] (fun v lv nv wr => ∃ (k : Nat) (bs : List UInt8) (c : UInt8), nv = .int .i64 (k : Int) ∧ k + bs.length ≤ 40 ∧ lv = .int .u8 (c.toNat : Int) ∧ (c = 48 ∨ c = 49) ∧ Lv bs ∧ Buf wr w.heap.size v bs ∧ Dr w wr b a n cap l (N + 3 + 2 * bs.length)) (fun _ _ nv _ => (intOf nv).toNat)
  case atStart => exact ⟨k0, [], c, rfl, by simp; omega, by first | rfl | (rw [hcw]) | (rw [hcz]), hc, (fun x h => by simp at h), HB3.out, HD3.out⟩
  case round =>
    obtain ⟨k, bs, c, rfl, hk, rfl, cH, hL, hbuf, hdr⟩ := hrel
    have HB := Lib.hid hbuf
    have HD := Lib.hid hdr
    have HL := Lib.hid hL
    have HK := Lib.hid hk
    clear hbuf hdr hL HB3 HD3 hc hcz hcw wz1 hz1'
    by_cases hpos : 0 < k
    · have hp : (0 : Int) < (k : Int) := by omega
      have wk : IntKind.i64.wrap ((k : Int) - 1) = (k : Int) - 1 := IntWalk.i64_in _ (by omega)
      have hk1 : k ≤ 40 := by omega
      clear hk
      go_wp2_with fail
      refine (one_dr (1 + z2) HD.out (by have := HK.out; omega) (by omega) (by omega)).mono ?_; rintro e w4 ⟨r, rfl, hd4, hg4⟩
      have HD4 := Lib.hid hd4
      have HB4 := Lib.hid (HB.out.dr hg4 hlt)
      clear hd4 hg4 HD HB
      cases r
      · have HK := HK.out
        have hca := lv_small cH
        go_wp2_with (at_builtin; refine wpList_append_own _ rfl _ _ 22 rfl w.heap.size 5 i0 (.int .u8 0) 1 1 Tryd.underlying22 hi hz0 hz1 hz2 rfl (by decide) _ _ _ rfl (HB4.out.alloc _) ⟨_, 0, none⟩ 1 1 [.int .u8 (c.toNat : Int)] rfl rfl ?c1 ?c2 ?c3 ?c4 ?c5 ?_)
        case c1 => exact cell_one_new _ _ _
        case c2 => simp [Value.oneCell']
        case c3 => have := HK; unfold maxLen; omega
        case c4 => have := HK; omega
        case c5 => have := HD4.out.grown.size; simp; omega
        intro v' wz hown' hgrow _
        have HO := Lib.hid (Buf.snoc hown')
        have HW := Lib.hid ((HD4.out.alloc _).step hgrow (fun k e => (World.ownsRow.lt HB4.out k e).1))
        clear hown' hgrow
        go_wp2
        go_roundw
        case rel => exact ⟨k - 1, bs ++ [c], c, by congr 1; omega, by simp; omega, rfl, cH, HL.out.snoc cH, HO.out, HW.out.more (by simp; omega)⟩
        case measure => simp [intOf]; omega
      · go_wp2_with fail
        refine (pick_dr 2 HD4.out (by have := HK.out; omega) (by decide) (by decide)).mono ?_; rintro e w5 ⟨z5, rfl, hz5, hd5, hg5⟩
        have HD5 := Lib.hid hd5
        have HB5 := Lib.hid (HB4.out.dr hg5 hlt)
        clear hd5 hg5 HD4 HB4
        obtain ⟨d, dH, hdz, hdw⟩ := lv_int z5 hz5
        have wz5 : IntKind.i64.wrap (48 + z5) = 48 + z5 := IntWalk.i64_in _ (by omega)
        have HK := HK.out
        have hca := lv_small dH
        go_wp2_with (at_builtin; refine wpList_append_own _ rfl _ _ 22 rfl w.heap.size 5 i0 (.int .u8 0) 1 1 Tryd.underlying22 hi hz0 hz1 hz2 rfl (by decide) _ _ _ rfl (HB5.out.alloc _) ⟨_, 0, none⟩ 1 1 [.int .u8 (d.toNat : Int)] rfl rfl ?c1 ?c2 ?c3 ?c4 ?c5 ?_)
        case c1 => exact cell_one_new _ _ _
        case c2 => simp [Value.oneCell']
        case c3 => have := HK; unfold maxLen; omega
        case c4 => have := HK; omega
        case c5 => have := HD5.out.grown.size; simp; omega
        intro v' wz hown' hgrow _
        have HO := Lib.hid (Buf.snoc hown')
        have HW := Lib.hid ((HD5.out.alloc _).step hgrow (fun k e => (World.ownsRow.lt HB5.out k e).1))
        clear hown' hgrow
        go_wp2
        go_roundw
        case rel => exact ⟨k - 1, bs ++ [d], d, by congr 1; omega, by simp; omega, rfl, dH, HL.out.snoc dH, HO.out, HW.out.more (by simp; omega)⟩
        case measure => simp [intOf]; omega
    · have hp : ¬ (0 : Int) < (k : Int) := by omega
      have hconv := run_buf_string _ _ _ _ HB.out
      have hlen : bs.length ≤ 40 := by omega
      clear hk
      go_wp2
      go_ret
      exact ⟨bs, rfl, HL.out, hlen, HD.out.grown⟩
/-- the levels -/
theorem lv_other {c : UInt8} (h : c = 48 ∨ c = 49) : ∃ d : UInt8, (d = 48 ∨ d = 49) ∧ 97 - (c.toNat : Int) = (d.toNat : Int) ∧ IntKind.u8.wrap (97 - (c.toNat : Int)) = (d.toNat : Int) := by
  rcases h with rfl | rfl
  · exact ⟨49, .inr rfl, by decide, by decide⟩
  · exact ⟨48, .inl rfl, by decide, by decide⟩
end Go.Proofs.YtafecdmcbpnniabDoor
