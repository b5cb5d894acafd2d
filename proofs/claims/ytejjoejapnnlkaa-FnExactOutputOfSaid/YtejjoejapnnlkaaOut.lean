/- The wave of a counter's bit, on both sides: the answers. -/
import Derived.Test.YtejjoejapnnlkaaOutPre
namespace Go.Proofs.Ytejjoejapnnlkaa
open Go.RowKit
set_option linter.unusedVariables false

theorem At2.dn {w : World} {g : Nat} {x y : Value} (h : At2 w g x y) (q : Nat) : At2 (w.drewN q) g x y := h
theorem below_dno {B : Nat} {a w : World} (h : Below B a w) (n : Nat) : Below B a (w.drewN n) := ⟨h.os, h.tape, h.output, h.size, h.block⟩

set_option maxHeartbeats 2000000 in
set_option maxRecDepth 100000 in
theorem specOut_t (b : Int) (a : Option Addr) (n cap : Nat) (l : List Int) (x y T : Nat) (w : World) (hn : n = l.length) (hl : n ≤ 1048576) (hr : RowOf w a l) (hlt : ∀ g, a = some ⟨g, 0, none⟩ → g < w.heap.size) (hc : ctrB b l = true) (hx : x < l.length) (hy : (y : Int) ≤ b - 1) (hT : T ≤ 400) :
    Calls Try.prog 38 #[.agg #[.int .i64 b, .slice a n cap], .int .i64 (x : Int), .int .i64 (y : Int), .int .i64 (T : Int)] w fun e w' => e = .returned (.tuple #[.string ⟨(outL l y x T).toArray⟩, .bool true]) ∧ Below w.heap.size w w' := by
  obtain ⟨p1, p2, p3, p4⟩ := ctr_pt l b hc
  have hat : atB b l x = true := by unfold atB; rw [hc, Bool.true_and]; unfold stB; rw [decide_eq_true_eq]; omega
  have hb0 : Below w.heap.size w (w.alloc (.cells #[.int .i64 b, .slice a n cap] 58)) := (Below.refl _ _).alloc (Nat.le_refl _) _
  have hr0 := row_alloc hr hlt hb0 (Nat.le_refl _)
  have HA := Lib.hid (l02At_any w.heap.size b x a n cap l (w.alloc (.cells #[.int .i64 b, .slice a n cap] 58)) hn hl (At2.new w _ _ _) hr0)
  rw [hat] at HA
  have HC := Lib.hid hc
  have HLT := Lib.hid hlt
  have HR0 := Lib.hid hr0
  have HBW := Lib.hid hb0
  have hnl : n ≤ 256 := by omega
  have HN := Lib.hid hn
  have hy7 : y ≤ 7 := by omega
  clear hc hr hlt hr0 hb0 hat p3 hn
  obtain ⟨i0, hi, hz0, hz1, hz2⟩ := info_parts info_u8
  go_enter Try.func38, Try.ntmps38
  go_wp2_with fail
  refine HA.out.mono ?_; rintro e w' ⟨rfl, q, rfl⟩
  have bx := (At2.new w (.int .i64 b) (.slice a n cap) 58).dn q
  have hr1 : RowOf ((w.alloc (.cells #[.int .i64 b, .slice a n cap] 58)).drewN q) a l := HR0.out
  have HB0 := Lib.hid (below_dno HBW.out q)
  have hs0 : w.heap.size < ((w.alloc (.cells #[.int .i64 b, .slice a n cap] 58)).drewN q).heap.size := by show w.heap.size < (w.alloc (.cells #[.int .i64 b, .slice a n cap] 58)).heap.size; simp
  generalize (w.alloc (.cells #[.int .i64 b, .slice a n cap] 58)).drewN q = W0 at *
  obtain ⟨b0, b1, -, -⟩ := bx
  have HR1 := Lib.hid hr1
  clear hr1
  go_wp2_with fail
  refine (l00In_t _ _ _ _ (by omega) (by omega)).mono ?_; rintro e w' ⟨rfl, rfl⟩
  go_wp2_with fail
  refine (l00In_t _ _ _ _ (by omega) (by omega)).mono ?_; rintro e w' ⟨rfl, rfl⟩
  go_wp2
  go_loopw [10, 11, 12] (fun v xs ix wr => ∃ (k x' : Nat) (L : List UInt8), ix = .int .i64 (k : Int) ∧ xs = .int .i64 (x' : Int) ∧ k ≤ T ∧ x' < l.length ∧ L.length = k ∧ L ++ outL l y x' (T - k) = outL l y x T ∧ Buf wr W0.heap.size v L ∧ Below W0.heap.size W0 wr) (fun _ _ ix _ => T - (intOf ix).toNat)
  case atStart => exact ⟨0, x, [], rfl, rfl, Nat.zero_le _, hx, rfl, rfl, Buf.lit W0, (Below.refl _ _).alloc (Nat.le_refl _) _⟩
  case round =>
    obtain ⟨k, x', L, rfl, rfl, hk, hx', hL, hacc, hbuf, hB⟩ := hrel
    have HB := Lib.hid hbuf
    have HL := Lib.hid hL
    have hLb : L.length ≤ 400 := by omega
    have hsz := hB.size
    clear hbuf hL
    by_cases hlt2 : k < T
    · obtain ⟨g, rfl, hce⟩ := HR1.out x' hx'
      have hg := HLT.out g rfl
      obtain ⟨z, hz, hzd, hz2', hz3⟩ := st_lt l b HC.out x' hx'
      rw [hz] at hce
      have HX := Lib.hid hzd
      have HE := Lib.hid (outL_step l y x' k T L _ hlt2 hacc)
      have hxn : x' < n := by have := HN.out; omega
      have hx256 : x' < 256 := by omega
      clear hz hzd hacc
      by_cases hbit : x' / 2 ^ y % 2 = 1
      · obtain ⟨hb1, hbc⟩ := bit_hit x' y hx256 hbit
        have HBC := Lib.hid hbc
        clear hbc hbit
        go_wp2_with (at_builtin; refine wpList_append_own _ rfl _ _ 84 rfl W0.heap.size 5 i0 (.int .u8 0) 1 1 Try.underlying84 hi hz0 hz1 hz2 rfl (by decide) _ _ _ rfl (HB.out.alloc _) ⟨wr.heap.size, 0, none⟩ 1 1 [.int .u8 49] rfl rfl ?c1 ?c2 ?c3 ?c4 ?c5 ?_)
        case c1 => exact cell_one_new _ _ _
        case c2 => simp [Value.oneCell']
        case c3 => unfold maxLen; omega
        case c4 => omega
        case c5 => simp; omega
        intro v' w1 hown' hgrow _
        have HO := Lib.hid (Buf.snoc (b := (49 : UInt8)) hown')
        have HW := Lib.hid (Buf.below hB HB.out _ hgrow)
        clear hown' hgrow
        have d1 := (HW.out.cell (p := ⟨w.heap.size, 1, none⟩) hs0).trans b1
        have e1 := (HW.out.cell (p := ⟨g, x', none⟩) (Nat.lt_trans hg hs0)).trans hce
        go_wp2
        go_roundw
        case rel => exact ⟨k + 1, z, L ++ [49], by go_num, rfl, by omega, hz2', by have := HL.out; simp; omega, by have := HE.out; rw [HX.out, HBC.out] at this; exact this, HO.out, HW.out⟩
        case measure => simp [intOf]; omega
      · obtain ⟨hb1, hbc⟩ := bit_miss x' y hx256 hbit
        have HBC := Lib.hid hbc
        clear hbc hbit
        go_wp2_with (at_builtin; refine wpList_append_own _ rfl _ _ 84 rfl W0.heap.size 5 i0 (.int .u8 0) 1 1 Try.underlying84 hi hz0 hz1 hz2 rfl (by decide) _ _ _ rfl (HB.out.alloc _) ⟨wr.heap.size, 0, none⟩ 1 1 [.int .u8 48] rfl rfl ?c1 ?c2 ?c3 ?c4 ?c5 ?_)
        case c1 => exact cell_one_new _ _ _
        case c2 => simp [Value.oneCell']
        case c3 => unfold maxLen; omega
        case c4 => omega
        case c5 => simp; omega
        intro v' w1 hown' hgrow _
        have HO := Lib.hid (Buf.snoc (b := (48 : UInt8)) hown')
        have HW := Lib.hid (Buf.below hB HB.out _ hgrow)
        clear hown' hgrow
        have d1 := (HW.out.cell (p := ⟨w.heap.size, 1, none⟩) hs0).trans b1
        have e1 := (HW.out.cell (p := ⟨g, x', none⟩) (Nat.lt_trans hg hs0)).trans hce
        go_wp2
        go_roundw
        case rel => exact ⟨k + 1, z, L ++ [48], by go_num, rfl, by omega, hz2', by have := HL.out; simp; omega, by have := HE.out; rw [HX.out, HBC.out] at this; exact this, HO.out, HW.out⟩
        case measure => simp [intOf]; omega
    · have HE := Lib.hid (outL_over l y x' k T L _ hlt2 hacc)
      have hconv := run_buf_string _ _ _ _ HB.out
      go_wp2
      go_ret2
      exact ⟨by rw [← HE.out]; rfl, HB0.out.trans (hB.mono HB0.out.size)⟩

set_option maxHeartbeats 2000000 in
set_option maxRecDepth 100000 in
theorem implOut_t (b : Int) (a : Option Addr) (n cap : Nat) (l : List Int) (x y T : Nat) (w : World) (hn : n = l.length) (hl : n ≤ 1048576) (hr : RowOf w a l) (hlt : ∀ g, a = some ⟨g, 0, none⟩ → g < w.heap.size) (hc : ctrB b l = true) (hx : x < l.length) (hy : (y : Int) ≤ b - 1) (hT : T ≤ 400) :
    Calls Try.prog 40 #[.agg #[.int .i64 b, .slice a n cap], .int .i64 (x : Int), .int .i64 (y : Int), .int .i64 (T : Int)] w fun e w' => e = .returned (.tuple #[.string ⟨(outL l y x T).toArray⟩, .bool true]) ∧ Below w.heap.size w w' := by
  obtain ⟨p1, p2, p3, p4⟩ := ctr_pt l b hc
  have hat : atB b l x = true := by unfold atB; rw [hc, Bool.true_and]; unfold stB; rw [decide_eq_true_eq]; omega
  have hb0 : Below w.heap.size w (w.alloc (.cells #[.int .i64 b, .slice a n cap] 58)) := (Below.refl _ _).alloc (Nat.le_refl _) _
  have hr0 := row_alloc hr hlt hb0 (Nat.le_refl _)
  have HA := Lib.hid (has_any b x a n cap l (w.alloc (.cells #[.int .i64 b, .slice a n cap] 58)) hn hl hr0 (fun g e => Nat.lt_of_lt_of_le (hlt g e) hb0.size))
  rw [hat] at HA
  have HC := Lib.hid hc
  have HLT := Lib.hid hlt
  have HR0 := Lib.hid hr0
  have HBW := Lib.hid hb0
  have HLT0 := Lib.hid (fun g e => Nat.lt_of_lt_of_le (hlt g e) hb0.size)
  have hnl : n ≤ 256 := by omega
  have HN := Lib.hid hn
  have hy7 : y ≤ 7 := by omega
  clear hc hr hlt hr0 hb0 hat p3 hn
  go_enter Try.func40, Try.ntmps40
  go_wp2_with fail
  refine HA.out.mono ?_; rintro e w1 ⟨rfl, hb1⟩
  have bx := (At2.new w (.int .i64 b) (.slice a n cap) 58).below hb1 (by simp)
  have HR1 := Lib.hid (row_alloc HR0.out HLT0.out hb1 (Nat.le_refl _))
  have HB0 := Lib.hid (HBW.out.trans (hb1.mono HBW.out.size))
  have hs0 : w.heap.size < w1.heap.size := by have := hb1.size; simp at this; omega
  obtain ⟨b0, b1, -, -⟩ := bx
  clear hb1
  go_wp2_with fail
  refine (within_i64_t _ _ _ _ (by omega) (by omega)).mono ?_; rintro e w' ⟨rfl, rfl⟩
  go_wp2_with fail
  refine (within_i64_t _ _ _ _ (by omega) (by omega)).mono ?_; rintro e w' ⟨rfl, rfl⟩
  go_wp2
  go_loopw [11, 31] (fun xs ix wr => ∃ (k x' : Nat) (L : List UInt8), ix = .int .i64 (k : Int) ∧ xs = .int .i64 (x' : Int) ∧ k ≤ T ∧ x' < l.length ∧ L.length = k ∧ L ++ outL l y x' (T - k) = outL l y x T ∧ Lib.IsBuilderF TB TU w1.heap.size w1.heap.size (Lib.byteCells L) wr ∧ Below w1.heap.size w1 wr) (fun _ ix _ => T - (intOf ix).toNat)
  case atStart => exact ⟨0, x, [], rfl, rfl, Nat.zero_le _, hx, rfl, rfl, Lib.IsBuilderF.of (Lib.fresh_isBuilder TB TU w1), (Below.refl _ _).alloc (Nat.le_refl _) _⟩
  case round =>
    obtain ⟨k, x', L, rfl, rfl, hk, hx', hL, hacc, hbuf, hB⟩ := hrel
    have HI := Lib.hid hbuf
    have HL := Lib.hid hL
    have hLb : L.length ≤ 400 := by omega
    have hsz := hB.size
    clear hbuf hL
    by_cases hlt2 : k < T
    · obtain ⟨g, rfl, hce⟩ := HR1.out x' hx'
      have hg := HLT.out g rfl
      obtain ⟨z, hz, hzd, hz2', hz3⟩ := st_lt l b HC.out x' hx'
      rw [hz] at hce
      have HX := Lib.hid hzd
      have HE := Lib.hid (outL_step l y x' k T L _ hlt2 hacc)
      have hxn : x' < n := by have := HN.out; omega
      have hx256 : x' < 256 := by omega
      clear hz hzd hacc
      by_cases hbit : x' / 2 ^ y % 2 = 1
      · obtain ⟨hb1, hbc⟩ := bit_hit x' y hx256 hbit
        have HBC := Lib.hid hbc
        clear hbc hbit
        go_wp2_with fail
        refine (levelOf_o true _).mono ?_; rintro e w' ⟨rfl, rfl⟩
        go_wp2_with fail
        refine (writeRune_low w1.heap.size w1.heap.size _ 49 _ (by omega) (by omega) HI.out (by rw [Lib.byteCells_length]; omega) hsz).mono ?_
        rintro e W2 ⟨rfl, g1, b2, k2⟩
        have HG := Lib.hid (Or.inr g1 : Lib.IsBuilderF TB TU w1.heap.size w1.heap.size _ W2)
        have HB2 := Lib.hid (hB.trans b2)
        have d0 := (HB2.out.cell (p := ⟨w.heap.size, 0, none⟩) hs0).trans b0
        have d1 := (HB2.out.cell (p := ⟨w.heap.size, 1, none⟩) hs0).trans b1
        have e1 := (HB2.out.cell (p := ⟨g, x', none⟩) (Nat.lt_trans hg hs0)).trans hce
        have hg2 : g < W2.heap.size := by have := HB2.out.size; omega
        clear g1 b2 k2
        go_wp2_with fail
        refine (after_any b z g n cap x' _ hxn hnl hg2 e1).mono ?_; rintro e w3 ⟨rfl, b3⟩
        have HG3 := Lib.hid (builder_below HG.out b3)
        have HB3 := Lib.hid (HB2.out.trans (b3.mono HB2.out.size))
        clear b3
        go_wp2
        go_roundw
        case rel => exact ⟨k + 1, z, L ++ [49], by go_num, rfl, by omega, hz2', by have := HL.out; simp; omega, by have := HE.out; rw [HX.out, HBC.out] at this; exact this, by rw [bytes_oneo]; exact HG3.out, HB3.out⟩
        case measure => simp [intOf]; omega
      · obtain ⟨hb1, hbc⟩ := bit_miss x' y hx256 hbit
        have HBC := Lib.hid hbc
        clear hbc hbit
        go_wp2_with fail
        refine (levelOf_o false _).mono ?_; rintro e w' ⟨rfl, rfl⟩
        go_wp2_with fail
        refine (writeRune_low w1.heap.size w1.heap.size _ 48 _ (by omega) (by omega) HI.out (by rw [Lib.byteCells_length]; omega) hsz).mono ?_
        rintro e W2 ⟨rfl, g1, b2, k2⟩
        have HG := Lib.hid (Or.inr g1 : Lib.IsBuilderF TB TU w1.heap.size w1.heap.size _ W2)
        have HB2 := Lib.hid (hB.trans b2)
        have d0 := (HB2.out.cell (p := ⟨w.heap.size, 0, none⟩) hs0).trans b0
        have d1 := (HB2.out.cell (p := ⟨w.heap.size, 1, none⟩) hs0).trans b1
        have e1 := (HB2.out.cell (p := ⟨g, x', none⟩) (Nat.lt_trans hg hs0)).trans hce
        have hg2 : g < W2.heap.size := by have := HB2.out.size; omega
        clear g1 b2 k2
        go_wp2_with fail
        refine (after_any b z g n cap x' _ hxn hnl hg2 e1).mono ?_; rintro e w3 ⟨rfl, b3⟩
        have HG3 := Lib.hid (builder_below HG.out b3)
        have HB3 := Lib.hid (HB2.out.trans (b3.mono HB2.out.size))
        clear b3
        go_wp2
        go_roundw
        case rel => exact ⟨k + 1, z, L ++ [48], by go_num, rfl, by omega, hz2', by have := HL.out; simp; omega, by have := HE.out; rw [HX.out, HBC.out] at this; exact this, by rw [bytes_oneo]; exact HG3.out, HB3.out⟩
        case measure => simp [intOf]; omega
    · have HE := Lib.hid (outL_over l y x' k T L _ hlt2 hacc)
      go_wp2_with fail
      refine (Try.Builder_String_any_k w1.heap.size w1.heap.size _ _ HI.out (by omega)).mono ?_
      rintro e w' ⟨rfl, _, hb2, _⟩
      go_wp2
      go_ret2
      exact ⟨by rw [← HE.out]; rfl, HB0.out.trans ((hB.trans hb2).mono HB0.out.size)⟩

set_option maxHeartbeats 1000000 in
set_option maxRecDepth 100000 in
theorem specOut_f (b : Int) (a : Option Addr) (n cap : Nat) (l : List Int) (x y T : Int) (w : World) (hn : n = l.length) (hl : n ≤ 1048576) (hr : RowOf w a l) (hlt : ∀ g, a = some ⟨g, 0, none⟩ → g < w.heap.size) (h : atB b l x = false ∨ y < 0 ∨ b - 1 < y ∨ T < 0 ∨ 400 < T) :
    Calls Try.prog 38 #[.agg #[.int .i64 b, .slice a n cap], .int .i64 x, .int .i64 y, .int .i64 T] w fun e w' => e = .returned (.tuple #[.string ⟨#[]⟩, .bool false]) ∧ Below w.heap.size w w' := by
  have hb0 : Below w.heap.size w (w.alloc (.cells #[.int .i64 b, .slice a n cap] 58)) := (Below.refl _ _).alloc (Nat.le_refl _) _
  have hr0 := row_alloc hr hlt hb0 (Nat.le_refl _)
  have HA := Lib.hid (l02At_any w.heap.size b x a n cap l (w.alloc (.cells #[.int .i64 b, .slice a n cap] 58)) hn hl (At2.new w _ _ _) hr0)
  have HBW := Lib.hid hb0
  clear hr hlt hr0 hb0 hn
  cases hat : atB b l x with
  | false =>
    rw [hat] at HA
    clear hat h
    go_enter Try.func38, Try.ntmps38
    go_wp2_with fail
    refine HA.out.mono ?_; rintro e w' ⟨rfl, q, rfl⟩
    obtain ⟨b0, b1, -, -⟩ := (At2.new w (.int .i64 b) (.slice a n cap) 58).dn q
    have HB0 := Lib.hid (below_dno HBW.out q)
    go_wp2
    go_ret2
    exact ⟨rfl, HB0.out⟩
  | true =>
    rw [hat] at HA h
    obtain ⟨p1, p2⟩ : 1 ≤ b ∧ b ≤ 8 := by
      unfold atB at hat
      rw [Bool.and_eq_true] at hat
      exact ⟨(ctr_pt l b hat.1).1, (ctr_pt l b hat.1).2.1⟩
    clear hat
    have h := h.resolve_left (by simp)
    by_cases k : 0 ≤ y ∧ y ≤ b - 1
    · obtain ⟨k1, k2⟩ := k
      go_enter Try.func38, Try.ntmps38
      go_wp2_with fail
      refine HA.out.mono ?_; rintro e w' ⟨rfl, q, rfl⟩
      obtain ⟨b0, b1, -, -⟩ := (At2.new w (.int .i64 b) (.slice a n cap) 58).dn q
      have HB0 := Lib.hid (below_dno HBW.out q)
      go_wp2_with fail
      refine (l00In_t _ _ _ _ (by omega) (by omega)).mono ?_; rintro e w' ⟨rfl, rfl⟩
      go_wp2_with fail
      refine (l00In_f _ _ _ _ (by omega)).mono ?_; rintro e w' ⟨rfl, rfl⟩
      go_wp2
      go_ret2
      exact ⟨rfl, HB0.out⟩
    · have k2 : y < 0 ∨ b - 1 < y := by omega
      clear k h
      go_enter Try.func38, Try.ntmps38
      go_wp2_with fail
      refine HA.out.mono ?_; rintro e w' ⟨rfl, q, rfl⟩
      obtain ⟨b0, b1, -, -⟩ := (At2.new w (.int .i64 b) (.slice a n cap) 58).dn q
      have HB0 := Lib.hid (below_dno HBW.out q)
      go_wp2_with fail
      refine (l00In_f _ _ _ _ (by omega)).mono ?_; rintro e w' ⟨rfl, rfl⟩
      go_wp2
      go_ret2
      exact ⟨rfl, HB0.out⟩

set_option maxHeartbeats 1000000 in
set_option maxRecDepth 100000 in
theorem implOut_f (b : Int) (a : Option Addr) (n cap : Nat) (l : List Int) (x y T : Int) (w : World) (hn : n = l.length) (hl : n ≤ 1048576) (hr : RowOf w a l) (hlt : ∀ g, a = some ⟨g, 0, none⟩ → g < w.heap.size) (h : atB b l x = false ∨ y < 0 ∨ b - 1 < y ∨ T < 0 ∨ 400 < T) :
    Calls Try.prog 40 #[.agg #[.int .i64 b, .slice a n cap], .int .i64 x, .int .i64 y, .int .i64 T] w fun e w' => e = .returned (.tuple #[.string ⟨#[]⟩, .bool false]) ∧ Below w.heap.size w w' := by
  have hb0 : Below w.heap.size w (w.alloc (.cells #[.int .i64 b, .slice a n cap] 58)) := (Below.refl _ _).alloc (Nat.le_refl _) _
  have hr0 := row_alloc hr hlt hb0 (Nat.le_refl _)
  have HA := Lib.hid (has_any b x a n cap l (w.alloc (.cells #[.int .i64 b, .slice a n cap] 58)) hn hl hr0 (fun g e => Nat.lt_of_lt_of_le (hlt g e) hb0.size))
  have HBW := Lib.hid hb0
  clear hr hlt hr0 hb0 hn
  cases hat : atB b l x with
  | false =>
    rw [hat] at HA
    clear hat h
    go_enter Try.func40, Try.ntmps40
    go_wp2_with fail
    refine HA.out.mono ?_; rintro e w1 ⟨rfl, hb1⟩
    obtain ⟨b0, b1, -, -⟩ := (At2.new w (.int .i64 b) (.slice a n cap) 58).below hb1 (by simp)
    have HB0 := Lib.hid (HBW.out.trans (hb1.mono HBW.out.size))
    clear hb1
    go_wp2
    go_ret2
    exact ⟨rfl, HB0.out⟩
  | true =>
    rw [hat] at HA h
    obtain ⟨p1, p2⟩ : 1 ≤ b ∧ b ≤ 8 := by
      unfold atB at hat
      rw [Bool.and_eq_true] at hat
      exact ⟨(ctr_pt l b hat.1).1, (ctr_pt l b hat.1).2.1⟩
    clear hat
    have h := h.resolve_left (by simp)
    by_cases k : 0 ≤ y ∧ y ≤ b - 1
    · obtain ⟨k1, k2⟩ := k
      go_enter Try.func40, Try.ntmps40
      go_wp2_with fail
      refine HA.out.mono ?_; rintro e w1 ⟨rfl, hb1⟩
      obtain ⟨b0, b1, -, -⟩ := (At2.new w (.int .i64 b) (.slice a n cap) 58).below hb1 (by simp)
      have HB0 := Lib.hid (HBW.out.trans (hb1.mono HBW.out.size))
      clear hb1
      go_wp2_with fail
      refine (within_i64_t _ _ _ _ (by omega) (by omega)).mono ?_; rintro e w' ⟨rfl, rfl⟩
      go_wp2_with fail
      refine (within_i64_f _ _ _ _ (by omega)).mono ?_; rintro e w' ⟨rfl, rfl⟩
      go_wp2
      go_ret2
      exact ⟨rfl, HB0.out⟩
    · have k2 : y < 0 ∨ b - 1 < y := by omega
      clear k h
      go_enter Try.func40, Try.ntmps40
      go_wp2_with fail
      refine HA.out.mono ?_; rintro e w1 ⟨rfl, hb1⟩
      obtain ⟨b0, b1, -, -⟩ := (At2.new w (.int .i64 b) (.slice a n cap) 58).below hb1 (by simp)
      have HB0 := Lib.hid (HBW.out.trans (hb1.mono HBW.out.size))
      clear hb1
      go_wp2_with fail
      refine (within_i64_f _ _ _ _ (by omega)).mono ?_; rintro e w' ⟨rfl, rfl⟩
      go_wp2
      go_ret2
      exact ⟨rfl, HB0.out⟩

theorem out_both (b : Int) (l : List Int) (x y T : Int) (hl : l.length ≤ 1048576) : ∃ (r : ByteArray) (c : Bool), (∀ (a : Option Addr) (cap : Nat) (w : World), RowOf w a l → (∀ g, a = some ⟨g, 0, none⟩ → g < w.heap.size) → Calls Try.prog 38 #[.agg #[.int .i64 b, .slice a l.length cap], .int .i64 x, .int .i64 y, .int .i64 T] w fun e w' => e = .returned (.tuple #[.string r, .bool c]) ∧ Below w.heap.size w w') ∧ (∀ (a : Option Addr) (cap : Nat) (w : World), RowOf w a l → (∀ g, a = some ⟨g, 0, none⟩ → g < w.heap.size) → Calls Try.prog 40 #[.agg #[.int .i64 b, .slice a l.length cap], .int .i64 x, .int .i64 y, .int .i64 T] w fun e w' => e = .returned (.tuple #[.string r, .bool c]) ∧ Below w.heap.size w w') := by
  by_cases h : atB b l x = true ∧ 0 ≤ y ∧ y ≤ b - 1 ∧ 0 ≤ T ∧ T ≤ 400
  · obtain ⟨h1, h2, h3, h4, h5⟩ := h
    unfold atB at h1
    rw [Bool.and_eq_true] at h1
    obtain ⟨hc, hs⟩ := h1
    unfold stB at hs
    rw [decide_eq_true_eq] at hs
    have hp := (ctr_pt l b hc).2.2.1
    obtain ⟨x', rfl⟩ := Int.eq_ofNat_of_zero_le hs.1
    obtain ⟨y', rfl⟩ := Int.eq_ofNat_of_zero_le h2
    obtain ⟨T', rfl⟩ := Int.eq_ofNat_of_zero_le h4
    exact ⟨_, _, fun a cap w hr hlt => specOut_t b a l.length cap l x' y' T' w rfl hl hr hlt hc (by omega) h3 (by omega), fun a cap w hr hlt => implOut_t b a l.length cap l x' y' T' w rfl hl hr hlt hc (by omega) h3 (by omega)⟩
  · have h' : atB b l x = false ∨ y < 0 ∨ b - 1 < y ∨ T < 0 ∨ 400 < T := by
      cases hat : atB b l x with
      | false => exact .inl rfl
      | true =>
        right
        rw [hat] at h
        by_cases k : y < 0 ∨ b - 1 < y ∨ T < 0 ∨ 400 < T
        · exact k
        · exact absurd ⟨rfl, by omega, by omega, by omega, by omega⟩ h
    exact ⟨_, _, fun a cap w hr hlt => specOut_f b a l.length cap l x y T w rfl hl hr hlt h', fun a cap w hr hlt => implOut_f b a l.length cap l x y T w rfl hl hr hlt h'⟩
end Go.Proofs.Ytejjoejapnnlkaa
