/- A wave by its edges, on both sides. -/
import Derived.Test.YtlppnjgnofglkaaWfRise
import Derived.Test.YtlppnjgnofglkaaBytes
import Derived.Test.YtlppnjgnofglkaaBuilder
import Derived.Test.YtlppnjgnofglkaaShelf
namespace Go.Proofs.Ytlppnjgnofglkaa
open Go.RowKit
set_option linter.unusedVariables false

theorem levelOfW (b : Bool) (w : World) :
    Calls Try.prog 14 #[.bool b] w fun e w' => e = .returned (.int .i32 (if b then 49 else 48)) ∧ w = w' := by
  cases b
  all_goals
    go_enter Try.func14, Try.ntmps14
    go_wp2
    go_ret
    exact ⟨rfl, rfl⟩
theorem search_any (B : Nat) (g n c : Nat) (T : List Int) (x hi : Int) (w : World) (h : Ints w B (.slice (some ⟨g, 0, none⟩) T.length c) T) (hl : T.length ≤ 1048576) (hr : risesB T hi = true) :
    Calls Try.prog 13 #[.slice (some ⟨g, 0, none⟩) T.length c, .int .i64 x] w fun e w' => (∃ m : Int, e = .returned (.tuple #[.int .i64 m, .bool (hasB T x)])) ∧ ∃ q, w' = w.drewN q := by
  refine (Try.slices_BinarySearch_int g 0 T.length c T x w (Nat.le_refl _) (by omega) (fun j hj => ?_) ?_).mono ?_
  · obtain ⟨g', hg', hc⟩ := h.at j hj
    simp only [Option.some.injEq, Addr.mk.injEq, and_true] at hg'
    subst hg'
    rw [Nat.zero_add]; exact hc
  · rw [List.take_of_length_le (Nat.le_refl _)]
    exact rises_sorted (incr_of (fun k hk => (rises_at hr k hk).2.2))
  · rintro e w' ⟨rfl, q, rfl⟩
    rw [List.take_of_length_le (Nat.le_refl _)]
    exact ⟨⟨_, rfl⟩, q, rfl⟩
theorem Ints.drewW {w : World} {B : Nat} {v : Value} {l : List Int} (h : Ints w B v l) (n : Nat) : Ints (w.drewN n) B v l := h.keep (N := w.heap.size) ⟨rfl, rfl, rfl, Nat.le_refl _, fun _ _ => rfl⟩ (Nat.le_refl _)
theorem belowW {B : Nat} {a w : World} (h : Below B a w) (n : Nat) : Below B a (w.drewN n) := ⟨h.os, h.tape, h.output, h.size, h.block⟩
theorem bytes_oneW (L : List UInt8) (c : UInt8) : Lib.byteCells (L ++ [c]) = Lib.byteCells L ++ [.int .u8 (c.toNat : Int)] := by simp [Lib.byteCells]
theorem builderW_lt {T e : TypeId} {B b : Nat} {bs : List Value} {w : World} (h : Lib.IsBuilderF T e B b bs w) : b < w.heap.size := h.elim (fun x => x.lt) (fun x => x.lt)

set_option maxHeartbeats 4000000 in
set_option maxRecDepth 100000 in
theorem specFrom (B C : Nat) (a b : Option Addr) (ca cb : Nat) (U D : List Int) (n : Nat) (w : World) (hU : Ints w B (.slice a U.length ca) U) (hD : Ints w C (.slice b D.length cb) D) (hn : n ≤ 400) (hlU : U.length ≤ 1048576) (hlD : D.length ≤ 1048576) :
    Calls Try.prog 10 #[.slice a U.length ca, .slice b D.length cb, .int .i64 (n : Int)] w fun e w' => e = .returned (.tuple #[.string (wfRes U D n).1, .bool (wfRes U D n).2]) ∧ Below w.heap.size w w' := by
  obtain ⟨i0, hi, hz0, hz1, hz2⟩ := info_parts info_u8
  have HU := Lib.hid hU
  have HD := Lib.hid hD
  clear hU hD
  go_enter Try.func10, Try.ntmps10
  go_wp2
  go_loopw [8, 9, 10] (fun v lv iv wr => ∃ (i : Nat) (L : List UInt8) (x : UInt8), i ≤ n ∧ iv = .int .i64 (i : Int) ∧ lv = .int .u8 (x.toNat : Int) ∧ (x = 48 ∨ x = 49) ∧ wfR U D i = some (L, x) ∧ L.length = i ∧ Buf wr w.heap.size v L ∧ Below w.heap.size w wr) (fun _ _ iv _ => n - (intOf iv).toNat)
  case atStart => exact ⟨0, [], 48, Nat.zero_le _, rfl, rfl, .inl rfl, rfl, rfl, Buf.lit w, (Below.refl _ _).alloc (Nat.le_refl _) _⟩
  case round =>
    obtain ⟨i, L, x, hi2, rfl, rfl, xH, hF, hLn, hbuf, hB⟩ := hrel
    have HL := Lib.hid hLn
    have hbs := hB.size
    by_cases hlt : i < n
    · have hu1 := (HU.out.keep hB (Nat.le_refl _)).row
      have hd1 := (HD.out.keep hB (Nat.le_refl _)).row
      have HHU := Lib.hid (l00Has_any a U U.length ca (i : Int) wr rfl hu1.1 hu1.2.1)
      have HHD := Lib.hid (l00Has_any b D D.length cb (i : Int) wr rfl hd1.1 hd1.2.1)
      have HF := Lib.hid hF
      have HB := Lib.hid hbuf
      clear hu1 hd1 hF hbuf hLn
      cases hu : hasB U (i : Int) with
      | false =>
        cases hd : hasB D (i : Int) with
        | false =>
          have EU := Lib.hid hu
          have ED := Lib.hid hd
          rw [hu] at HHU
          rw [hd] at HHD
          clear hu hd
          rcases xH with rfl | rfl
          · have HN := Lib.hid (wfR_next HF.out (c := 48) (by rw [EU.out, ED.out]; decide))
            go_wp2_with fail
            refine HHU.out.mono ?_; rintro e w' ⟨rfl, rfl⟩
            go_wp2_with fail
            refine HHD.out.mono ?_; rintro e w' ⟨rfl, rfl⟩
            go_wp2_with (at_builtin; refine wpList_append_own _ rfl _ _ 31 rfl w.heap.size 5 i0 (.int .u8 0) 1 1 Try.underlying31 hi hz0 hz1 hz2 rfl (by decide) _ _ _ rfl (HB.out.alloc _) ⟨wr.heap.size, 0, none⟩ 1 1 [.int .u8 48] rfl rfl ?c1a ?c2a ?c3a ?c4a ?c5a ?_)
            try (case c1a => exact cell_one_new wr (.int .u8 48) _)
            case c2a => simp [Value.oneCell']
            case c3a => rw [HL.out]; unfold maxLen; omega
            case c4a => rw [HL.out]; omega
            case c5a => first | omega | (simp; omega)
            intro v' w1 hown' hgrow _
            have HO := Lib.hid (Buf.snoc (b := (48 : UInt8)) hown')
            have HW := Lib.hid (Buf.below hB HB.out _ hgrow)
            clear hown' hgrow
            go_wp2
            go_roundw
            case rel => exact ⟨i + 1, L ++ [48], 48, by omega, by go_num, rfl, .inl rfl, HN.out, by rw [List.length_append, HL.out]; rfl, HO.out, HW.out⟩
            case measure => simp [intOf]; omega
          · have HN := Lib.hid (wfR_next HF.out (c := 49) (by rw [EU.out, ED.out]; decide))
            go_wp2_with fail
            refine HHU.out.mono ?_; rintro e w' ⟨rfl, rfl⟩
            go_wp2_with fail
            refine HHD.out.mono ?_; rintro e w' ⟨rfl, rfl⟩
            go_wp2_with (at_builtin; refine wpList_append_own _ rfl _ _ 31 rfl w.heap.size 5 i0 (.int .u8 0) 1 1 Try.underlying31 hi hz0 hz1 hz2 rfl (by decide) _ _ _ rfl (HB.out.alloc _) ⟨wr.heap.size, 0, none⟩ 1 1 [.int .u8 49] rfl rfl ?c1b ?c2b ?c3b ?c4b ?c5b ?_)
            try (case c1b => exact cell_one_new wr (.int .u8 49) _)
            case c2b => simp [Value.oneCell']
            case c3b => rw [HL.out]; unfold maxLen; omega
            case c4b => rw [HL.out]; omega
            case c5b => first | omega | (simp; omega)
            intro v' w1 hown' hgrow _
            have HO := Lib.hid (Buf.snoc (b := (49 : UInt8)) hown')
            have HW := Lib.hid (Buf.below hB HB.out _ hgrow)
            clear hown' hgrow
            go_wp2
            go_roundw
            case rel => exact ⟨i + 1, L ++ [49], 49, by omega, by go_num, rfl, .inr rfl, HN.out, by rw [List.length_append, HL.out]; rfl, HO.out, HW.out⟩
            case measure => simp [intOf]; omega
        | true =>
          have EU := Lib.hid hu
          have ED := Lib.hid hd
          rw [hu] at HHU
          rw [hd] at HHD
          clear hu hd
          rcases xH with rfl | rfl
          · have HN := Lib.hid (wfRes_none (wfR_stop HF.out (by rw [EU.out, ED.out]; decide) n hlt))
            go_wp2_with fail
            refine HHU.out.mono ?_; rintro e w' ⟨rfl, rfl⟩
            go_wp2_with fail
            refine HHD.out.mono ?_; rintro e w' ⟨rfl, rfl⟩
            go_wp2
            go_ret2
            exact ⟨by rw [HN.out]; rfl, hB⟩
          · have HN := Lib.hid (wfR_next HF.out (c := 48) (by rw [EU.out, ED.out]; decide))
            go_wp2_with fail
            refine HHU.out.mono ?_; rintro e w' ⟨rfl, rfl⟩
            go_wp2_with fail
            refine HHD.out.mono ?_; rintro e w' ⟨rfl, rfl⟩
            go_wp2_with (at_builtin; refine wpList_append_own _ rfl _ _ 31 rfl w.heap.size 5 i0 (.int .u8 0) 1 1 Try.underlying31 hi hz0 hz1 hz2 rfl (by decide) _ _ _ rfl (HB.out.alloc _) ⟨wr.heap.size, 0, none⟩ 1 1 [.int .u8 48] rfl rfl ?c1c ?c2c ?c3c ?c4c ?c5c ?_)
            try (case c1c => exact cell_one_new wr (.int .u8 48) _)
            case c2c => simp [Value.oneCell']
            case c3c => rw [HL.out]; unfold maxLen; omega
            case c4c => rw [HL.out]; omega
            case c5c => first | omega | (simp; omega)
            intro v' w1 hown' hgrow _
            have HO := Lib.hid (Buf.snoc (b := (48 : UInt8)) hown')
            have HW := Lib.hid (Buf.below hB HB.out _ hgrow)
            clear hown' hgrow
            go_wp2
            go_roundw
            case rel => exact ⟨i + 1, L ++ [48], 48, by omega, by go_num, rfl, .inl rfl, HN.out, by rw [List.length_append, HL.out]; rfl, HO.out, HW.out⟩
            case measure => simp [intOf]; omega
      | true =>
        cases hd : hasB D (i : Int) with
        | false =>
          have EU := Lib.hid hu
          have ED := Lib.hid hd
          rw [hu] at HHU
          rw [hd] at HHD
          clear hu hd
          rcases xH with rfl | rfl
          · have HN := Lib.hid (wfR_next HF.out (c := 49) (by rw [EU.out, ED.out]; decide))
            go_wp2_with fail
            refine HHU.out.mono ?_; rintro e w' ⟨rfl, rfl⟩
            go_wp2_with fail
            refine HHD.out.mono ?_; rintro e w' ⟨rfl, rfl⟩
            go_wp2_with (at_builtin; refine wpList_append_own _ rfl _ _ 31 rfl w.heap.size 5 i0 (.int .u8 0) 1 1 Try.underlying31 hi hz0 hz1 hz2 rfl (by decide) _ _ _ rfl (HB.out.alloc _) ⟨wr.heap.size, 0, none⟩ 1 1 [.int .u8 49] rfl rfl ?c1d ?c2d ?c3d ?c4d ?c5d ?_)
            try (case c1d => exact cell_one_new wr (.int .u8 49) _)
            case c2d => simp [Value.oneCell']
            case c3d => rw [HL.out]; unfold maxLen; omega
            case c4d => rw [HL.out]; omega
            case c5d => first | omega | (simp; omega)
            intro v' w1 hown' hgrow _
            have HO := Lib.hid (Buf.snoc (b := (49 : UInt8)) hown')
            have HW := Lib.hid (Buf.below hB HB.out _ hgrow)
            clear hown' hgrow
            go_wp2
            go_roundw
            case rel => exact ⟨i + 1, L ++ [49], 49, by omega, by go_num, rfl, .inr rfl, HN.out, by rw [List.length_append, HL.out]; rfl, HO.out, HW.out⟩
            case measure => simp [intOf]; omega
          · have HN := Lib.hid (wfRes_none (wfR_stop HF.out (by rw [EU.out, ED.out]; decide) n hlt))
            go_wp2_with fail
            refine HHU.out.mono ?_; rintro e w' ⟨rfl, rfl⟩
            go_wp2_with fail
            refine HHD.out.mono ?_; rintro e w' ⟨rfl, rfl⟩
            go_wp2
            go_ret2
            exact ⟨by rw [HN.out]; rfl, hB⟩
        | true =>
          have EU := Lib.hid hu
          have ED := Lib.hid hd
          rw [hu] at HHU
          rw [hd] at HHD
          clear hu hd
          rcases xH with rfl | rfl
          · have HN := Lib.hid (wfRes_none (wfR_stop HF.out (by rw [EU.out, ED.out]; decide) n hlt))
            go_wp2_with fail
            refine HHU.out.mono ?_; rintro e w' ⟨rfl, rfl⟩
            go_wp2_with fail
            refine HHD.out.mono ?_; rintro e w' ⟨rfl, rfl⟩
            go_wp2
            go_ret2
            exact ⟨by rw [HN.out]; rfl, hB⟩
          · have HN := Lib.hid (wfRes_none (wfR_stop HF.out (by rw [EU.out, ED.out]; decide) n hlt))
            go_wp2_with fail
            refine HHU.out.mono ?_; rintro e w' ⟨rfl, rfl⟩
            go_wp2_with fail
            refine HHD.out.mono ?_; rintro e w' ⟨rfl, rfl⟩
            go_wp2
            go_ret2
            exact ⟨by rw [HN.out]; rfl, hB⟩
    · have hie : i = n := by omega
      have HX := Lib.hid (wfRes_some (U := U) (D := D) (n := n) (L := L) (lv := x) (by rw [← hie]; exact hF))
      have hconv := run_buf_string _ _ _ _ hbuf
      clear hie hF hbuf
      go_wp2
      go_ret2
      exact ⟨by rw [HX.out]; rfl, hB⟩
end Go.Proofs.Ytlppnjgnofglkaa
