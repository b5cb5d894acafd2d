/- A gated wave: the model's side and the law's walk. -/
import Derived.Test.YtmhbgpappjfolaaGate
namespace Go.Proofs.Ytmhbgpappjfolaa
open Go.RowKit Go.Shelf
set_option linter.unusedVariables false
/-- the model's own level of the gate: 0 ahead of the first tick -/
def gstM (w e : ByteArray) (k : Nat) : Bool := decide (0 < k) && gst w e k
set_option maxHeartbeats 4000000 in
set_option maxRecDepth 100000 in
theorem specGate_t (a b : ByteArray) (w : World) (hs : a.size ≤ maxLen) (hs' : b.size ≤ maxLen) (h : are2B a b = true) :
    Calls Try.prog 42 #[.string a, .string b] w fun e w' => e = .returned (.tuple #[.string (outS (gateF a b) a.size), .bool true]) ∧ Below w.heap.size w w' := by
  have HT := Lib.hid (l07Three_any a b a w hs hs' hs)
  rw [l7B_are2, h] at HT
  obtain ⟨h1, h2, h4⟩ := (are2B_iff a b).1 h
  have h400 := wave_le h1
  have HW := Lib.hid (And.intro h1 h2)
  have hb := Nat.le_of_eq h4.symm
  obtain ⟨i0, hi, hz0, hz1, hz2⟩ := info_parts info_u8
  clear h h1 h2 h4
  go_enter Try.func42, Try.ntmps42
  go_wp2_with fail
  refine HT.out.mono ?_; rintro e w' ⟨rfl, rfl⟩
  go_wp2
  go_loopw [6, 7, 8] (fun v on i wr => ∃ k : Nat, k ≤ a.size ∧ i = .int .i64 k ∧ on = .int .u8 (lvOf (gstM a b k)) ∧ Hid (Buf wr w.heap.size v (outL (gateF a b) k)) ∧ Hid (Below w.heap.size w wr)) (fun _ _ i _ => a.size - (intOf i).toNat)
  case atStart => exact ⟨0, Nat.zero_le _, rfl, rfl, Lib.hid (Buf.lit w), Lib.hid ((Below.refl _ _).alloc (Nat.le_refl _) _)⟩
  case round =>
    obtain ⟨k, hk, rfl, rfl, HB, HBW⟩ := hrel
    by_cases hlt : k < a.size
    · have hltb : k < b.size := by omega
      have HL := Lib.hid (outL_len (gateF a b) k)
      have hsz := HBW.out.size
      have e1 : ((a[k].toNat : Int) == 48) = !bit a k := by rw [wave_at HW.out.1 k hlt]; cases bit a k <;> rfl
      have e2 := bit_at a k hlt
      have e3 : (b[k].toNat : Int) = lvOf (bit b k) := by rw [wave_at HW.out.2 k hltb]; unfold lvOf; rfl
      obtain ⟨x, hx⟩ : ∃ x, bit a k = x := ⟨_, rfl⟩
      obtain ⟨y, hy⟩ : ∃ y, bit b k = y := ⟨_, rfl⟩
      have HN : Hid (gst a b (k + 1) = if x then gst a b k else y) := by rw [← hx, ← hy]; exact gst_succ a b k
      have HM : Hid (gstM a b (k + 1) = gst a b (k + 1)) := by show _ = _; simp [gstM]
      have HF : Hid (gateF a b k = (x && gst a b (k + 1))) := by rw [← hx]; rfl
      rw [hx] at e1 e2
      rw [hy] at e3
      have HG0 : Hid (k = 0 → gst a b k = y) := fun q => by subst q; rw [← hy]; rfl
      clear hx hy
      cases x with
      | false =>
        have HX : Hid (outL (gateF a b) k ++ [48] = outL (gateF a b) (k + 1)) := byCells_out _ k 48 (by rw [HF.out]; rfl)
        have HZ : Hid (gstM a b (k + 1) = y) := by show _ = _; rw [HM.out, HN.out]; rfl
        clear HG0
        cases y with
        | false =>
          have e4 : (b[k].toNat : Int) = 48 := e3
          clear e3
          go_wp2_with (first | (at_builtin; refine wpList_append_own _ rfl _ _ 25 rfl w.heap.size 5 i0 (.int .u8 0) 1 1 Try.underlying25 hi hz0 hz1 hz2 rfl (by decide) _ _ _ rfl (HB.out.alloc _) ⟨wr.heap.size, 0, none⟩ 1 1 [.int .u8 ((48 : UInt8).toNat : Int)] rfl rfl ?c1 ?c2 ?c3 ?c4 ?c5 ?_) | (go_at_call 76; (with_reducible refine (l07Level_f _).mono ?_); rintro e w' ⟨rfl, rfl⟩))
          case c1 => exact cell_one_new _ _ _
          case c2 => simp [Value.oneCell']
          case c3 => rw [HL.out]; unfold maxLen; omega
          case c4 => rw [HL.out]; omega
          case c5 => first | omega | (simp; omega)
          intro v' w1 hown' hgrow _
          have HO := Lib.hid (Buf.snoc (b := 48) hown')
          have HW2 := Lib.hid (Buf.below HBW.out HB.out _ hgrow)
          clear hown' hgrow
          go_wp2
          go_roundw
          case rel => exact ⟨k + 1, by omega, by go_num, by rw [HZ.out]; rfl, by rw [← HX.out]; exact HO, HW2⟩
          case measure => simp [intOf]; omega
        | true =>
          have e4 : (b[k].toNat : Int) = 49 := e3
          clear e3
          go_wp2_with (first | (at_builtin; refine wpList_append_own _ rfl _ _ 25 rfl w.heap.size 5 i0 (.int .u8 0) 1 1 Try.underlying25 hi hz0 hz1 hz2 rfl (by decide) _ _ _ rfl (HB.out.alloc _) ⟨wr.heap.size, 0, none⟩ 1 1 [.int .u8 ((48 : UInt8).toNat : Int)] rfl rfl ?d1 ?d2 ?d3 ?d4 ?d5 ?_) | (go_at_call 76; (with_reducible refine (l07Level_f _).mono ?_); rintro e w' ⟨rfl, rfl⟩))
          case d1 => exact cell_one_new _ _ _
          case d2 => simp [Value.oneCell']
          case d3 => rw [HL.out]; unfold maxLen; omega
          case d4 => rw [HL.out]; omega
          case d5 => first | omega | (simp; omega)
          intro v' w1 hown' hgrow _
          have HO := Lib.hid (Buf.snoc (b := 48) hown')
          have HW2 := Lib.hid (Buf.below HBW.out HB.out _ hgrow)
          clear hown' hgrow
          go_wp2
          go_roundw
          case rel => exact ⟨k + 1, by omega, by go_num, by rw [HZ.out]; rfl, by rw [← HX.out]; exact HO, HW2⟩
          case measure => simp [intOf]; omega
      | true =>
        by_cases hk0 : k = 0
        · have HZ : Hid (gstM a b (k + 1) = y) := by show _ = _; rw [HM.out, HN.out]; exact HG0.out hk0
          have HZ2 : Hid (gst a b (k + 1) = y) := by show _ = _; rw [HN.out]; exact HG0.out hk0
          have h0 : ((k : Int) == 0) = true := by rw [hk0]; rfl
          clear HG0 hk0
          cases y with
          | false =>
            have HX : Hid (outL (gateF a b) k ++ [48] = outL (gateF a b) (k + 1)) := byCells_out _ k 48 (by rw [HF.out, HZ2.out]; rfl)
            have e4 : (b[k].toNat : Int) = 48 := e3
            clear e3
            go_wp2_with (first | (at_builtin; refine wpList_append_own _ rfl _ _ 25 rfl w.heap.size 5 i0 (.int .u8 0) 1 1 Try.underlying25 hi hz0 hz1 hz2 rfl (by decide) _ _ _ rfl (HB.out.alloc _) ⟨wr.heap.size, 0, none⟩ 1 1 [.int .u8 ((48 : UInt8).toNat : Int)] rfl rfl ?e1 ?e2 ?e3 ?e4 ?e5 ?_) | (go_at_call 76; (with_reducible refine (l07Level_f _).mono ?_); rintro e w' ⟨rfl, rfl⟩))
            case e1 => exact cell_one_new _ _ _
            case e2 => simp [Value.oneCell']
            case e3 => rw [HL.out]; unfold maxLen; omega
            case e4 => rw [HL.out]; omega
            case e5 => first | omega | (simp; omega)
            intro v' w1 hown' hgrow _
            have HO := Lib.hid (Buf.snoc (b := 48) hown')
            have HW2 := Lib.hid (Buf.below HBW.out HB.out _ hgrow)
            clear hown' hgrow
            go_wp2
            go_roundw
            case rel => exact ⟨k + 1, by omega, by go_num, by rw [HZ.out]; rfl, by rw [← HX.out]; exact HO, HW2⟩
            case measure => simp [intOf]; omega
          | true =>
            have HX : Hid (outL (gateF a b) k ++ [49] = outL (gateF a b) (k + 1)) := byCells_out _ k 49 (by rw [HF.out, HZ2.out]; rfl)
            have e4 : (b[k].toNat : Int) = 49 := e3
            clear e3
            go_wp2_with (first | (at_builtin; refine wpList_append_own _ rfl _ _ 25 rfl w.heap.size 5 i0 (.int .u8 0) 1 1 Try.underlying25 hi hz0 hz1 hz2 rfl (by decide) _ _ _ rfl (HB.out.alloc _) ⟨wr.heap.size, 0, none⟩ 1 1 [.int .u8 ((49 : UInt8).toNat : Int)] rfl rfl ?f1 ?f2 ?f3 ?f4 ?f5 ?_) | (go_at_call 76; (with_reducible refine (l07Level_t _).mono ?_); rintro e w' ⟨rfl, rfl⟩))
            case f1 => exact cell_one_new _ _ _
            case f2 => simp [Value.oneCell']
            case f3 => rw [HL.out]; unfold maxLen; omega
            case f4 => rw [HL.out]; omega
            case f5 => first | omega | (simp; omega)
            intro v' w1 hown' hgrow _
            have HO := Lib.hid (Buf.snoc (b := 49) hown')
            have HW2 := Lib.hid (Buf.below HBW.out HB.out _ hgrow)
            clear hown' hgrow
            go_wp2
            go_roundw
            case rel => exact ⟨k + 1, by omega, by go_num, by rw [HZ.out]; rfl, by rw [← HX.out]; exact HO, HW2⟩
            case measure => simp [intOf]; omega
        · obtain ⟨z, hz⟩ : ∃ z, gstM a b k = z := ⟨_, rfl⟩
          have hz2 : gst a b k = z := by rw [← hz]; simp [gstM, Nat.pos_of_ne_zero hk0]
          have HZ2 : Hid (gst a b (k + 1) = z) := by show _ = _; rw [HN.out]; exact hz2
          have HZ : Hid (gstM a b (k + 1) = z) := by show _ = _; rw [HM.out]; exact HZ2.out
          have h0 : ((k : Int) == 0) = false := by simp; omega
          rw [hz]
          clear HG0 hk0 hz hz2 e3
          cases z with
          | false =>
            have HX : Hid (outL (gateF a b) k ++ [48] = outL (gateF a b) (k + 1)) := byCells_out _ k 48 (by rw [HF.out, HZ2.out]; rfl)
            have eL : lvOf false = 48 := rfl
            rw [eL]
            clear eL
            go_wp2_with (first | (at_builtin; refine wpList_append_own _ rfl _ _ 25 rfl w.heap.size 5 i0 (.int .u8 0) 1 1 Try.underlying25 hi hz0 hz1 hz2 rfl (by decide) _ _ _ rfl (HB.out.alloc _) ⟨wr.heap.size, 0, none⟩ 1 1 [.int .u8 ((48 : UInt8).toNat : Int)] rfl rfl ?g1 ?g2 ?g3 ?g4 ?g5 ?_) | (go_at_call 76; (with_reducible refine (l07Level_f _).mono ?_); rintro e w' ⟨rfl, rfl⟩))
            case g1 => exact cell_one_new _ _ _
            case g2 => simp [Value.oneCell']
            case g3 => rw [HL.out]; unfold maxLen; omega
            case g4 => rw [HL.out]; omega
            case g5 => first | omega | (simp; omega)
            intro v' w1 hown' hgrow _
            have HO := Lib.hid (Buf.snoc (b := 48) hown')
            have HW2 := Lib.hid (Buf.below HBW.out HB.out _ hgrow)
            clear hown' hgrow
            go_wp2
            go_roundw
            case rel => exact ⟨k + 1, by omega, by go_num, by rw [HZ.out]; rfl, by rw [← HX.out]; exact HO, HW2⟩
            case measure => simp [intOf]; omega
          | true =>
            have HX : Hid (outL (gateF a b) k ++ [49] = outL (gateF a b) (k + 1)) := byCells_out _ k 49 (by rw [HF.out, HZ2.out]; rfl)
            have eL : lvOf true = 49 := rfl
            rw [eL]
            clear eL
            go_wp2_with (first | (at_builtin; refine wpList_append_own _ rfl _ _ 25 rfl w.heap.size 5 i0 (.int .u8 0) 1 1 Try.underlying25 hi hz0 hz1 hz2 rfl (by decide) _ _ _ rfl (HB.out.alloc _) ⟨wr.heap.size, 0, none⟩ 1 1 [.int .u8 ((49 : UInt8).toNat : Int)] rfl rfl ?h1 ?h2 ?h3 ?h4 ?h5 ?_) | (go_at_call 76; (with_reducible refine (l07Level_t _).mono ?_); rintro e w' ⟨rfl, rfl⟩))
            case h1 => exact cell_one_new _ _ _
            case h2 => simp [Value.oneCell']
            case h3 => rw [HL.out]; unfold maxLen; omega
            case h4 => rw [HL.out]; omega
            case h5 => first | omega | (simp; omega)
            intro v' w1 hown' hgrow _
            have HO := Lib.hid (Buf.snoc (b := 49) hown')
            have HW2 := Lib.hid (Buf.below HBW.out HB.out _ hgrow)
            clear hown' hgrow
            go_wp2
            go_roundw
            case rel => exact ⟨k + 1, by omega, by go_num, by rw [HZ.out]; rfl, by rw [← HX.out]; exact HO, HW2⟩
            case measure => simp [intOf]; omega
    · obtain rfl : k = a.size := by omega
      have hconv := run_buf_string _ _ _ _ HB.out
      go_wp2
      go_ret2
      exact ⟨rfl, HBW.out⟩
set_option maxHeartbeats 1000000 in
theorem specGate_f (a b : ByteArray) (w : World) (hs : a.size ≤ maxLen) (hs' : b.size ≤ maxLen) (h : are2B a b = false) :
    Calls Try.prog 42 #[.string a, .string b] w fun e w' => e = .returned (.tuple #[.string ⟨#[]⟩, .bool false]) ∧ Below w.heap.size w w' := by
  have HT := Lib.hid (l07Three_any a b a w hs hs' hs)
  rw [l7B_are2, h] at HT
  clear h
  go_enter Try.func42, Try.ntmps42
  go_wp2_with fail
  refine HT.out.mono ?_; rintro e w' ⟨rfl, rfl⟩
  go_wp2
  go_ret2
  exact ⟨rfl, Below.refl _ _⟩
theorem gate_both (a : ByteArray) (b : ByteArray) (h_a : a.size ≤ maxLen) (h_b : b.size ≤ maxLen) (l_a : (a.size : Int) ≤ 1048576) (l_b : (b.size : Int) ≤ 1048576) : ∃ (r0 : ByteArray) (r1 : Bool), (∀ w, Calls Try.prog 42 #[.string a, .string b] w fun e w' => e = .returned (.tuple #[.string r0, .bool r1]) ∧ Below w.heap.size w w') ∧ (∀ w, Calls Try.prog 43 #[.string a, .string b] w fun e w' => e = .returned (.tuple #[.string r0, .bool r1]) ∧ Below w.heap.size w w') := by
  cases h : are2B a b with
  | true => exact ⟨_, _, fun w => specGate_t a b w h_a h_b h, fun w => implGate_t a b w h_a h_b h⟩
  | false => exact ⟨_, _, fun w => specGate_f a b w h_a h_b h, fun w => implGate_f a b w h_a h_b h⟩
set_option maxHeartbeats 1000000 in
set_option maxRecDepth 100000 in
theorem walk_FnExactGateWave (a : ByteArray) (b : ByteArray) (w : World) (h_a : a.size ≤ maxLen) (h_b : b.size ≤ maxLen) :
    Calls Try.prog 12 #[.string a, .string b] w fun e w' => e = .returned (.bool true) ∧ Below w.heap.size w w' := by
  by_cases l_a : (a.size : Int) ≤ 1048576
  case neg =>
    go_enter Try.func12, Try.ntmps12
    go_wp2
    go_ret
    exact ⟨rfl, Below.refl _ _⟩
  by_cases l_b : (b.size : Int) ≤ 1048576
  case neg =>
    go_enter Try.func12, Try.ntmps12
    go_wp2
    go_ret
    exact ⟨rfl, Below.refl _ _⟩
  obtain ⟨r0, r1, hS, hI⟩ := gate_both a b h_a h_b l_a l_b
  have HS := Lib.hid hS
  have HI := Lib.hid hI
  clear hS hI
  go_enter Try.func12, Try.ntmps12
  go_wp2_with fail
  refine (HS.out _).mono ?_; rintro e w1 ⟨rfl, b1⟩
  go_wp2_with fail
  refine (HI.out _).mono ?_; rintro e w2 ⟨rfl, b2⟩
  go_wp2
  go_ret
  exact ⟨rfl, b1.trans (b2.mono b1.size)⟩
end Go.Proofs.Ytmhbgpappjfolaa
