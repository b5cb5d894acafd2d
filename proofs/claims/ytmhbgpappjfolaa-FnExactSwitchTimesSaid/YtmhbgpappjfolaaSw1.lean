/- The level that both have, and the chosen levels: on both sides, and the laws' walks. -/
import Derived.Test.YtmhbgpappjfolaaJoinImpl
namespace Go.Proofs.Ytmhbgpappjfolaa
open Go.RowKit Go.Shelf
set_option linter.unusedVariables false

/-- JoinWaves as a word: of two waves of as many ticks -/
theorem implJoin_s (op : Int) (a b : ByteArray) (w : World) (h0 : 0 ≤ op) (h3 : op ≤ 3) (hs : a.size ≤ maxLen) (hs' : b.size ≤ maxLen) (h : are2B a b = true) :
    Calls Try.prog 16 #[.int .i64 op, .string a, .string b] w fun e w' => e = .returned (.tuple #[.string (outS (fun k => joinZ op (bit a k) (bit b k)) a.size), .bool true]) ∧ Below w.heap.size w w' := by
  obtain ⟨h1, h2, h4⟩ := (are2B_iff a b).1 h
  have := implJoin_t op a b w h0 h3 hs hs' h1 h2 h4.symm
  rw [joinS_eq op a b h4.symm] at this
  exact this
theorem specJoin_s (op : Nat) (a b : ByteArray) (w : World) (h3 : op ≤ 3) (hs : a.size ≤ 400) (h : b.size = a.size) :
    Calls Try.prog 50 #[.int .i64 (op : Int), .string a, .string b] w fun e w' => e = .returned (.string (outS (fun k => joinZ (op : Int) (bit a k) (bit b k)) a.size)) ∧ Below w.heap.size w w' := by
  refine (specJoin (op : Int) a b w (by omega) (by omega) (by omega) (by omega)).mono ?_
  rintro e w' ⟨rfl, hb⟩
  refine ⟨?_, hb⟩
  rw [← joinS_eq (op : Int) a b h.symm, take_all a a.size (Nat.le_refl _), take_all b a.size (by omega)]
set_option maxHeartbeats 1000000 in
set_option maxRecDepth 100000 in
theorem implGate0 (a b : ByteArray) (w : World) (r : ByteArray) (c : Bool) (h : ∀ w, Calls Try.prog 16 #[.int .i64 0, .string a, .string b] w fun e w' => e = .returned (.tuple #[.string r, .bool c]) ∧ Below w.heap.size w w') :
    Calls Try.prog 45 #[.string a, .string b] w fun e w' => e = .returned (.tuple #[.string r, .bool c]) ∧ Below w.heap.size w w' := by
  have H := Lib.hid (h w)
  clear h
  go_enter Try.func45, Try.ntmps45
  go_wp2_with fail
  refine H.out.mono ?_; rintro e w1 ⟨rfl, b1⟩
  go_wp2
  go_ret2
  exact ⟨rfl, b1⟩
set_option maxHeartbeats 1000000 in
set_option maxRecDepth 100000 in
theorem specGate0_t (a b : ByteArray) (w : World) (hs : a.size ≤ maxLen) (hs' : b.size ≤ maxLen) (h : are2B a b = true) :
    Calls Try.prog 44 #[.string a, .string b] w fun e w' => e = .returned (.tuple #[.string (outS (fun k => joinZ 0 (bit a k) (bit b k)) a.size), .bool true]) ∧ Below w.heap.size w w' := by
  have HT := Lib.hid (l07Three_any a b a w hs hs' hs)
  rw [l7B_are2, h] at HT
  obtain ⟨h1, h2, h4⟩ := (are2B_iff a b).1 h
  have HJ := Lib.hid (specJoin_s 0 a b w (by omega) (wave_le h1) h4)
  clear h1 h2 h4 h
  go_enter Try.func44, Try.ntmps44
  go_wp2_with fail
  refine HT.out.mono ?_; rintro e w' ⟨rfl, rfl⟩
  go_wp2_with fail
  refine HJ.out.mono ?_; rintro e w1 ⟨rfl, b1⟩
  go_wp2
  go_ret2
  exact ⟨rfl, b1⟩
set_option maxHeartbeats 1000000 in
theorem specGate0_f (a b : ByteArray) (w : World) (hs : a.size ≤ maxLen) (hs' : b.size ≤ maxLen) (h : are2B a b = false) :
    Calls Try.prog 44 #[.string a, .string b] w fun e w' => e = .returned (.tuple #[.string ⟨#[]⟩, .bool false]) ∧ Below w.heap.size w w' := by
  have HT := Lib.hid (l07Three_any a b a w hs hs' hs)
  rw [l7B_are2, h] at HT
  clear h
  go_enter Try.func44, Try.ntmps44
  go_wp2_with fail
  refine HT.out.mono ?_; rintro e w' ⟨rfl, rfl⟩
  go_wp2
  go_ret2
  exact ⟨rfl, Below.refl _ _⟩
theorem gate0_both (a : ByteArray) (b : ByteArray) (h_a : a.size ≤ maxLen) (h_b : b.size ≤ maxLen) (l_a : (a.size : Int) ≤ 1048576) (l_b : (b.size : Int) ≤ 1048576) : ∃ (r0 : ByteArray) (r1 : Bool), (∀ w, Calls Try.prog 44 #[.string a, .string b] w fun e w' => e = .returned (.tuple #[.string r0, .bool r1]) ∧ Below w.heap.size w w') ∧ (∀ w, Calls Try.prog 45 #[.string a, .string b] w fun e w' => e = .returned (.tuple #[.string r0, .bool r1]) ∧ Below w.heap.size w w') := by
  cases h : are2B a b with
  | true => exact ⟨_, _, fun w => specGate0_t a b w h_a h_b h, fun w => implGate0 a b w _ _ (fun w => implJoin_s 0 a b w (by omega) (by omega) h_a h_b h)⟩
  | false => exact ⟨_, _, fun w => specGate0_f a b w h_a h_b h, fun w => implGate0 a b w _ _ (fun w => implJoin_f 0 a b w (by omega) (by omega) h_a h_b h)⟩
set_option maxHeartbeats 1000000 in
set_option maxRecDepth 100000 in
theorem walk_FnExactPlainGate (a : ByteArray) (b : ByteArray) (w : World) (h_a : a.size ≤ maxLen) (h_b : b.size ≤ maxLen) :
    Calls Try.prog 13 #[.string a, .string b] w fun e w' => e = .returned (.bool true) ∧ Below w.heap.size w w' := by
  by_cases l_a : (a.size : Int) ≤ 1048576
  case neg =>
    go_enter Try.func13, Try.ntmps13
    go_wp2
    go_ret
    exact ⟨rfl, Below.refl _ _⟩
  by_cases l_b : (b.size : Int) ≤ 1048576
  case neg =>
    go_enter Try.func13, Try.ntmps13
    go_wp2
    go_ret
    exact ⟨rfl, Below.refl _ _⟩
  obtain ⟨r0, r1, hS, hI⟩ := gate0_both a b h_a h_b l_a l_b
  have HS := Lib.hid hS
  have HI := Lib.hid hI
  clear hS hI
  go_enter Try.func13, Try.ntmps13
  go_wp2_with fail
  refine (HS.out _).mono ?_; rintro e w1 ⟨rfl, b1⟩
  go_wp2_with fail
  refine (HI.out _).mono ?_; rintro e w2 ⟨rfl, b2⟩
  go_wp2
  go_ret
  exact ⟨rfl, b1.trans (b2.mono b1.size)⟩

/-- the chosen level -/
def chsF (a b c : ByteArray) (k : Nat) : Bool := if bit c k then bit b k else bit a k
set_option maxHeartbeats 2000000 in
set_option maxRecDepth 100000 in
theorem implChs_t (a b c : ByteArray) (w : World) (hs : a.size ≤ maxLen) (hs' : b.size ≤ maxLen) (hs3 : c.size ≤ maxLen) (h : are3B a b c = true) :
    Calls Try.prog 28 #[.string a, .string b, .string c] w fun e w' => e = .returned (.tuple #[.string (outS (chsF a b c) a.size), .bool true]) ∧ Below w.heap.size w w' := by
  obtain ⟨h1, h2, h4, h5, h6⟩ := (are3B_iff a b c).1 h
  have h400 := wave_le h1
  have HA := Lib.hid h
  have HJ1 := Lib.hid (fun w => implJoin_s 3 a c w (by omega) (by omega) hs hs3 ((are2B_iff a c).2 ⟨h1, h5, h6⟩))
  have HJ2 := Lib.hid (fun w => implJoin_s 0 b c w (by omega) (by omega) hs' hs3 ((are2B_iff b c).2 ⟨h2, h5, by omega⟩))
  have HJ3 := Lib.hid (fun w => implJoin_s 1 (outS (fun k => joinZ 3 (bit a k) (bit c k)) a.size) (outS (fun k => joinZ 0 (bit b k) (bit c k)) b.size) w (by omega) (by omega) (by rw [outS_size]; exact hs) (by rw [outS_size]; exact hs') ((are2B_iff _ _).2 ⟨outS_wave _ _ h400, outS_wave _ _ (by omega), by rw [outS_size, outS_size]; exact h4⟩))
  have HE : Hid (outS (fun k => joinZ 1 (bit (outS (fun k => joinZ 3 (bit a k) (bit c k)) a.size) k) (bit (outS (fun k => joinZ 0 (bit b k) (bit c k)) b.size) k)) (outS (fun k => joinZ 3 (bit a k) (bit c k)) a.size).size = outS (chsF a b c) a.size) := by
    rw [outS_size]
    refine outS_congr (fun k hk => ?_)
    show joinZ 1 (bit (outS _ a.size) k) (bit (outS _ b.size) k) = _
    rw [outS_bit _ _ _ hk, outS_bit _ _ _ (by omega)]
    unfold chsF joinZ
    cases bit a k <;> cases bit b k <;> cases bit c k <;> rfl
  obtain ⟨x1, hx1⟩ : ∃ x, outS (fun k => joinZ 3 (bit a k) (bit c k)) a.size = x := ⟨_, rfl⟩
  obtain ⟨x2, hx2⟩ : ∃ x, outS (fun k => joinZ 0 (bit b k) (bit c k)) b.size = x := ⟨_, rfl⟩
  rw [hx1, hx2] at HJ3 HE
  rw [hx1] at HJ1
  rw [hx2] at HJ2
  clear h h1 h2 h4 h5 h6 hx1 hx2
  go_enter Try.func28, Try.ntmps28
  go_wp2_with fail
  refine (are3_any _ _ a b c _ hs hs' hs3 (by simp) (by simp [go_sem]) (by simp [go_sem]) (by simp [go_sem])).mono ?_
  rw [HA.out]
  rintro e w1 ⟨rfl, b1⟩
  have HB1 := Lib.hid (((Below.refl w.heap.size w).alloc (Nat.le_refl _) (.cells #[.string a, .string b, .string c] 9)).trans (b1.mono (by simp)))
  clear b1
  go_wp2_with fail
  refine (HJ1.out _).mono ?_; rintro e w2 ⟨rfl, b2⟩
  have HB2 := Lib.hid (HB1.out.trans (b2.mono HB1.out.size))
  clear b2
  go_wp2_with fail
  refine (HJ2.out _).mono ?_; rintro e w3 ⟨rfl, b3⟩
  have HB3 := Lib.hid (HB2.out.trans (b3.mono HB2.out.size))
  clear b3
  go_wp2_with fail
  refine (HJ3.out _).mono ?_; rintro e w4 ⟨rfl, b4⟩
  have HB4 := Lib.hid (HB3.out.trans (b4.mono HB3.out.size))
  clear b4
  go_wp2
  go_ret2
  exact ⟨by rw [← HE.out]; rfl, HB4.out⟩
set_option maxHeartbeats 1000000 in
set_option maxRecDepth 100000 in
theorem implChs_f (a b c : ByteArray) (w : World) (hs : a.size ≤ maxLen) (hs' : b.size ≤ maxLen) (hs3 : c.size ≤ maxLen) (h : are3B a b c = false) :
    Calls Try.prog 28 #[.string a, .string b, .string c] w fun e w' => e = .returned (.tuple #[.string ⟨#[]⟩, .bool false]) ∧ Below w.heap.size w w' := by
  have HA := Lib.hid h
  clear h
  go_enter Try.func28, Try.ntmps28
  go_wp2_with fail
  refine (are3_any _ _ a b c _ hs hs' hs3 (by simp) (by simp [go_sem]) (by simp [go_sem]) (by simp [go_sem])).mono ?_
  rw [HA.out]
  rintro e w1 ⟨rfl, b1⟩
  have HB1 := Lib.hid (((Below.refl w.heap.size w).alloc (Nat.le_refl _) (.cells #[.string a, .string b, .string c] 9)).trans (b1.mono (by simp)))
  clear b1
  go_wp2
  go_ret2
  exact ⟨rfl, HB1.out⟩
theorem byCells_out (f : Nat → Bool) (k : Nat) (u : UInt8) (h : u = lvU (f k)) : outL f k ++ [u] = outL f (k + 1) := by rw [outL_snoc, h]
set_option maxHeartbeats 2000000 in
set_option maxRecDepth 100000 in
theorem specChs_t (a b c : ByteArray) (w : World) (hs : a.size ≤ maxLen) (hs' : b.size ≤ maxLen) (hs3 : c.size ≤ maxLen) (h : are3B a b c = true) :
    Calls Try.prog 27 #[.string a, .string b, .string c] w fun e w' => e = .returned (.tuple #[.string (outS (chsF a b c) a.size), .bool true]) ∧ Below w.heap.size w w' := by
  have HT := Lib.hid (l07Three_any a b c w hs hs' hs3)
  rw [l7B_are3, h] at HT
  obtain ⟨h1, h2, h4, h5, h6⟩ := (are3B_iff a b c).1 h
  have h400 := wave_le h1
  have HW := Lib.hid (And.intro h1 (And.intro h2 h5))
  have hb := Nat.le_of_eq h4.symm
  have hc := Nat.le_of_eq h6.symm
  obtain ⟨i0, hi, hz0, hz1, hz2⟩ := info_parts info_u8
  clear h h1 h2 h4 h5 h6
  go_enter Try.func27, Try.ntmps27
  go_wp2_with fail
  refine HT.out.mono ?_; rintro e w' ⟨rfl, rfl⟩
  go_wp2
  go_loopw [8, 9] (fun v i wr => ∃ k : Nat, k ≤ a.size ∧ i = .int .i64 k ∧ Hid (Buf wr w.heap.size v (outL (chsF a b c) k)) ∧ Hid (Below w.heap.size w wr)) (fun _ i _ => a.size - (intOf i).toNat)
  case atStart => exact ⟨0, Nat.zero_le _, rfl, Lib.hid (Buf.lit w), Lib.hid ((Below.refl _ _).alloc (Nat.le_refl _) _)⟩
  case round =>
    obtain ⟨k, hk, rfl, HB, HBW⟩ := hrel
    by_cases hlt : k < a.size
    · have hltb : k < b.size := by omega
      have hltc : k < c.size := by omega
      have HL := Lib.hid (outL_len (chsF a b c) k)
      have hsz := HBW.out.size
      have ua := wave_u HW.out.1 k hlt
      have ub := wave_u HW.out.2.1 k hltb
      have ec : ((c[k].toNat : Int) == 48) = !bit c k := by rw [wave_at HW.out.2.2 k hltc]; cases bit c k <;> rfl
      obtain ⟨z, hz⟩ : ∃ z, bit c k = z := ⟨_, rfl⟩
      obtain ⟨x, hx⟩ : ∃ x : UInt8, a[k] = x := ⟨_, rfl⟩
      obtain ⟨y, hy⟩ : ∃ y : UInt8, b[k] = y := ⟨_, rfl⟩
      rw [hz] at ec
      have HX : Hid (z = false → outL (chsF a b c) k ++ [x] = outL (chsF a b c) (k + 1)) := fun q => byCells_out _ k x (by rw [← hx, ua]; unfold chsF; rw [hz, q]; rfl)
      have HY : Hid (z = true → outL (chsF a b c) k ++ [y] = outL (chsF a b c) (k + 1)) := fun q => byCells_out _ k y (by rw [← hy, ub]; unfold chsF; rw [hz, q]; rfl)
      have hax : (a[k].toNat : Int) = (x.toNat : Int) := by rw [hx]
      have hby : (b[k].toNat : Int) = (y.toNat : Int) := by rw [hy]
      clear ua ub hz hx hy
      cases z with
      | false =>
        have HX2 := Lib.hid (HX.out rfl)
        clear HX HY
        go_wp2_with (at_builtin; refine wpList_append_own _ rfl _ _ 25 rfl w.heap.size 5 i0 (.int .u8 0) 1 1 Try.underlying25 hi hz0 hz1 hz2 rfl (by decide) _ _ _ rfl (HB.out.alloc _) ⟨wr.heap.size, 0, none⟩ 1 1 [.int .u8 (x.toNat : Int)] rfl rfl ?c1 ?c2 ?c3 ?c4 ?c5 ?_)
        case c1 => exact cell_one_new _ _ _
        case c2 => simp [Value.oneCell']
        case c3 => rw [HL.out]; unfold maxLen; omega
        case c4 => rw [HL.out]; omega
        case c5 => first | omega | (simp; omega)
        intro v' w1 hown' hgrow _
        have HO := Lib.hid (Buf.snoc (b := x) hown')
        have HW2 := Lib.hid (Buf.below HBW.out HB.out _ hgrow)
        clear hown' hgrow
        go_wp2
        go_roundw
        case rel => exact ⟨k + 1, by omega, by go_num, by rw [← HX2.out]; exact HO, HW2⟩
        case measure => simp [intOf]; omega
      | true =>
        have HY2 := Lib.hid (HY.out rfl)
        clear HX HY
        go_wp2_with (at_builtin; refine wpList_append_own _ rfl _ _ 25 rfl w.heap.size 5 i0 (.int .u8 0) 1 1 Try.underlying25 hi hz0 hz1 hz2 rfl (by decide) _ _ _ rfl (HB.out.alloc _) ⟨wr.heap.size, 0, none⟩ 1 1 [.int .u8 (y.toNat : Int)] rfl rfl ?d1 ?d2 ?d3 ?d4 ?d5 ?_)
        case d1 => exact cell_one_new _ _ _
        case d2 => simp [Value.oneCell']
        case d3 => rw [HL.out]; unfold maxLen; omega
        case d4 => rw [HL.out]; omega
        case d5 => first | omega | (simp; omega)
        intro v' w1 hown' hgrow _
        have HO := Lib.hid (Buf.snoc (b := y) hown')
        have HW2 := Lib.hid (Buf.below HBW.out HB.out _ hgrow)
        clear hown' hgrow
        go_wp2
        go_roundw
        case rel => exact ⟨k + 1, by omega, by go_num, by rw [← HY2.out]; exact HO, HW2⟩
        case measure => simp [intOf]; omega
    · obtain rfl : k = a.size := by omega
      have hconv := run_buf_string _ _ _ _ HB.out
      go_wp2
      go_ret2
      exact ⟨rfl, HBW.out⟩
set_option maxHeartbeats 1000000 in
theorem specChs_f (a b c : ByteArray) (w : World) (hs : a.size ≤ maxLen) (hs' : b.size ≤ maxLen) (hs3 : c.size ≤ maxLen) (h : are3B a b c = false) :
    Calls Try.prog 27 #[.string a, .string b, .string c] w fun e w' => e = .returned (.tuple #[.string ⟨#[]⟩, .bool false]) ∧ Below w.heap.size w w' := by
  have HT := Lib.hid (l07Three_any a b c w hs hs' hs3)
  rw [l7B_are3, h] at HT
  clear h
  go_enter Try.func27, Try.ntmps27
  go_wp2_with fail
  refine HT.out.mono ?_; rintro e w' ⟨rfl, rfl⟩
  go_wp2
  go_ret2
  exact ⟨rfl, Below.refl _ _⟩
theorem chs_both (a : ByteArray) (b : ByteArray) (c : ByteArray) (h_a : a.size ≤ maxLen) (h_b : b.size ≤ maxLen) (h_c : c.size ≤ maxLen) (l_a : (a.size : Int) ≤ 1048576) (l_b : (b.size : Int) ≤ 1048576) (l_c : (c.size : Int) ≤ 1048576) : ∃ (r0 : ByteArray) (r1 : Bool), (∀ w, Calls Try.prog 27 #[.string a, .string b, .string c] w fun e w' => e = .returned (.tuple #[.string r0, .bool r1]) ∧ Below w.heap.size w w') ∧ (∀ w, Calls Try.prog 28 #[.string a, .string b, .string c] w fun e w' => e = .returned (.tuple #[.string r0, .bool r1]) ∧ Below w.heap.size w w') := by
  cases h : are3B a b c with
  | true => exact ⟨_, _, fun w => specChs_t a b c w h_a h_b h_c h, fun w => implChs_t a b c w h_a h_b h_c h⟩
  | false => exact ⟨_, _, fun w => specChs_f a b c w h_a h_b h_c h, fun w => implChs_f a b c w h_a h_b h_c h⟩
set_option maxHeartbeats 1000000 in
set_option maxRecDepth 100000 in
theorem walk_FnExactPlainSwitch (a : ByteArray) (b : ByteArray) (c : ByteArray) (w : World) (h_a : a.size ≤ maxLen) (h_b : b.size ≤ maxLen) (h_c : c.size ≤ maxLen) :
    Calls Try.prog 6 #[.string a, .string b, .string c] w fun e w' => e = .returned (.bool true) ∧ Below w.heap.size w w' := by
  by_cases l_a : (a.size : Int) ≤ 1048576
  case neg =>
    go_enter Try.func6, Try.ntmps6
    go_wp2
    go_ret
    exact ⟨rfl, Below.refl _ _⟩
  by_cases l_b : (b.size : Int) ≤ 1048576
  case neg =>
    go_enter Try.func6, Try.ntmps6
    go_wp2
    go_ret
    exact ⟨rfl, Below.refl _ _⟩
  by_cases l_c : (c.size : Int) ≤ 1048576
  case neg =>
    go_enter Try.func6, Try.ntmps6
    go_wp2
    go_ret
    exact ⟨rfl, Below.refl _ _⟩
  obtain ⟨r0, r1, hS, hI⟩ := chs_both a b c h_a h_b h_c l_a l_b l_c
  have HS := Lib.hid hS
  have HI := Lib.hid hI
  clear hS hI
  go_enter Try.func6, Try.ntmps6
  go_wp2_with fail
  refine (HS.out _).mono ?_; rintro e w1 ⟨rfl, b1⟩
  go_wp2_with fail
  refine (HI.out _).mono ?_; rintro e w2 ⟨rfl, b2⟩
  go_wp2
  go_ret
  exact ⟨rfl, b1.trans (b2.mono b1.size)⟩
end Go.Proofs.Ytmhbgpappjfolaa
