/- Filtered waves on the model's side. -/
import Derived.Test.YtfekdmnhlbjmaaaLast9
import Derived.Test.YtfekdmnhlbjmaaaBytes
namespace Go.Proofs.Ytfekdmnhlbjmaaa
open Go.RowKit
set_option linter.unusedVariables false
set_option linter.unusedSimpArgs false

theorem cell_one_at8 (W : World) (x : Value) (t : TypeId) (q : Nat) (hq : q = W.heap.size) : ∀ j u, [x][j]? = some u → (W.alloc (.cells #[x] t)).cell? ((⟨q, 0, none⟩ : Addr).add j) = some u := by subst hq; exact cell_one_new _ _ _
theorem buf_drewN8 {w : World} {B : Nat} {v : Value} {l : List UInt8} (n : Nat) (h : Buf w B v l) : Buf (w.drewN n) B v l := h
theorem below_drewN8 {B : Nat} {w w' : World} (n : Nat) (h : Below B w w') : Below B w (w'.drewN n) := ⟨h.os, h.tape, h.output, h.size, h.block⟩
theorem level8 (b : Bool) (w : World) : Calls Try.prog 50 #[.bool b] w fun e w' => e = .returned (.int .u8 ((lvU b).toNat : Int)) ∧ w = w' := by
  cases b
  all_goals
    go_enter Try.func50, Try.ntmps50
    go_wp2
    go_ret
    exact ⟨rfl, rfl⟩
set_option maxHeartbeats 2000000 in
set_option maxRecDepth 100000 in
theorem specDebL_t (s : ByteArray) (T : Nat) (w : World) (hs : s.size ≤ maxLen) (hc : canB s (T : Int) = true) :
    Calls Try.prog 47 #[.string s, .int .i64 (T : Int)] w fun e w' => e = .returned (.string (outS (fltL (decDeb T) T s) s.size)) ∧ Below w.heap.size w w' := by
  obtain ⟨hw, hT1, hT2⟩ := canB_t hc
  have hz := wave_le hw
  have HL := Lib.hid (fun k W h => last9_any s k T W hw h (by omega) (by omega))
  have HF := Lib.hid (fun w => l09F_any s (T : Int) w hs)
  rw [hc] at HF
  obtain ⟨i0, hi, hz0, hz1, hz2⟩ := info_parts info_u8
  clear hw hc
  go_enter Try.func47, Try.ntmps47
  go_wp2
  go_loopw [5, 6, 7, 19, 22] (fun v l i _a _b wr => ∃ k : Nat, k ≤ s.size ∧ i = .int .i64 k ∧ l = .int .u8 ((lvU (filt (decDeb T) (bit s) T k)).toNat : Int) ∧ Hid (Buf wr w.heap.size v (outL (fltL (decDeb T) T s) k)) ∧ Hid (Below w.heap.size w wr)) (fun v l i _a _b _ => s.size - (intOf i).toNat)
  case atStart => exact ⟨0, Nat.zero_le _, rfl, rfl, Lib.hid (Buf.lit w), Lib.hid ((Below.refl _ _).alloc (Nat.le_refl _) _)⟩
  case round =>
    obtain ⟨k, hk, rfl, rfl, HB, HBW⟩ := hrel
    by_cases hlt : k < s.size
    · have HLN := Lib.hid (outL_len (fltL (decDeb T) T s) k)
      have hsz := HBW.out.size
      have hcle := lastC_le (bit s) T (k + 1)
      obtain ⟨y, hy⟩ : ∃ y, fltL (decDeb T) T s k = y := ⟨_, rfl⟩
      have HX : Hid (outL (fltL (decDeb T) T s) (k + 1) = outL (fltL (decDeb T) T s) k ++ [lvU y]) := by show _ = _; rw [outL_snoc, hy]
      have hy2 : (decDeb T) (lastC (bit s) T (k + 1)) (filt (decDeb T) (bit s) T k) = y := hy
      have HLK := Lib.hid (fun W => HL.out k W hlt)
      obtain ⟨c, hcc⟩ : ∃ c, lastC (bit s) T (k + 1) = c := ⟨_, rfl⟩
      rw [hcc] at HLK hcle hy2
      have hF : fltL (decDeb T) T s k = filt (decDeb T) (bit s) T (k + 1) := rfl
      have HFY : Hid (filt (decDeb T) (bit s) T (k + 1) = y) := by show _ = _; rw [← hF]; exact hy
      clear hF
      by_cases h1 : c = T
      · have e1 : ((c : Int) == (T : Int)) = true := by simp [h1]
        obtain rfl : y = true := by rw [← hy2]; simp [decDeb, h1]
        have hv1 : ((lvU true).toNat : Int) = 49 := rfl
        clear hy hy2 hcc
        go_wp2_with fail
        refine (HLK.out _).mono ?_; rintro e w' ⟨rfl, q, rfl⟩
        have HB := Lib.hid (buf_drewN8 q HB.out)
        have HBW := Lib.hid (below_drewN8 q HBW.out)
        obtain ⟨wd, hwd⟩ : ∃ W, wr.drewN q = W := ⟨_, rfl⟩
        rw [hwd] at HB HBW
        have hsz := HBW.out.size
        rw [hwd]
        clear hwd
        go_wp2_with (at_builtin; refine wpList_append_own _ rfl _ _ 51 rfl w.heap.size 5 i0 (.int .u8 0) 1 1 Try.underlying51 hi hz0 hz1 hz2 rfl (by decide) _ _ _ rfl (HB.out.alloc _) ⟨wd.heap.size, 0, none⟩ 1 1 [.int .u8 49] rfl rfl ?c1 ?c2 ?c3 ?c4 ?c5 ?_)
        case c1 => exact cell_one_at8 _ _ _ _ (by first | rfl | simp)
        case c2 => simp [Value.oneCell']
        case c3 => rw [HLN.out]; unfold maxLen; omega
        case c4 => rw [HLN.out]; omega
        case c5 => first | omega | (simp; omega)
        intro v' w7 hown' hgrow _
        have HO := Lib.hid (Buf.snoc (b := lvU true) hown')
        have HW7 := Lib.hid (Buf.below HBW.out HB.out _ hgrow)
        clear hown' hgrow
        go_wp2
        go_roundw
        case rel => exact ⟨k + 1, by omega, by go_num, by rw [HFY.out]; try rfl, by rw [HX.out]; exact HO, HW7⟩
        case measure => simp [intOf]; omega
      · have e1 : ((c : Int) == (T : Int)) = false := by simp; omega
        by_cases h2 : c = 0
        · have e2 : ((c : Int) == 0) = true := by simp [h2]
          obtain rfl : y = false := by rw [← hy2]; subst h2; simp [decDeb]; omega
        
          clear hy hy2 hcc
          go_wp2_with fail
          refine (HLK.out _).mono ?_; rintro e w' ⟨rfl, q, rfl⟩
          have HB := Lib.hid (buf_drewN8 q HB.out)
          have HBW := Lib.hid (below_drewN8 q HBW.out)
          obtain ⟨wd, hwd⟩ : ∃ W, wr.drewN q = W := ⟨_, rfl⟩
          rw [hwd] at HB HBW
          have hsz := HBW.out.size
          rw [hwd]
          clear hwd
          go_wp2_with (at_builtin; refine wpList_append_own _ rfl _ _ 51 rfl w.heap.size 5 i0 (.int .u8 0) 1 1 Try.underlying51 hi hz0 hz1 hz2 rfl (by decide) _ _ _ rfl (HB.out.alloc _) ⟨wd.heap.size, 0, none⟩ 1 1 [.int .u8 48] rfl rfl ?d1 ?d2 ?d3 ?d4 ?d5 ?_)
          case d1 => exact cell_one_at8 _ _ _ _ (by first | rfl | simp)
          case d2 => simp [Value.oneCell']
          case d3 => rw [HLN.out]; unfold maxLen; omega
          case d4 => rw [HLN.out]; omega
          case d5 => first | omega | (simp; omega)
          intro v' w7 hown' hgrow _
          have HO := Lib.hid (Buf.snoc (b := lvU false) hown')
          have HW7 := Lib.hid (Buf.below HBW.out HB.out _ hgrow)
          clear hown' hgrow
          go_wp2
          go_roundw
          case rel => exact ⟨k + 1, by omega, by go_num, by rw [HFY.out]; try rfl, by rw [HX.out]; exact HO, HW7⟩
          case measure => simp [intOf]; omega
        · have e2 : ((c : Int) == 0) = false := by simp; omega
          have HYK : Hid (filt (decDeb T) (bit s) T k = y) := by show _ = _; rw [← hy2]; simp [decDeb, h1]; omega
          rw [HYK.out]
        
          clear hy hy2 hcc
          go_wp2_with fail
          refine (HLK.out _).mono ?_; rintro e w' ⟨rfl, q, rfl⟩
          have HB := Lib.hid (buf_drewN8 q HB.out)
          have HBW := Lib.hid (below_drewN8 q HBW.out)
          obtain ⟨wd, hwd⟩ : ∃ W, wr.drewN q = W := ⟨_, rfl⟩
          rw [hwd] at HB HBW
          have hsz := HBW.out.size
          rw [hwd]
          clear hwd
          go_wp2_with (at_builtin; refine wpList_append_own _ rfl _ _ 51 rfl w.heap.size 5 i0 (.int .u8 0) 1 1 Try.underlying51 hi hz0 hz1 hz2 rfl (by decide) _ _ _ rfl (HB.out.alloc _) ⟨wd.heap.size, 0, none⟩ 1 1 [.int .u8 ((lvU y).toNat : Int)] rfl rfl ?e1 ?e2 ?e3 ?e4 ?e5 ?_)
          case e1 => exact cell_one_at8 _ _ _ _ (by first | rfl | simp)
          case e2 => simp [Value.oneCell']
          case e3 => rw [HLN.out]; unfold maxLen; omega
          case e4 => rw [HLN.out]; omega
          case e5 => first | omega | (simp; omega)
          intro v' w7 hown' hgrow _
          have HO := Lib.hid (Buf.snoc (b := lvU y) hown')
          have HW7 := Lib.hid (Buf.below HBW.out HB.out _ hgrow)
          clear hown' hgrow
          go_wp2
          go_roundw
          case rel => exact ⟨k + 1, by omega, by go_num, by rw [HFY.out]; try rfl, by rw [HX.out]; exact HO, HW7⟩
          case measure => simp [intOf]; omega

    · obtain rfl : k = s.size := by omega
      have hconv := run_buf_string _ _ _ _ HB.out
      go_wp2
      go_ret
      exact ⟨rfl, HBW.out⟩
theorem specDeb_t (s : ByteArray) (T : Nat) (w : World) (hs : s.size ≤ maxLen) (hc : canB s (T : Int) = true) :
    Calls Try.prog 21 #[.string s, .int .i64 (T : Int)] w fun e w' => e = .returned (.tuple #[.string (outS (fltL (decDeb T) T s) s.size), .bool true]) ∧ Below w.heap.size w w' := by
  have HF := Lib.hid (fun w => l09F_any s (T : Int) w hs)
  rw [hc] at HF
  go_enter Try.func21, Try.ntmps21
  go_wp2_with fail
  refine (HF.out _).mono ?_; rintro e w1 ⟨rfl, rfl⟩
  go_wp2_with fail
  refine (specDebL_t s T _ hs hc).mono ?_; rintro e w1 ⟨rfl, b1⟩
  go_wp2
  go_ret2
  exact ⟨rfl, b1⟩
theorem specDeb_f (s : ByteArray) (T : Int) (w : World) (hs : s.size ≤ maxLen) (hc : canB s T = false) :
    Calls Try.prog 21 #[.string s, .int .i64 T] w fun e w' => e = .returned (.tuple #[.string ⟨#[]⟩, .bool false]) ∧ Below w.heap.size w w' := by
  have HF := Lib.hid (fun w => l09F_any s T w hs)
  rw [hc] at HF
  go_enter Try.func21, Try.ntmps21
  go_wp2_with fail
  refine (HF.out _).mono ?_; rintro e w1 ⟨rfl, rfl⟩
  go_wp2
  go_ret2
  exact ⟨rfl, Below.refl _ _⟩
theorem specStr_f (s : ByteArray) (T : Int) (w : World) (hs : s.size ≤ maxLen) (hc : canB s T = false) :
    Calls Try.prog 23 #[.string s, .int .i64 T] w fun e w' => e = .returned (.tuple #[.string ⟨#[]⟩, .bool false]) ∧ Below w.heap.size w w' := by
  have HF := Lib.hid (fun w => l09F_any s T w hs)
  rw [hc] at HF
  go_enter Try.func23, Try.ntmps23
  go_wp2_with fail
  refine (HF.out _).mono ?_; rintro e w1 ⟨rfl, rfl⟩
  go_wp2
  go_ret2
  exact ⟨rfl, Below.refl _ _⟩
set_option maxHeartbeats 2000000 in
set_option maxRecDepth 100000 in
theorem specStr_t (s : ByteArray) (T : Nat) (w : World) (hs : s.size ≤ maxLen) (hc : canB s (T : Int) = true) :
    Calls Try.prog 23 #[.string s, .int .i64 (T : Int)] w fun e w' => e = .returned (.tuple #[.string (outS (fltL decStr T s) s.size), .bool true]) ∧ Below w.heap.size w w' := by
  obtain ⟨hw, hT1, hT2⟩ := canB_t hc
  have hz := wave_le hw
  have HL := Lib.hid (fun k W h => last9_any s k T W hw h (by omega) (by omega))
  have HF := Lib.hid (fun w => l09F_any s (T : Int) w hs)
  rw [hc] at HF
  obtain ⟨i0, hi, hz0, hz1, hz2⟩ := info_parts info_u8
  clear hw hc
  go_enter Try.func23, Try.ntmps23
  go_wp2_with fail
  refine (HF.out _).mono ?_; rintro e w1 ⟨rfl, rfl⟩
  go_wp2
  go_loopw [6, 7] (fun v i wr => ∃ k : Nat, k ≤ s.size ∧ i = .int .i64 k ∧ Hid (Buf wr w.heap.size v (outL (fltL decStr T s) k)) ∧ Hid (Below w.heap.size w wr)) (fun v i _ => s.size - (intOf i).toNat)
  case atStart => exact ⟨0, Nat.zero_le _, rfl, Lib.hid (Buf.lit w), Lib.hid ((Below.refl _ _).alloc (Nat.le_refl _) _)⟩
  case round =>
    obtain ⟨k, hk, rfl, HB, HBW⟩ := hrel
    by_cases hlt : k < s.size
    · have HLN := Lib.hid (outL_len (fltL decStr T s) k)
      have hsz := HBW.out.size
      have hcle := lastC_le (bit s) T (k + 1)
      obtain ⟨y, hy⟩ : ∃ y, fltL decStr T s k = y := ⟨_, rfl⟩
      have HX : Hid (outL (fltL decStr T s) (k + 1) = outL (fltL decStr T s) k ++ [lvU y]) := by show _ = _; rw [outL_snoc, hy]
      have hy2 : decStr (lastC (bit s) T (k + 1)) (filt decStr (bit s) T k) = y := hy
      have HLK := Lib.hid (fun W => HL.out k W hlt)
      obtain ⟨c, hcc⟩ : ∃ c, lastC (bit s) T (k + 1) = c := ⟨_, rfl⟩
      rw [hcc] at HLK hcle hy2
      by_cases h1 : 0 < c
      ·
        have e1 : (0 : Int) < (c : Int) := by omega
        have e2 := decide_eq_true e1
        obtain rfl : y = true := by rw [← hy2]; simp [decStr, h1]
        clear hy hy2 hcc
        go_wp2_with fail
        refine (HLK.out _).mono ?_; rintro e w' ⟨rfl, q, rfl⟩
        have HB := Lib.hid (buf_drewN8 q HB.out)
        have HBW := Lib.hid (below_drewN8 q HBW.out)
        obtain ⟨wd, hwd⟩ : ∃ W, wr.drewN q = W := ⟨_, rfl⟩
        rw [hwd] at HB HBW
        have hsz := HBW.out.size
        rw [hwd]
        clear hwd
        go_wp2_with (first | (at_builtin; refine wpList_append_own _ rfl _ _ 51 rfl w.heap.size 5 i0 (.int .u8 0) 1 1 Try.underlying51 hi hz0 hz1 hz2 rfl (by decide) _ _ _ rfl (HB.out.alloc _) ⟨wd.heap.size, 0, none⟩ 1 1 [.int .u8 ((lvU true).toNat : Int)] rfl rfl ?c1 ?c2 ?c3 ?c4 ?c5 ?_) | (go_at_call 50; (with_reducible refine (level8 true _).mono ?_); rintro e w' ⟨rfl, rfl⟩))
        case c1 => exact cell_one_at8 _ _ _ _ (by first | rfl | simp)
        case c2 => simp [Value.oneCell']
        case c3 => rw [HLN.out]; unfold maxLen; omega
        case c4 => rw [HLN.out]; omega
        case c5 => first | omega | (simp; omega)
        intro v' w7 hown' hgrow _
        have HO := Lib.hid (Buf.snoc (b := lvU true) hown')
        have HW7 := Lib.hid (Buf.below HBW.out HB.out _ hgrow)
        clear hown' hgrow
        go_wp2
        go_roundw
        case rel => exact ⟨k + 1, by omega, by go_num, by rw [HX.out]; exact HO, HW7⟩
        case measure => simp [intOf]; omega
      ·
        have e1 : ¬ (0 : Int) < (c : Int) := by omega
        have e2 := decide_eq_false e1
        obtain rfl : y = false := by rw [← hy2]; simp [decStr, h1]
        clear hy hy2 hcc
        go_wp2_with fail
        refine (HLK.out _).mono ?_; rintro e w' ⟨rfl, q, rfl⟩
        have HB := Lib.hid (buf_drewN8 q HB.out)
        have HBW := Lib.hid (below_drewN8 q HBW.out)
        obtain ⟨wd, hwd⟩ : ∃ W, wr.drewN q = W := ⟨_, rfl⟩
        rw [hwd] at HB HBW
        have hsz := HBW.out.size
        rw [hwd]
        clear hwd
        go_wp2_with (first | (at_builtin; refine wpList_append_own _ rfl _ _ 51 rfl w.heap.size 5 i0 (.int .u8 0) 1 1 Try.underlying51 hi hz0 hz1 hz2 rfl (by decide) _ _ _ rfl (HB.out.alloc _) ⟨wd.heap.size, 0, none⟩ 1 1 [.int .u8 ((lvU false).toNat : Int)] rfl rfl ?d1 ?d2 ?d3 ?d4 ?d5 ?_) | (go_at_call 50; (with_reducible refine (level8 false _).mono ?_); rintro e w' ⟨rfl, rfl⟩))
        case d1 => exact cell_one_at8 _ _ _ _ (by first | rfl | simp)
        case d2 => simp [Value.oneCell']
        case d3 => rw [HLN.out]; unfold maxLen; omega
        case d4 => rw [HLN.out]; omega
        case d5 => first | omega | (simp; omega)
        intro v' w7 hown' hgrow _
        have HO := Lib.hid (Buf.snoc (b := lvU false) hown')
        have HW7 := Lib.hid (Buf.below HBW.out HB.out _ hgrow)
        clear hown' hgrow
        go_wp2
        go_roundw
        case rel => exact ⟨k + 1, by omega, by go_num, by rw [HX.out]; exact HO, HW7⟩
        case measure => simp [intOf]; omega

    · obtain rfl : k = s.size := by omega
      have hconv := run_buf_string _ _ _ _ HB.out
      go_wp2
      go_ret2
      exact ⟨rfl, HBW.out⟩
set_option maxHeartbeats 2000000 in
set_option maxRecDepth 100000 in
theorem specMaj_t (s : ByteArray) (T : Nat) (w : World) (hs : s.size ≤ maxLen) (hc : canB s (T : Int) = true) (hodd : T % 2 = 1) :
    Calls Try.prog 25 #[.string s, .int .i64 (T : Int)] w fun e w' => e = .returned (.tuple #[.string (outS (fltL (decMaj T) T s) s.size), .bool true]) ∧ Below w.heap.size w w' := by
  obtain ⟨hw, hT1, hT2⟩ := canB_t hc
  have hz := wave_le hw
  have HL := Lib.hid (fun k W h => last9_any s k T W hw h (by omega) (by omega))
  have HF := Lib.hid (fun w => l09F_any s (T : Int) w hs)
  rw [hc] at HF
  obtain ⟨i0, hi, hz0, hz1, hz2⟩ := info_parts info_u8
  clear hw hc
  go_enter Try.func25, Try.ntmps25
  go_wp2_with fail
  refine (HF.out _).mono ?_; rintro e w1 ⟨rfl, rfl⟩
  have hr : Int.tmod (T : Int) 2 = 1 := by rw [show Int.tmod (T : Int) 2 = ((T % 2 : Nat) : Int) from rfl, hodd]; rfl
  have hr2 : (T : Int) % 2 = 1 := by omega
  go_wp2
  go_loopw [6, 7] (fun v i wr => ∃ k : Nat, k ≤ s.size ∧ i = .int .i64 k ∧ Hid (Buf wr w.heap.size v (outL (fltL (decMaj T) T s) k)) ∧ Hid (Below w.heap.size w wr)) (fun v i _ => s.size - (intOf i).toNat)
  case atStart => exact ⟨0, Nat.zero_le _, rfl, Lib.hid (Buf.lit w), Lib.hid ((Below.refl _ _).alloc (Nat.le_refl _) _)⟩
  case round =>
    obtain ⟨k, hk, rfl, HB, HBW⟩ := hrel
    by_cases hlt : k < s.size
    · have HLN := Lib.hid (outL_len (fltL (decMaj T) T s) k)
      have hsz := HBW.out.size
      have hcle := lastC_le (bit s) T (k + 1)
      obtain ⟨y, hy⟩ : ∃ y, fltL (decMaj T) T s k = y := ⟨_, rfl⟩
      have HX : Hid (outL (fltL (decMaj T) T s) (k + 1) = outL (fltL (decMaj T) T s) k ++ [lvU y]) := by show _ = _; rw [outL_snoc, hy]
      have hy2 : (decMaj T) (lastC (bit s) T (k + 1)) (filt (decMaj T) (bit s) T k) = y := hy
      have HLK := Lib.hid (fun W => HL.out k W hlt)
      obtain ⟨c, hcc⟩ : ∃ c, lastC (bit s) T (k + 1) = c := ⟨_, rfl⟩
      rw [hcc] at HLK hcle hy2
      by_cases h1 : T < 2 * c
      ·
        have hm : IntKind.i64.wrap (2 * (c : Int)) = 2 * (c : Int) := IntWalk.i64_in _ (by omega)
        have e1 : (T : Int) < 2 * (c : Int) := by omega
        have e2 := decide_eq_true e1
        obtain rfl : y = true := by rw [← hy2]; simp [decMaj, h1]
        clear hy hy2 hcc
        go_wp2_with fail
        refine (HLK.out _).mono ?_; rintro e w' ⟨rfl, q, rfl⟩
        have HB := Lib.hid (buf_drewN8 q HB.out)
        have HBW := Lib.hid (below_drewN8 q HBW.out)
        obtain ⟨wd, hwd⟩ : ∃ W, wr.drewN q = W := ⟨_, rfl⟩
        rw [hwd] at HB HBW
        have hsz := HBW.out.size
        rw [hwd]
        clear hwd
        go_wp2_with (first | (at_builtin; refine wpList_append_own _ rfl _ _ 51 rfl w.heap.size 5 i0 (.int .u8 0) 1 1 Try.underlying51 hi hz0 hz1 hz2 rfl (by decide) _ _ _ rfl (HB.out.alloc _) ⟨wd.heap.size, 0, none⟩ 1 1 [.int .u8 ((lvU true).toNat : Int)] rfl rfl ?c1 ?c2 ?c3 ?c4 ?c5 ?_) | (go_at_call 50; (with_reducible refine (level8 true _).mono ?_); rintro e w' ⟨rfl, rfl⟩))
        case c1 => exact cell_one_at8 _ _ _ _ (by first | rfl | simp)
        case c2 => simp [Value.oneCell']
        case c3 => rw [HLN.out]; unfold maxLen; omega
        case c4 => rw [HLN.out]; omega
        case c5 => first | omega | (simp; omega)
        intro v' w7 hown' hgrow _
        have HO := Lib.hid (Buf.snoc (b := lvU true) hown')
        have HW7 := Lib.hid (Buf.below HBW.out HB.out _ hgrow)
        clear hown' hgrow
        go_wp2
        go_roundw
        case rel => exact ⟨k + 1, by omega, by go_num, by rw [HX.out]; exact HO, HW7⟩
        case measure => simp [intOf]; omega
      ·
        have hm : IntKind.i64.wrap (2 * (c : Int)) = 2 * (c : Int) := IntWalk.i64_in _ (by omega)
        have e1 : ¬ (T : Int) < 2 * (c : Int) := by omega
        have e2 := decide_eq_false e1
        obtain rfl : y = false := by rw [← hy2]; simp [decMaj, h1]
        clear hy hy2 hcc
        go_wp2_with fail
        refine (HLK.out _).mono ?_; rintro e w' ⟨rfl, q, rfl⟩
        have HB := Lib.hid (buf_drewN8 q HB.out)
        have HBW := Lib.hid (below_drewN8 q HBW.out)
        obtain ⟨wd, hwd⟩ : ∃ W, wr.drewN q = W := ⟨_, rfl⟩
        rw [hwd] at HB HBW
        have hsz := HBW.out.size
        rw [hwd]
        clear hwd
        go_wp2_with (first | (at_builtin; refine wpList_append_own _ rfl _ _ 51 rfl w.heap.size 5 i0 (.int .u8 0) 1 1 Try.underlying51 hi hz0 hz1 hz2 rfl (by decide) _ _ _ rfl (HB.out.alloc _) ⟨wd.heap.size, 0, none⟩ 1 1 [.int .u8 ((lvU false).toNat : Int)] rfl rfl ?d1 ?d2 ?d3 ?d4 ?d5 ?_) | (go_at_call 50; (with_reducible refine (level8 false _).mono ?_); rintro e w' ⟨rfl, rfl⟩))
        case d1 => exact cell_one_at8 _ _ _ _ (by first | rfl | simp)
        case d2 => simp [Value.oneCell']
        case d3 => rw [HLN.out]; unfold maxLen; omega
        case d4 => rw [HLN.out]; omega
        case d5 => first | omega | (simp; omega)
        intro v' w7 hown' hgrow _
        have HO := Lib.hid (Buf.snoc (b := lvU false) hown')
        have HW7 := Lib.hid (Buf.below HBW.out HB.out _ hgrow)
        clear hown' hgrow
        go_wp2
        go_roundw
        case rel => exact ⟨k + 1, by omega, by go_num, by rw [HX.out]; exact HO, HW7⟩
        case measure => simp [intOf]; omega

    · obtain rfl : k = s.size := by omega
      have hconv := run_buf_string _ _ _ _ HB.out
      go_wp2
      go_ret2
      exact ⟨rfl, HBW.out⟩
end Go.Proofs.Ytfekdmnhlbjmaaa
