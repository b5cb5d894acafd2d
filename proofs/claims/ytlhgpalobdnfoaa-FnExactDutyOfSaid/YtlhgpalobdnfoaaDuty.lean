/- The share of ones in a wave, on both sides, and the walk of its law. -/
import Derived.Test.YtlhgpalobdnfoaaDutyParts
import Derived.Test.YtlhgpalobdnfoaaShelf
import Derived.WalkSpells
namespace Go.Proofs.Ytlhgpalobdnfoaa
open Go.RowKit

def onesL (s : ByteArray) (k : Nat) : Nat := (s.data.toList.take k).count 49
theorem ones_hit (s : ByteArray) (k : Nat) (h : k < s.size) (h1 : (s[k].toNat : Int) = 49) : onesL s (k + 1) = onesL s k + 1 := by
  have e : s[k] = 49 := by apply UInt8.toNat_inj.1; show s[k].toNat = 49; omega
  unfold onesL; rw [take_snoc s k h, List.count_append, e]; rfl
theorem ones_miss (s : ByteArray) (k : Nat) (h : k < s.size) (h1 : (s[k].toNat : Int) = 48) : onesL s (k + 1) = onesL s k := by
  have e : s[k] = 48 := by apply UInt8.toNat_inj.1; show s[k].toNat = 48; omega
  unfold onesL; rw [take_snoc s k h, List.count_append, e]; rfl
theorem ones_le (s : ByteArray) (k : Nat) : onesL s k ≤ k := by
  unfold onesL; exact Nat.le_trans (List.count_le_length) (by rw [List.length_take]; omega)
theorem ones_all (s : ByteArray) (k : Nat) (h : s.size ≤ k) : onesL s k = s.data.toList.count 49 := by
  unfold onesL; rw [take_all s k h]
theorem lvl_at (s : ByteArray) (k : Nat) (h : k < s.size) (ha : waveB s.data.toList = true) : (s[k].toNat : Int) = 48 ∨ (s[k].toNat : Int) = 49 := by
  by_cases hb : (s[k].toNat : Int) = 48 ∨ (s[k].toNat : Int) = 49
  · exact hb
  · rw [wave_bad s k h hb] at ha; cases ha
theorem wave_size (s : ByteArray) (ha : waveB s.data.toList = true) : (s.size : Int) ≤ 400 := by
  by_cases h : (s.size : Int) ≤ 400
  · exact h
  · rw [wave_long s h] at ha; cases ha

def onesC (s : ByteArray) : Nat := s.data.toList.count 49
theorem ones_any (s : ByteArray) (w : World) (hs : s.size ≤ 400) (hwv : waveB s.data.toList = true) :
    Calls Try.prog 58 #[.string s] w fun e w' => e = .returned (.int .i64 (onesC s)) ∧ ∃ q, w' = w.drewN q := by
  have HW := Lib.hid hwv
  clear hwv
  go_enter Try.func58, Try.ntmps58
  go_wp2
  go_loopw [3, 4] (fun n i wr => ∃ k c : Nat, k ≤ s.size ∧ i = .int .i64 k ∧ n = .int .i64 c ∧ c ≤ k ∧ c = onesL s k ∧ ∃ q, wr = w.drewN q) (fun _ i _ => s.size - (intOf i).toNat)
  case atStart => exact ⟨0, 0, Nat.zero_le _, rfl, rfl, Nat.le_refl _, rfl, 0, rfl⟩
  case round =>
    obtain ⟨k, c, hk, rfl, rfl, hc, ho, q, rfl⟩ := hrel
    have HO := Lib.hid ho
    clear ho
    by_cases hlt : k < s.size
    · have HL := Lib.hid (lvl_at s k hlt HW.out)
      by_cases h1 : (s[k].toNat : Int) = 49
      · have HH := Lib.hid (ones_hit s k hlt h1)
        have hv : IntKind.u8.wrap ((s[k].toNat : Int) - 48) = 1 := by rw [h1]; decide
        clear h1
        have hw2 : IntKind.i64.wrap ((c : Int) + 1) = ((c + 1 : Nat) : Int) := by rw [IntWalk.i64_in _ (by omega)]; omega
        go_wp2
        go_roundw
        case rel => exact ⟨k + 1, c + 1, by omega, by go_num, by go_num, by omega, by rw [HH.out, HO.out], q, rfl⟩
        case measure => simp [intOf]; omega
      · have HH := Lib.hid (ones_miss s k hlt (by have := HL.out; omega))
        have hv : IntKind.u8.wrap ((s[k].toNat : Int) - 48) = 0 := by
          rw [show (s[k].toNat : Int) = 48 from by have := HL.out; omega]; decide
        clear h1
        have hw2 : IntKind.i64.wrap (c : Int) = (c : Int) := IntWalk.i64_in _ (by omega)
        go_wp2
        go_roundw
        case rel => exact ⟨k + 1, c, by omega, by go_num, by first | rfl | go_num, by omega, by rw [HH.out, HO.out], q, rfl⟩
        case measure => simp [intOf]; omega
    · have HE := Lib.hid (ones_all s k (by omega))
      go_wp2
      go_ret
      exact ⟨ret_int (by rw [HO.out, HE.out, onesC]), q, rfl⟩

def dutN (s : ByteArray) : Int := mkN (onesC s) s.size
def dutD (s : ByteArray) : Int := mkD (onesC s) s.size
theorem cnt_le (s : ByteArray) : onesC s ≤ s.size := by
  have := ones_le s s.size
  rwa [ones_all s s.size (Nat.le_refl _)] at this
theorem l01Wave_b (s : ByteArray) (b : Bool) (w : World) (hs : s.size ≤ maxLen) (h : waveB s.data.toList = b) :
    Calls Try.prog 51 #[.string s] w fun e w' => e = .returned (.bool b) ∧ w = w' := by
  rw [← h]; exact l01Wave_any s w hs
theorem implIsWave_b (s : ByteArray) (b : Bool) (w : World) (hs : s.size ≤ maxLen) (h : waveB s.data.toList = b) :
    Calls Try.prog 23 #[.string s] w fun e w' => e = .returned (.bool b) ∧ Below w.heap.size w w' := by
  rw [← h]; exact implIsWave s w hs

theorem specDuty_t (s : ByteArray) (w : World) (hs : s.size ≤ maxLen) (hwv : waveB s.data.toList = true) (hne : s.size ≠ 0) :
    Calls Try.prog 35 #[.string s] w fun e w' => e = .returned (.tuple #[.agg #[.int .i64 (dutN s), .int .i64 (dutD s)], .bool true]) ∧ Below w.heap.size w w' := by
  have hz := wave_size s hwv
  have hcn := cnt_le s
  have HWV := Lib.hid hwv
  clear hwv
  have h0 : ((s.size : Int) == 0) = false := beq_eq_false_iff_ne.2 (by omega)
  go_enter Try.func35, Try.ntmps35
  go_wp2_with fail
  refine (l01Wave_b s _ _ hs HWV.out).mono ?_; rintro e w' ⟨rfl, rfl⟩
  go_wp2_with fail
  refine (ones_any s _ (by omega) HWV.out).mono ?_; rintro e w1 ⟨rfl, q, rfl⟩
  go_wp2_with fail
  refine (l01FMake_any _ _ _ (by omega) (by omega) (by omega) (by omega) (by omega)).mono ?_; rintro e w2 ⟨rfl, hb⟩
  have HB := Lib.hid ((below_drewN ((Below.refl _ _).alloc (Nat.le_refl _) _) q).trans (hb.mono (by simp)) : Below w.heap.size w w2)
  obtain ⟨hc, hf⟩ := bcell hb
  go_wp2
  refine bodyPost_ret (v := .tuple #[.agg #[.int .i64 (dutN s), .int .i64 (dutD s)], .bool true]) (by simp [results, Try.results35, go_sem, hc, dutN, dutD]) rfl ⟨rfl, ?_⟩
  exact (HB.out.setCell (Nat.le_refl _) _).setCell (Nat.le_refl _) _
theorem specDuty_f (s : ByteArray) (w : World) (hs : s.size ≤ maxLen) (h : waveB s.data.toList = false ∨ s.size = 0) :
    Calls Try.prog 35 #[.string s] w fun e w' => e = .returned (.tuple #[.agg #[.int .i64 0, .int .i64 0], .bool false]) ∧ Below w.heap.size w w' := by
  cases hwv : waveB s.data.toList with
  | true =>
    have hne : s.size = 0 := by rcases h with h | h; rw [hwv] at h; cases h; exact h
    have h0 : ((s.size : Int) == 0) = true := by rw [hne]; rfl
    have HWV := Lib.hid hwv
    clear hwv h hne
    go_enter Try.func35, Try.ntmps35
    go_wp2_with fail
    refine (l01Wave_b s _ _ hs HWV.out).mono ?_; rintro e w' ⟨rfl, rfl⟩
    go_wp2
    exact bodyPost_ret (v := .tuple #[.agg #[.int .i64 0, .int .i64 0], .bool false]) (by simp [results, Try.results35, go_sem]) rfl ⟨rfl, (Below.refl _ _).alloc (Nat.le_refl _) _⟩
  | false =>
    have HWV := Lib.hid hwv
    clear hwv h
    go_enter Try.func35, Try.ntmps35
    go_wp2_with fail
    refine (l01Wave_b s _ _ hs HWV.out).mono ?_; rintro e w' ⟨rfl, rfl⟩
    go_wp2
    exact bodyPost_ret (v := .tuple #[.agg #[.int .i64 0, .int .i64 0], .bool false]) (by simp [results, Try.results35, go_sem]) rfl ⟨rfl, (Below.refl _ _).alloc (Nat.le_refl _) _⟩

theorem emp_f (s : ByteArray) (h : s.size ≠ 0) : s.toList.isEmpty = false := by
  rw [ByteArray.toList_eq]
  have := size_toList s
  cases hl : s.data.toList with
  | nil => rw [hl] at this; simp at this; omega
  | cons _ _ => rfl
theorem emp_t (s : ByteArray) (h : s.size = 0) : s.toList.isEmpty = true := by
  rw [ByteArray.toList_eq]
  have := size_toList s
  cases hl : s.data.toList with
  | nil => rfl
  | cons _ _ => rw [hl] at this; simp at this; omega

theorem implDuty_t (s : ByteArray) (w : World) (hs : s.size ≤ maxLen) (hwv : waveB s.data.toList = true) (hne : s.size ≠ 0) :
    Calls Try.prog 36 #[.string s] w fun e w' => e = .returned (.tuple #[.agg #[.int .i64 (dutN s), .int .i64 (dutD s)], .bool true]) ∧ Below w.heap.size w w' := by
  have hz := wave_size s hwv
  have hcn := cnt_le s
  have HWV := Lib.hid hwv
  clear hwv
  have h0 := emp_f s hne
  go_enter Try.func36, Try.ntmps36
  go_wp2_with fail
  refine (implIsWave_b s _ _ hs HWV.out).mono ?_; rintro e w1 ⟨rfl, hb1⟩
  have HB1 := Lib.hid hb1
  have hs1 := hb1.size
  simp at hs1
  clear hb1
  go_wp2_with fail
  refine (Try.strings_Count_one s 49 _).mono ?_; rintro e w' ⟨rfl, rfl⟩
  rw [show Lib.countByte s.data.toList 49 = onesC s from rfl]
  go_wp2_with fail
  refine (implMake_t _ _ _ (by omega) (by omega) (by omega) (by omega) (by omega)).mono ?_; rintro e w2 ⟨rfl, hb⟩
  have HB := Lib.hid (((((Below.refl _ _).alloc (Nat.le_refl _) _).trans (HB1.out.mono (by simp))).trans (hb.mono (by omega))) : Below w.heap.size w w2)
  obtain ⟨hc, hf⟩ := bcell (HB1.out.trans (hb.mono (by simp; omega)))
  go_wp2
  refine bodyPost_ret (v := .tuple #[.agg #[.int .i64 (dutN s), .int .i64 (dutD s)], .bool true]) (by simp [results, Try.results36, go_sem, hc, dutN, dutD]) rfl ⟨rfl, ?_⟩
  exact (HB.out.setCell (Nat.le_refl _) _).setCell (Nat.le_refl _) _
theorem implDuty_f (s : ByteArray) (w : World) (hs : s.size ≤ maxLen) (h : waveB s.data.toList = false ∨ s.size = 0) :
    Calls Try.prog 36 #[.string s] w fun e w' => e = .returned (.tuple #[.agg #[.int .i64 0, .int .i64 0], .bool false]) ∧ Below w.heap.size w w' := by
  cases hwv : waveB s.data.toList with
  | true =>
    have hne : s.size = 0 := by rcases h with h | h; rw [hwv] at h; cases h; exact h
    have h0 := emp_t s hne
    have HWV := Lib.hid hwv
    clear hwv h hne
    go_enter Try.func36, Try.ntmps36
    go_wp2_with fail
    refine (implIsWave_b s _ _ hs HWV.out).mono ?_; rintro e w1 ⟨rfl, hb1⟩
    have HB := Lib.hid (((Below.refl _ _).alloc (Nat.le_refl _) _).trans (hb1.mono (by simp)) : Below w.heap.size w w1)
    obtain ⟨hc, hf⟩ := bcell hb1
    go_wp2
    refine bodyPost_ret (v := .tuple #[.agg #[.int .i64 0, .int .i64 0], .bool false]) (by simp [results, Try.results36, go_sem, hc]) rfl ⟨rfl, ?_⟩
    exact (HB.out.setCell (Nat.le_refl _) _).setCell (Nat.le_refl _) _
  | false =>
    have HWV := Lib.hid hwv
    clear hwv h
    go_enter Try.func36, Try.ntmps36
    go_wp2_with fail
    refine (implIsWave_b s _ _ hs HWV.out).mono ?_; rintro e w1 ⟨rfl, hb1⟩
    have HB := Lib.hid (((Below.refl _ _).alloc (Nat.le_refl _) _).trans (hb1.mono (by simp)) : Below w.heap.size w w1)
    obtain ⟨hc, hf⟩ := bcell hb1
    go_wp2
    refine bodyPost_ret (v := .tuple #[.agg #[.int .i64 0, .int .i64 0], .bool false]) (by simp [results, Try.results36, go_sem, hc]) rfl ⟨rfl, ?_⟩
    exact (HB.out.setCell (Nat.le_refl _) _).setCell (Nat.le_refl _) _

theorem walk_FnExactDutyOf (s : ByteArray) (w : World) (hs : s.size ≤ maxLen) :
    Calls Try.prog 10 #[.string s] w fun e w' => e = .returned (.bool true) ∧ Below w.heap.size w w' := by
  by_cases hl : (s.size : Int) ≤ 1048576
  · obtain ⟨p, q, b, hS, hI⟩ : ∃ (p q : Int) (b : Bool), (∀ w, Calls Try.prog 35 #[.string s] w fun e w' => e = .returned (.tuple #[.agg #[.int .i64 p, .int .i64 q], .bool b]) ∧ Below w.heap.size w w') ∧ (∀ w, Calls Try.prog 36 #[.string s] w fun e w' => e = .returned (.tuple #[.agg #[.int .i64 p, .int .i64 q], .bool b]) ∧ Below w.heap.size w w') := by
      by_cases h : waveB s.data.toList = false ∨ s.size = 0
      · exact ⟨_, _, _, fun w => specDuty_f s w hs h, fun w => implDuty_f s w hs h⟩
      · have h1 : waveB s.data.toList = true := by
          cases hh : waveB s.data.toList with
          | true => rfl
          | false => exact absurd (Or.inl hh) h
        exact ⟨_, _, _, fun w => specDuty_t s w hs h1 (fun h2 => h (Or.inr h2)), fun w => implDuty_t s w hs h1 (fun h2 => h (Or.inr h2))⟩
    have HS := Lib.hid hS
    have HI := Lib.hid hI
    clear hS hI
    go_enter Try.func10, Try.ntmps10
    go_wp2_with fail
    refine (HS.out _).mono ?_; rintro e w1 ⟨rfl, hb1⟩
    go_wp2_with fail
    refine (HI.out _).mono ?_; rintro e w2 ⟨rfl, hb2⟩
    have HB := Lib.hid (((hb1.alloc hb1.size _).trans (hb2.mono (by have := hb1.size; simp; omega))))
    obtain ⟨hc, hf⟩ := bcell hb2
    have hz1 := hb1.size
    have hz2 := hb2.size
    simp at hz2
    have hz3 : w1.heap.size < w2.heap.size := by omega
    go_wp2_with fail
    refine (eqFraction_same _ _ _).mono ?_; rintro e w3 ⟨rfl, hb3⟩
    go_wp2
    go_ret
    exact ⟨rfl, (HB.out.alloc (by omega) _).trans (hb3.mono (by simp; omega))⟩
  · go_enter Try.func10, Try.ntmps10
    go_wp2
    go_ret
    exact ⟨rfl, Below.refl _ _⟩
end Go.Proofs.Ytlhgpalobdnfoaa
