/- The least period of a wave, on both sides, and the walk of its law. -/
import Derived.Test.YtlhgpalobdnfoaaStr
import Derived.BigQuiet
import Derived.Deep.QuietTactic
import Derived.WalkSpells
namespace Go.Proofs.Ytlhgpalobdnfoaa
open Go.RowKit

/-- each level is that of p ticks before -/
def perB (s : ByteArray) (p : Nat) : Bool := (s.extract p s.size).toList == (s.extract 0 (s.size - p)).toList
def perFrom (s : ByteArray) : Nat → Nat → Nat
  | 0, _ => max 1 s.size
  | f + 1, p => if perB s p then p else perFrom s f (p + 1)
def perL (s : ByteArray) : Nat := perFrom s (s.size - 1) 1
theorem per_hit (s : ByteArray) (k : Nat) (h : k < s.size) (hb : perB s k = true) : perFrom s (s.size - k) k = k := by
  obtain ⟨f, hf⟩ : ∃ f, s.size - k = f + 1 := ⟨s.size - k - 1, by omega⟩
  rw [hf, perFrom, if_pos hb]
theorem per_miss (s : ByteArray) (k : Nat) (h : k < s.size) (hb : perB s k = false) : perFrom s (s.size - k) k = perFrom s (s.size - (k + 1)) (k + 1) := by
  obtain ⟨f, hf⟩ : ∃ f, s.size - k = f + 1 := ⟨s.size - k - 1, by omega⟩
  rw [hf, perFrom, if_neg (by simp [hb]), show s.size - (k + 1) = f from by omega]
theorem per_end (s : ByteArray) (k : Nat) (h : s.size ≤ k) : perFrom s (s.size - k) k = max 1 s.size := by
  rw [show s.size - k = 0 from by omega, perFrom]

theorem l00Max_one (n : Nat) (w : World) :
    Calls Try.prog 74 #[.int .i64 1, .int .i64 n] w fun e w' => e = .returned (.int .i64 (max 1 n : Nat)) ∧ w = w' := by
  by_cases h : (1 : Int) > n
  all_goals
    go_enter Try.func74, Try.ntmps74
    go_wp2
    go_ret
    exact ⟨ret_int (by omega), rfl⟩

theorem specPeriod (s : ByteArray) (w : World) (hs2 : s.size ≤ 1048576) :
    Calls Try.prog 61 #[.string s] w fun e w' => e = .returned (.int .i64 (perL s)) ∧ ∃ q, w' = w.drewN q := by
  go_enter Try.func61, Try.ntmps61
  go_wp2
  go_loopw [3] (fun i wr => ∃ k : Nat, 1 ≤ k ∧ i = .int .i64 k ∧ (k ≤ s.size ∨ k = 1) ∧ perFrom s (s.size - k) k = perL s ∧ ∃ q, wr = w.drewN q) (fun i _ => s.size + 1 - (intOf i).toNat)
  case atStart => exact ⟨1, Nat.le_refl _, rfl, Or.inr rfl, rfl, 0, rfl⟩
  case round =>
    obtain ⟨k, hk1, rfl, hk2, hp, q, rfl⟩ := hrel
    have HP := Lib.hid hp
    clear hp
    by_cases hlt : k < s.size
    · cases hb : perB s k with
      | true =>
        have HS := Lib.hid (per_hit s k hlt hb)
        unfold perB at hb
        go_wp2
        go_quiet (fail)
        go_wp2
        go_ret
        exact ⟨ret_int (by rw [← HP.out, HS.out]), _, World.drewN_drewN _ _ _⟩
      | false =>
        have HS := Lib.hid (per_miss s k hlt hb)
        unfold perB at hb
        go_wp2
        go_quiet (fail)
        go_wp2
        go_roundw
        case rel => exact ⟨k + 1, by omega, by go_num, by omega, by rw [← HS.out]; exact HP.out, _, rfl⟩
        case measure => simp [intOf]; omega
    · have HE := Lib.hid (per_end s k (by omega))
      go_wp2_with fail
      refine (l00Max_one s.size _).mono ?_; rintro e w' ⟨rfl, rfl⟩
      go_wp2
      go_ret
      exact ⟨ret_int (by rw [← HP.out, HE.out]), q, rfl⟩

theorem hasPrefix_any (a b : ByteArray) (w : World) (h : b.size ≤ a.size) :
    Calls Try.prog 62 #[.string a, .string b] w fun e w' => e = .returned (.bool ((a.extract 0 b.size).toList == b.toList)) ∧ w = w' := by
  go_enter Try.func62, Try.ntmps62
  go_wp2
  go_ret
  exact ⟨rfl, rfl⟩

theorem pre_mid (s : ByteArray) (p : Nat) : ((s.extract 0 (s.extract p s.size).size).toList == (s.extract p s.size).toList) = perB s p := by
  unfold perB
  rw [ByteArray.size_extract, Nat.min_self, Bool.eq_iff_iff]
  simp only [beq_iff_eq]
  exact ⟨fun h => h.symm, fun h => h.symm⟩
theorem per_all (s : ByteArray) : perB s s.size = true := by
  unfold perB
  rw [beq_iff_eq, Nat.sub_self]
  congr 1
  apply ByteArray.ext
  simp

theorem implPeriod_t (s : ByteArray) (w : World) (hs : s.size ≤ maxLen) (hs2 : s.size ≤ 1048576) (hwv : waveB s.data.toList = true) :
    Calls Try.prog 39 #[.string s] w fun e w' => e = .returned (.tuple #[.int .i64 (perL s), .bool true]) ∧ Below w.heap.size w w' := by
  have HWV := Lib.hid hwv
  clear hwv
  go_enter Try.func39, Try.ntmps39
  go_wp2_with fail
  refine ((implIsWave s _ hs).mono (R' := fun e w' => e = .returned (.bool true) ∧ Below w.heap.size w w') (fun e w' h => by rw [HWV.out] at h; exact h)).mono ?_
  rintro e w1 ⟨rfl, hb1⟩
  go_wp2
  go_loop [4, 5, 11] (fun _ _ i => ∃ k : Nat, i = .int .i64 k ∧ k ≤ s.size ∧ (k = s.size → s.size = 0) ∧ perFrom s (s.size - (k + 1)) (k + 1) = perL s) (fun _ _ i => s.size - (intOf i).toNat)
  case atStart => exact ⟨0, rfl, Nat.zero_le _, fun h => h.symm, rfl⟩
  case round =>
    obtain ⟨k, rfl, hk, hk0, hp⟩ := hrel
    have HP := Lib.hid hp
    have HK := Lib.hid hk0
    clear hp hk0
    by_cases hlt : k < s.size
    · have HM := Lib.hid (pre_mid s (k + 1))
      have hle : (s.extract (k + 1) s.size).size ≤ s.size := by rw [ByteArray.size_extract]; omega
      have hidx : ((k : Int) + 1).toNat = k + 1 := by omega
      cases hb : perB s (k + 1) with
      | true =>
        have HB : Hid (perFrom s (s.size - (k + 1)) (k + 1) = k + 1) := by
          by_cases hl : k + 1 < s.size
          · exact per_hit s (k + 1) hl hb
          · exact (per_end s (k + 1) (by omega)).trans (by omega)
        have HPB := Lib.hid hb
        clear hb
        go_wp2_with fail
        refine ((hasPrefix_any s (s.extract (k + 1) s.size) _ hle).mono (R' := fun e w' => e = .returned (.bool true) ∧ w1 = w') (fun e w' h => by rw [HM.out, HPB.out] at h; exact h)).mono ?_
        rintro e w' ⟨rfl, rfl⟩
        go_wp2
        go_ret2
        exact ⟨by rw [← HP.out, HB.out]; rfl, hb1⟩
      | false =>
        have hl : k + 1 < s.size := by
          rcases Nat.lt_or_ge (k + 1) s.size with h | h
          · exact h
          · have he : k + 1 = s.size := by omega
            rw [he, per_all] at hb
            cases hb
        have HB := Lib.hid (per_miss s (k + 1) hl hb)
        have HPB := Lib.hid hb
        clear hb
        go_wp2_with fail
        refine ((hasPrefix_any s (s.extract (k + 1) s.size) _ hle).mono (R' := fun e w' => e = .returned (.bool false) ∧ w1 = w') (fun e w' h => by rw [HM.out, HPB.out] at h; exact h)).mono ?_
        rintro e w' ⟨rfl, rfl⟩
        go_wp2
        go_round
        case rel => exact ⟨k + 1, by go_num, by omega, fun h => by omega, by rw [← HB.out]; exact HP.out⟩
        case measure => simp [intOf]; omega
    · have h0 := HK.out (by omega)
      have HE := Lib.hid (per_end s (k + 1) (by omega))
      have H0 := Lib.hid h0
      clear h0
      go_wp2
      go_ret2
      exact ⟨by rw [← HP.out, HE.out, H0.out]; rfl, hb1⟩

theorem implPeriod_f (s : ByteArray) (w : World) (hs : s.size ≤ maxLen) (hwv : waveB s.data.toList = false) :
    Calls Try.prog 39 #[.string s] w fun e w' => e = .returned (.tuple #[.int .i64 0, .bool false]) ∧ Below w.heap.size w w' := by
  have HWV := Lib.hid hwv
  clear hwv
  go_enter Try.func39, Try.ntmps39
  go_wp2_with fail
  refine ((implIsWave s _ hs).mono (R' := fun e w' => e = .returned (.bool false) ∧ Below w.heap.size w w') (fun e w' h => by rw [HWV.out] at h; exact h)).mono ?_
  rintro e w1 ⟨rfl, hb1⟩
  go_wp2
  go_ret2
  exact ⟨rfl, hb1⟩
theorem specWP_t (s : ByteArray) (w : World) (hs : s.size ≤ maxLen) (hs2 : s.size ≤ 1048576) (hwv : waveB s.data.toList = true) :
    Calls Try.prog 38 #[.string s] w fun e w' => e = .returned (.tuple #[.int .i64 (perL s), .bool true]) ∧ Below w.heap.size w w' := by
  have HWV := Lib.hid hwv
  clear hwv
  go_enter Try.func38, Try.ntmps38
  go_wp2_with fail
  refine ((l01Wave_any s _ hs).mono (R' := fun e w' => e = .returned (.bool true) ∧ w = w') (fun e w' h => by rw [HWV.out] at h; exact h)).mono ?_
  rintro e w1 ⟨rfl, rfl⟩
  go_wp2_with fail
  refine (specPeriod s _ hs2).mono ?_; rintro e w' ⟨rfl, q, rfl⟩
  go_wp2
  go_ret2
  exact ⟨rfl, ⟨rfl, rfl, rfl, Nat.le_refl _, fun _ _ => rfl⟩⟩
theorem specWP_f (s : ByteArray) (w : World) (hs : s.size ≤ maxLen) (hwv : waveB s.data.toList = false) :
    Calls Try.prog 38 #[.string s] w fun e w' => e = .returned (.tuple #[.int .i64 0, .bool false]) ∧ Below w.heap.size w w' := by
  have HWV := Lib.hid hwv
  clear hwv
  go_enter Try.func38, Try.ntmps38
  go_wp2_with fail
  refine ((l01Wave_any s _ hs).mono (R' := fun e w' => e = .returned (.bool false) ∧ w = w') (fun e w' h => by rw [HWV.out] at h; exact h)).mono ?_
  rintro e w1 ⟨rfl, rfl⟩
  go_wp2
  go_ret2
  exact ⟨rfl, Below.refl _ _⟩

theorem walk_FnExactWavePeriod (s : ByteArray) (w : World) (hs : s.size ≤ maxLen) :
    Calls Try.prog 11 #[.string s] w fun e w' => e = .returned (.bool true) ∧ Below w.heap.size w w' := by
  by_cases hl : (s.size : Int) ≤ 1048576
  · obtain ⟨p, b, hS, hI⟩ : ∃ (p : Int) (b : Bool), (∀ w, Calls Try.prog 38 #[.string s] w fun e w' => e = .returned (.tuple #[.int .i64 p, .bool b]) ∧ Below w.heap.size w w') ∧ (∀ w, Calls Try.prog 39 #[.string s] w fun e w' => e = .returned (.tuple #[.int .i64 p, .bool b]) ∧ Below w.heap.size w w') := by
      cases hwv : waveB s.data.toList with
      | true => exact ⟨_, _, fun w => specWP_t s w hs (by omega) hwv, fun w => implPeriod_t s w hs (by omega) hwv⟩
      | false => exact ⟨_, _, fun w => specWP_f s w hs hwv, fun w => implPeriod_f s w hs hwv⟩
    have HS := Lib.hid hS
    have HI := Lib.hid hI
    clear hS hI
    go_enter Try.func11, Try.ntmps11
    go_wp2_with fail
    refine (HS.out _).mono ?_; rintro e w1 ⟨rfl, b1⟩
    go_wp2_with fail
    refine (HI.out _).mono ?_; rintro e w2 ⟨rfl, b2⟩
    go_wp2
    go_ret
    exact ⟨rfl, b1.trans (b2.mono b1.size)⟩
  · go_enter Try.func11, Try.ntmps11
    go_wp2
    go_ret
    exact ⟨rfl, Below.refl _ _⟩
end Go.Proofs.Ytlhgpalobdnfoaa
