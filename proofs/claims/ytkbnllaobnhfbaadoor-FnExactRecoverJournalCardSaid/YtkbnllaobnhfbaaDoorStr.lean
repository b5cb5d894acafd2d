/- Contracts of the functions that only look at a text: names and waves, on both sides, and the bounds. -/
import Derived.Test.YtkbnllaobnhfbaaDoorWords
import Derived.Test.YtkbnllaobnhfbaaDoorRows
import Derived.LoopTactic
namespace Go.Proofs.YtkbnllaobnhfbaaDoor
open Go.RowKit

theorem within_int_t (x lo hi : Int) (w : World) (h1 : lo ≤ x) (h2 : x ≤ hi) :
    Calls Tryd.prog 76 #[.int .i64 x, .int .i64 lo, .int .i64 hi] w fun e w' => e = .returned (.bool true) ∧ w = w' := by
  go_enter Tryd.func76, Tryd.ntmps76
  go_wp2
  go_ret
  exact ⟨by simp, rfl⟩
theorem within_int_f (x lo hi : Int) (w : World) (h : x < lo ∨ hi < x) :
    Calls Tryd.prog 76 #[.int .i64 x, .int .i64 lo, .int .i64 hi] w fun e w' => e = .returned (.bool false) ∧ w = w' := by
  by_cases h1 : lo ≤ x
  all_goals
    go_enter Tryd.func76, Tryd.ntmps76
    go_wp2
    go_ret
    exact ⟨by simp; try omega, rfl⟩
theorem within_rune_t (x lo hi : Int) (w : World) (h1 : lo ≤ x) (h2 : x ≤ hi) :
    Calls Tryd.prog 77 #[.int .i32 x, .int .i32 lo, .int .i32 hi] w fun e w' => e = .returned (.bool true) ∧ w = w' := by
  go_enter Tryd.func77, Tryd.ntmps77
  go_wp2
  go_ret
  exact ⟨by simp, rfl⟩
theorem within_rune_f (x lo hi : Int) (w : World) (h : x < lo ∨ hi < x) :
    Calls Tryd.prog 77 #[.int .i32 x, .int .i32 lo, .int .i32 hi] w fun e w' => e = .returned (.bool false) ∧ w = w' := by
  by_cases h1 : lo ≤ x
  all_goals
    go_enter Tryd.func77, Tryd.ntmps77
    go_wp2
    go_ret
    exact ⟨by simp; try omega, rfl⟩

theorem specIsName (s : ByteArray) (w : World) (hs : s.size ≤ maxLen) :
    Calls Tryd.prog 49 #[.string s] w fun e w' => e = .returned (.bool (nameB s.data.toList)) ∧ w = w' := by
  unfold maxLen at hs
  go_enter Tryd.func49, Tryd.ntmps49
  go_wp2
  go_loop [3] (fun i => ∃ k : Nat, k ≤ s.size ∧ i = .int .i64 k ∧ (s.data.toList.take k).all goodB = true) (fun i => s.size - (intOf i).toNat)
  case atStart => exact ⟨0, Nat.zero_le _, rfl, rfl⟩
  case round =>
    obtain ⟨k, hk, rfl, ha⟩ := hrel
    have HA := Lib.hid ha
    clear ha
    by_cases hlt : k < s.size
    · have HB := Lib.hid (name_bad s k hlt)
      have HG := Lib.hid (good_mk s k hlt)
      go_wp2
      · go_ret
        exact ⟨ret_bool (HB.out (by omega)).symm, rfl⟩
      · go_round
        case rel => exact ⟨k + 1, by omega, by go_num, HG.out (by omega) (by omega) HA.out⟩
        case measure => simp [intOf]; omega
      · go_ret
        exact ⟨ret_bool (HB.out (by omega)).symm, rfl⟩
    · have HE := Lib.hid (name_end s k (by omega) HA.out)
      go_wp2
      all_goals
        go_ret
        exact ⟨ret_bool (by rw [HE.out]; simp; try omega), rfl⟩

theorem implIsName (s : ByteArray) (w : World) (hs : s.size ≤ maxLen) :
    Calls Tryd.prog 52 #[.string s] w fun e w' => e = .returned (.bool (nameB s.data.toList)) ∧ Below w.heap.size w w' := by
  unfold maxLen at hs
  by_cases hl : (1 : Int) ≤ s.size ∧ (s.size : Int) ≤ 10
  · obtain ⟨hl1, hl2⟩ := hl
    go_enter Tryd.func52, Tryd.ntmps52
    go_wp2_with (go_at_call 76; refine (within_int_t _ _ _ _ hl1 hl2).mono ?_; rintro e w' ⟨rfl, rfl⟩)
    go_loopw [4] (fun _ wr => ∃ pos : Nat, wr = w.iter s pos ∧ pos ≤ s.size ∧ (s.data.toList.take pos).all goodB = true) (fun _ wr => s.size - wr.iterPos w.heap.size)
    case atStart => exact ⟨0, rfl, Nat.zero_le _, rfl⟩
    case round =>
      obtain ⟨k, rfl, hk, ha⟩ := hrel
      have HA := Lib.hid ha
      clear ha
      by_cases hlt : k < s.size
      · have HB := Lib.hid (name_bad s k hlt)
        have HG := Lib.hid (good_mk s k hlt)
        by_cases hb : s[k].toNat < 128
        · have hnx : ∀ ty, (Instr.next (.pointer (some ⟨w.heap.size, 0, none⟩)) true ty).run Tryd.prog (w.iter s k) = _ := fun ty => run_next_ascii w s k ty hlt hb
          by_cases hg : (97 : Int) ≤ s[k].toNat ∧ (s[k].toNat : Int) ≤ 122
          · obtain ⟨hg1, hg2⟩ := hg
            go_wp2_with (go_at_call 77; refine (within_rune_t _ _ _ _ hg1 hg2).mono ?_; rintro e w' ⟨rfl, rfl⟩)
            go_roundw
            case rel => exact ⟨k + 1, rfl, by omega, HG.out (by omega) (by omega) HA.out⟩
            case measure => simp; omega
          · go_wp2_with (go_at_call 77; refine (within_rune_f _ _ _ _ (by omega)).mono ?_; rintro e w' ⟨rfl, rfl⟩)
            go_ret
            exact ⟨ret_bool (HB.out (by omega)).symm, (Below.refl _ _).alloc (Nat.le_refl _) _⟩
        · have hnx : ∀ ty, (Instr.next (.pointer (some ⟨w.heap.size, 0, none⟩)) true ty).run Tryd.prog (w.iter s k) = _ := fun ty => run_next_any w s k ty hlt
          have hd := (decode_high s k hlt (by omega)).1
          go_wp2_with (go_at_call 77; refine (within_rune_f _ _ _ _ (by omega)).mono ?_; rintro e w' ⟨rfl, rfl⟩)
          go_ret
          exact ⟨ret_bool (HB.out (by omega)).symm, (Below.refl _ _).alloc (Nat.le_refl _) _⟩
      · have hnx : ∀ ty, (Instr.next (.pointer (some ⟨w.heap.size, 0, none⟩)) true ty).run Tryd.prog (w.iter s k) = _ := fun ty => run_next_end w s k ty hlt
        have HE := Lib.hid (name_end s k (by omega) HA.out)
        go_wp2
        go_ret
        exact ⟨ret_bool (by rw [HE.out]; simp; omega), (Below.refl _ _).alloc (Nat.le_refl _) _⟩
  · go_enter Tryd.func52, Tryd.ntmps52
    go_wp2_with (go_at_call 76; refine (within_int_f _ _ _ _ (by omega)).mono ?_; rintro e w' ⟨rfl, rfl⟩)
    go_ret
    exact ⟨ret_bool (name_long s hl).symm, Below.refl _ _⟩

theorem l01Wave_any (s : ByteArray) (w : World) (hs : s.size ≤ maxLen) :
    Calls Tryd.prog 50 #[.string s] w fun e w' => e = .returned (.bool (waveB s.data.toList)) ∧ w = w' := by
  unfold maxLen at hs
  go_enter Tryd.func50, Tryd.ntmps50
  go_wp2
  go_loop [3] (fun i => ∃ k : Nat, k ≤ s.size ∧ i = .int .i64 k ∧ (s.data.toList.take k).all lvlB = true) (fun i => s.size - (intOf i).toNat)
  case atStart => exact ⟨0, Nat.zero_le _, rfl, rfl⟩
  case round =>
    obtain ⟨k, hk, rfl, ha⟩ := hrel
    have HA := Lib.hid ha
    clear ha
    by_cases hlt : k < s.size
    · have HB := Lib.hid (wave_bad s k hlt)
      have HG := Lib.hid (lvl_mk s k hlt)
      by_cases h0 : (s[k].toNat : Int) = 48
      · have h0b : ((s[k].toNat : Int) != 48) = false := by simp [h0]
        have H0 := Lib.hid h0
        clear h0
        go_wp2
        go_round
        case rel => exact ⟨k + 1, by omega, by go_num, HG.out (Or.inl H0.out) HA.out⟩
        case measure => simp [intOf]; omega
      · have h0b : ((s[k].toNat : Int) != 48) = true := by simp; omega
        by_cases h1 : (s[k].toNat : Int) = 49
        · have h1b : ((s[k].toNat : Int) != 49) = false := by simp [h1]
          have H1 := Lib.hid h1
          clear h1
          go_wp2
          go_round
          case rel => exact ⟨k + 1, by omega, by go_num, HG.out (Or.inr H1.out) HA.out⟩
          case measure => simp [intOf]; omega
        · have h1b : ((s[k].toNat : Int) != 49) = true := by simp; omega
          go_wp2
          go_ret
          exact ⟨ret_bool (HB.out (by omega)).symm, rfl⟩
    · have HE := Lib.hid (wave_end s k (by omega) HA.out)
      go_wp2
      go_ret
      exact ⟨ret_bool (by rw [HE.out]), rfl⟩

theorem implIsWave (s : ByteArray) (w : World) (hs : s.size ≤ maxLen) :
    Calls Tryd.prog 53 #[.string s] w fun e w' => e = .returned (.bool (waveB s.data.toList)) ∧ Below w.heap.size w w' := by
  unfold maxLen at hs
  by_cases hl : (s.size : Int) ≤ 400
  · go_enter Tryd.func53, Tryd.ntmps53
    go_wp2
    go_loopw [4] (fun _ wr => ∃ pos : Nat, wr = w.iter s pos ∧ pos ≤ s.size ∧ (s.data.toList.take pos).all lvlB = true) (fun _ wr => s.size - wr.iterPos w.heap.size)
    case atStart => exact ⟨0, rfl, Nat.zero_le _, rfl⟩
    case round =>
      obtain ⟨k, rfl, hk, ha⟩ := hrel
      have HA := Lib.hid ha
      clear ha
      by_cases hlt : k < s.size
      · have HB := Lib.hid (wave_bad s k hlt)
        have HG := Lib.hid (lvl_mk s k hlt)
        by_cases hb : s[k].toNat < 128
        · have hnx : ∀ ty, (Instr.next (.pointer (some ⟨w.heap.size, 0, none⟩)) true ty).run Tryd.prog (w.iter s k) = _ := fun ty => run_next_ascii w s k ty hlt hb
          by_cases h0 : (s[k].toNat : Int) = 48
          · have h0b : ((s[k].toNat : Int) != 48) = false := by simp [h0]
            have H0 := Lib.hid h0
            clear h0
            go_wp2
            go_roundw
            case rel => exact ⟨k + 1, rfl, by omega, HG.out (Or.inl H0.out) HA.out⟩
            case measure => simp; omega
          · have h0b : ((s[k].toNat : Int) != 48) = true := by simp; omega
            by_cases h1 : (s[k].toNat : Int) = 49
            · have h1b : ((s[k].toNat : Int) != 49) = false := by simp [h1]
              have H1 := Lib.hid h1
              clear h1
              go_wp2
              go_roundw
              case rel => exact ⟨k + 1, rfl, by omega, HG.out (Or.inr H1.out) HA.out⟩
              case measure => simp; omega
            · have h1b : ((s[k].toNat : Int) != 49) = true := by simp; omega
              go_wp2
              go_ret
              exact ⟨ret_bool (HB.out (by omega)).symm, (Below.refl _ _).alloc (Nat.le_refl _) _⟩
        · have hnx : ∀ ty, (Instr.next (.pointer (some ⟨w.heap.size, 0, none⟩)) true ty).run Tryd.prog (w.iter s k) = _ := fun ty => run_next_any w s k ty hlt
          have hd := (decode_high s k hlt (by omega)).1
          have h0b : (((Utf8.decode s k).1 : Int) != 48) = true := by simp; omega
          have h1b : (((Utf8.decode s k).1 : Int) != 49) = true := by simp; omega
          go_wp2
          go_ret
          exact ⟨ret_bool (HB.out (by omega)).symm, (Below.refl _ _).alloc (Nat.le_refl _) _⟩
      · have hnx : ∀ ty, (Instr.next (.pointer (some ⟨w.heap.size, 0, none⟩)) true ty).run Tryd.prog (w.iter s k) = _ := fun ty => run_next_end w s k ty hlt
        have HE := Lib.hid (wave_end s k (by omega) HA.out)
        go_wp2
        go_ret
        exact ⟨ret_bool (by rw [HE.out]; simp; omega), (Below.refl _ _).alloc (Nat.le_refl _) _⟩
  · go_enter Tryd.func53, Tryd.ntmps53
    go_wp2
    go_ret
    exact ⟨ret_bool (wave_long s (by omega)).symm, Below.refl _ _⟩
end Go.Proofs.YtkbnllaobnhfbaaDoor
