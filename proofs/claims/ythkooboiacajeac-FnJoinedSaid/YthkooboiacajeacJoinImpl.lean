/- Levels that two waves make, on the side of the program. -/
import Derived.Test.YthkooboiacajeacNotImpl
import Derived.Test.YthkooboiacajeacJoinSpec
import Derived.Test.YthkooboiacajeacIn64
import Derived.Deep.RegionWith
namespace Go.Proofs.Ythkooboiacajeac
open Go.RowKit

/-- the level of a tick that is on or off -/
def lvOf (b : Bool) : Int := if b then 49 else 48
theorem lvOf_bd (b : Bool) : 0 ≤ lvOf b ∧ lvOf b ≤ 127 := by cases b <;> simp [lvOf]
theorem levelOf_lv (b : Bool) (w : World) :
    Calls Try.prog 18 #[.bool b] w fun e w' => e = .returned (.int .i32 (lvOf b)) ∧ w = w' := levelOf_any b w

theorem isJoined_any (op : Int) (x y : Bool) (w : World) :
    Calls Try.prog 19 #[.int .i64 op, .bool x, .bool y] w fun e w' => e = .returned (.bool (joinZ op x y)) ∧ w = w' := by
  by_cases h0 : op = 0
  · subst h0
    cases x <;> cases y
    all_goals
      go_enter Try.func19, Try.ntmps19
      go_wp2
      go_ret
      exact ⟨rfl, rfl⟩
  · have b0 : (op == 0) = false := by simp [h0]
    by_cases h1 : op = 1
    · subst h1
      cases x <;> cases y
      all_goals
        go_enter Try.func19, Try.ntmps19
        go_wp2
        go_ret
        exact ⟨rfl, rfl⟩
    · have b1 : (op == 1) = false := by simp [h1]
      by_cases h2 : op = 2
      · subst h2
        cases x <;> cases y
        all_goals
          go_enter Try.func19, Try.ntmps19
          go_wp2
          go_ret
          exact ⟨rfl, rfl⟩
      · have b2 : (op == 2) = false := by simp [h2]
        have HZ : Hid (joinZ op x y = (x && !y)) := by simp [joinZ, h0, h1, h2, Hid]
        cases x <;> cases y
        all_goals
          go_enter Try.func19, Try.ntmps19
          go_wp2
          go_ret
          exact ⟨ret_bool (by rw [HZ.out]; rfl), rfl⟩

theorem joinL_cells (op : Int) (a b : ByteArray) (k : Nat) (h : k < a.size) (h2 : k < b.size) : Lib.byteCells (joinL op (a.data.toList.take (k + 1)) (b.data.toList.take (k + 1))) = Lib.byteCells (joinL op (a.data.toList.take k) (b.data.toList.take k)) ++ [.int .u8 (lvOf (joinZ op ((a[k].toNat : Int) == 49) ((b[k].toNat : Int) == 49)))] := by
  rw [joinL_snoc op a b k h h2]
  have e : ((joinB op a[k] b[k]).toNat : Int) = lvOf (joinZ op ((a[k].toNat : Int) == 49) ((b[k].toNat : Int) == 49)) := by
    unfold joinB onB lvOf
    split <;> rfl
  simp [Lib.byteCells, e]

set_option maxHeartbeats 2000000 in
set_option maxRecDepth 100000 in
theorem implJoin_t (op : Int) (a b : ByteArray) (w : World) (h0 : 0 ≤ op) (h3 : op ≤ 3) (hs : a.size ≤ maxLen) (hs' : b.size ≤ maxLen) (hwa : waveB a.data.toList = true) (hwb : waveB b.data.toList = true) (hab : a.size = b.size) :
    Calls Try.prog 8 #[.int .i64 op, .string a, .string b] w fun e w' => e = .returned (.tuple #[.string ⟨(joinL op a.data.toList b.data.toList).toArray⟩, .bool true]) ∧ Below w.heap.size w w' := by
  obtain ⟨_, hsz⟩ := wave_parts a hwa
  have HWA := Lib.hid hwa
  have HWB := Lib.hid hwb
  have HAB := Lib.hid hab
  have hle : a.size ≤ b.size := by omega
  have hge : b.size ≤ a.size := by omega
  have hne : ((a.size : Int) != (b.size : Int)) = false := by simp [hab]
  clear hwa hwb hab
  go_enter Try.func8, Try.ntmps8
  go_wp2_with fail
  refine (within_i64_t _ _ _ _ h0 h3).mono ?_; rintro e w' ⟨rfl, rfl⟩
  go_wp2_with fail
  refine ((implIsWave a _ hs).mono (R' := fun e w' => e = .returned (.bool true) ∧ Below w.heap.size w w') (fun e w' h => by rw [HWA.out] at h; exact h)).mono ?_
  rintro e w0 ⟨rfl, hb0⟩
  go_wp2_with fail
  refine ((implIsWave b _ hs').mono (R' := fun e w' => e = .returned (.bool true) ∧ Below w0.heap.size w0 w') (fun e w' h => by rw [HWB.out] at h; exact h)).mono ?_
  rintro e w1 ⟨rfl, hb1⟩
  go_wp2
  go_loopw [9, 32] (fun _ i wr => ∃ k : Nat, k ≤ a.size ∧ i = .int .i64 k ∧ Lib.IsBuilderF TB TU w1.heap.size w1.heap.size (Lib.byteCells (joinL op (a.data.toList.take k) (b.data.toList.take k))) wr ∧ Below w1.heap.size w1 wr) (fun _ i _ => a.size - (intOf i).toNat)
  case atStart => exact ⟨0, Nat.zero_le _, rfl, Lib.IsBuilderF.of (Lib.fresh_isBuilder TB TU w1), (Below.refl _ w1).alloc (Nat.le_refl _) _⟩
  case round =>
    obtain ⟨k, hk, rfl, hI, hbw⟩ := hrel
    have hsz2 := hbw.size
    by_cases hlt : k < a.size
    · have hlt2 : k < b.size := by omega
      have HL := Lib.hid (joinL_len op a b k hk (by omega))
      have HS := Lib.hid (joinL_cells op a b k hlt hlt2)
      have hId : Lib.IsBuilderF TB TU w1.heap.size w1.heap.size (Lib.byteCells (joinL op (a.data.toList.take k) (b.data.toList.take k))) wr.drew := hI
      have hszd : w1.heap.size ≤ wr.drew.heap.size := hsz2
      go_wp2
      go_region_with (first | (go_at_call 19; refine (isJoined_any _ _ _ _).mono ?_; rintro e w' ⟨rfl, rfl⟩) | (go_at_call 18; refine (levelOf_lv _ _).mono ?_; rintro e w' ⟨rfl, rfl⟩) | (go_at_call 17; refine (writeRune_low w1.heap.size w1.heap.size _ _ _ (lvOf_bd _).1 (lvOf_bd _).2 hId (by rw [Lib.byteCells_length, HL.out]; omega) hszd).mono ?_; rintro e W1 ⟨rfl, h1, b1, k1⟩))
      all_goals
        go_wp2
        go_roundw
        case rel => exact ⟨k + 1, by omega, by go_num, by rw [HS.out]; exact Or.inr h1, hbw.drew.trans b1⟩
        case measure => simp [intOf]; omega
    · obtain rfl : k = a.size := by omega
      rw [take_all a a.size (Nat.le_refl _), take_all b a.size hge] at hI
      go_wp2_with fail
      refine (Try.Builder_String_any_k w1.heap.size w1.heap.size _ _ hI (by omega)).mono ?_
      rintro e w' ⟨rfl, _, hb2, _⟩
      go_wp2
      go_ret2
      exact ⟨rfl, (hb0.trans (hb1.mono hb0.size)).trans ((hbw.trans hb2).mono (Nat.le_trans hb0.size hb1.size))⟩
theorem implJoin_f1 (op : Int) (a b : ByteArray) (w : World) (h : op < 0 ∨ 3 < op) :
    Calls Try.prog 8 #[.int .i64 op, .string a, .string b] w fun e w' => e = .returned (.tuple #[.string ⟨#[]⟩, .bool false]) ∧ Below w.heap.size w w' := by
  go_enter Try.func8, Try.ntmps8
  go_wp2_with fail
  refine (within_i64_f _ _ _ _ h).mono ?_; rintro e w' ⟨rfl, rfl⟩
  go_wp2
  go_ret2
  exact ⟨rfl, Below.refl _ _⟩
theorem implJoin_f2 (op : Int) (a b : ByteArray) (w : World) (h0 : 0 ≤ op) (h3 : op ≤ 3) (hs : a.size ≤ maxLen) (hwa : waveB a.data.toList = false) :
    Calls Try.prog 8 #[.int .i64 op, .string a, .string b] w fun e w' => e = .returned (.tuple #[.string ⟨#[]⟩, .bool false]) ∧ Below w.heap.size w w' := by
  have HWA := Lib.hid hwa
  clear hwa
  go_enter Try.func8, Try.ntmps8
  go_wp2_with fail
  refine (within_i64_t _ _ _ _ h0 h3).mono ?_; rintro e w' ⟨rfl, rfl⟩
  go_wp2_with fail
  refine ((implIsWave a _ hs).mono (R' := fun e w' => e = .returned (.bool false) ∧ Below w.heap.size w w') (fun e w' h => by rw [HWA.out] at h; exact h)).mono ?_
  rintro e w0 ⟨rfl, hb0⟩
  go_wp2
  go_ret2
  exact ⟨rfl, hb0⟩
theorem implJoin_f3 (op : Int) (a b : ByteArray) (w : World) (h0 : 0 ≤ op) (h3 : op ≤ 3) (hs : a.size ≤ maxLen) (hs' : b.size ≤ maxLen) (hwa : waveB a.data.toList = true) (hwb : waveB b.data.toList = false) :
    Calls Try.prog 8 #[.int .i64 op, .string a, .string b] w fun e w' => e = .returned (.tuple #[.string ⟨#[]⟩, .bool false]) ∧ Below w.heap.size w w' := by
  have HWA := Lib.hid hwa
  have HWB := Lib.hid hwb
  clear hwa hwb
  go_enter Try.func8, Try.ntmps8
  go_wp2_with fail
  refine (within_i64_t _ _ _ _ h0 h3).mono ?_; rintro e w' ⟨rfl, rfl⟩
  go_wp2_with fail
  refine ((implIsWave a _ hs).mono (R' := fun e w' => e = .returned (.bool true) ∧ Below w.heap.size w w') (fun e w' h => by rw [HWA.out] at h; exact h)).mono ?_
  rintro e w0 ⟨rfl, hb0⟩
  go_wp2_with fail
  refine ((implIsWave b _ hs').mono (R' := fun e w' => e = .returned (.bool false) ∧ Below w0.heap.size w0 w') (fun e w' h => by rw [HWB.out] at h; exact h)).mono ?_
  rintro e w1 ⟨rfl, hb1⟩
  go_wp2
  go_ret2
  exact ⟨rfl, hb0.trans (hb1.mono hb0.size)⟩
theorem implJoin_f4 (op : Int) (a b : ByteArray) (w : World) (h0 : 0 ≤ op) (h3 : op ≤ 3) (hs : a.size ≤ maxLen) (hs' : b.size ≤ maxLen) (hwa : waveB a.data.toList = true) (hwb : waveB b.data.toList = true) (hab : a.size ≠ b.size) :
    Calls Try.prog 8 #[.int .i64 op, .string a, .string b] w fun e w' => e = .returned (.tuple #[.string ⟨#[]⟩, .bool false]) ∧ Below w.heap.size w w' := by
  have HWA := Lib.hid hwa
  have HWB := Lib.hid hwb
  have hne : ((a.size : Int) != (b.size : Int)) = true := by simp; omega
  clear hwa hwb
  go_enter Try.func8, Try.ntmps8
  go_wp2_with fail
  refine (within_i64_t _ _ _ _ h0 h3).mono ?_; rintro e w' ⟨rfl, rfl⟩
  go_wp2_with fail
  refine ((implIsWave a _ hs).mono (R' := fun e w' => e = .returned (.bool true) ∧ Below w.heap.size w w') (fun e w' h => by rw [HWA.out] at h; exact h)).mono ?_
  rintro e w0 ⟨rfl, hb0⟩
  go_wp2_with fail
  refine ((implIsWave b _ hs').mono (R' := fun e w' => e = .returned (.bool true) ∧ Below w0.heap.size w0 w') (fun e w' h => by rw [HWB.out] at h; exact h)).mono ?_
  rintro e w1 ⟨rfl, hb1⟩
  go_wp2
  go_ret2
  exact ⟨rfl, hb0.trans (hb1.mono hb0.size)⟩
end Go.Proofs.Ythkooboiacajeac
