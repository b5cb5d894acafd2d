/- The other levels, on the side of the program: a Builder in a range over a text. -/
import Derived.Test.YtkipgeecibimoaaBuilder
import Derived.Test.YtkipgeecibimoaaNotSpec
import Derived.Test.YtkipgeecibimoaaWaveStr
import Derived.WalkSmall
namespace Go.Proofs.Ytkipgeecibimoaa
open Go.RowKit

theorem levelOf_anyN (b : Bool) (w : World) :
    Calls Try.prog 78 #[.bool b] w fun e w' => e = .returned (.int .i32 (if b then 49 else 48)) ∧ w = w' := by
  cases b
  all_goals
    go_enter Try.func78, Try.ntmps78
    go_wp2
    go_ret
    exact ⟨rfl, rfl⟩

theorem notL_48 (s : ByteArray) (k : Nat) (h : k < s.size) (hl : (s[k].toNat : Int) = 48) : Lib.byteCells (notL (s.data.toList.take (k + 1))) = Lib.byteCells (notL (s.data.toList.take k)) ++ [.int .u8 49] := by
  rw [notL_snoc s k h]
  have e : (97 - s[k] : UInt8) = 49 := by
    have : s[k] = 48 := by apply UInt8.toNat.inj; simp; omega
    rw [this]; rfl
  simp [Lib.byteCells, e]
theorem notL_49 (s : ByteArray) (k : Nat) (h : k < s.size) (hl : (s[k].toNat : Int) = 49) : Lib.byteCells (notL (s.data.toList.take (k + 1))) = Lib.byteCells (notL (s.data.toList.take k)) ++ [.int .u8 48] := by
  rw [notL_snoc s k h]
  have e : (97 - s[k] : UInt8) = 48 := by
    have : s[k] = 49 := by apply UInt8.toNat.inj; simp; omega
    rw [this]; rfl
  simp [Lib.byteCells, e]
theorem lvl_atN (s : ByteArray) (h : s.data.toList.all lvlB = true) (k : Nat) (hk : k < s.size) : (s[k].toNat : Int) = 48 ∨ (s[k].toNat : Int) = 49 := by
  have := List.all_eq_true.1 h s[k] (by simp [ByteArray.getElem_eq_getElem_data])
  simpa [lvlB] using this
theorem wave_parts (s : ByteArray) (h : waveB s.data.toList = true) : s.data.toList.all lvlB = true ∧ s.size ≤ 400 := by
  unfold waveB at h
  simp only [Bool.and_eq_true, decide_eq_true_eq, size_toList] at h
  exact ⟨h.1, by omega⟩

set_option maxHeartbeats 2000000 in
set_option maxRecDepth 100000 in
theorem implNot_t (s : ByteArray) (w : World) (hs : s.size ≤ maxLen) (hwv : waveB s.data.toList = true) :
    Calls Try.prog 28 #[.string s] w fun e w' => e = .returned (.tuple #[.string ⟨(notL s.data.toList).toArray⟩, .bool true]) ∧ Below w.heap.size w w' := by
  obtain ⟨hall, hsz⟩ := wave_parts s hwv
  have HALL := Lib.hid hall
  have HWV := Lib.hid hwv
  clear hwv hall
  go_enter Try.func28, Try.ntmps28
  go_wp2_with fail
  refine ((implIsWave s _ hs).mono (R' := fun e w' => e = .returned (.bool true) ∧ Below w.heap.size w w') (fun e w' h => by rw [HWV.out] at h; exact h)).mono ?_
  rintro e w1 ⟨rfl, hb1⟩
  go_wp2
  go_loopw [6] (fun _ wr => ∃ k : Nat, k ≤ s.size ∧ Lib.IsBuilderF TB TU w1.heap.size w1.heap.size (Lib.byteCells (notL (s.data.toList.take k))) wr ∧ wr.heap[w1.heap.size + 1]? = some (.stringIter s k) ∧ Below w1.heap.size w1 wr) (fun _ wr => s.size - wr.iterPos (w1.heap.size + 1))
  case atStart =>
    refine ⟨0, Nat.zero_le _, (Lib.IsBuilderF.of (Lib.fresh_isBuilder TB TU w1)).alloc _, ?_, ((Below.refl _ w1).alloc (Nat.le_refl _) _).alloc (by simp) _⟩
    have := World.iter_heap (w1.alloc (.cells #[.pointer none, .slice none 0 0] TB)) s 0
    simpa using this
  case round =>
    obtain ⟨k, hk, hI, hit, hbw⟩ := hrel
    have hsz2 : w1.heap.size + 1 < wr.heap.size := (Array.getElem?_eq_some_iff.1 hit).1
    by_cases hlt : k < s.size
    · have hlv := lvl_atN s HALL.out k hlt
      have ha : s[k].toNat < 128 := by omega
      have hnx : ∀ ty, (Instr.next (.pointer (some ⟨w1.heap.size + 1, 0, none⟩)) true ty).run Try.prog wr = _ := fun ty => Lib.run_next_ascii_at wr (w1.heap.size + 1) s k ty hit hlt ha
      have hI2 := hI.iterAt hit (k + 1)
      have hit2 := Lib.iterAt_heap wr (w1.heap.size + 1) s k (k + 1) hit
      have hbw2 := Lib.below_iterAt hbw (k := w1.heap.size + 1) (by omega) s (k + 1)
      have hsz3 : w1.heap.size ≤ (wr.iterAt (w1.heap.size + 1) s (k + 1)).heap.size := by rw [Lib.iterAt_size]; omega
      have hnl := notL_len s k hk
      by_cases h48 : (s[k].toNat : Int) = 48
      · have HS := Lib.hid (notL_48 s k hlt h48)
        have hb : ((s[k].toNat : Int) == 48) = true := by simp [h48]
        clear h48 hlv
        go_wp2_with fail
        refine (levelOf_anyN true _).mono ?_; rintro e w' ⟨rfl, rfl⟩
        go_wp2_with fail
        refine (writeRune_low w1.heap.size w1.heap.size _ 49 _ (by omega) (by omega) hI2 (by rw [Lib.byteCells_length, hnl]; omega) hsz3).mono ?_
        rintro e W1 ⟨rfl, h1, b1, k1⟩
        go_wp2
        go_roundw
        case rel => exact ⟨k + 1, by omega, by rw [HS.out]; exact Or.inr h1, k1.iter hit2 (by omega), hbw2.trans b1⟩
        case measure => rw [iterPos_of (k1.iter hit2 (by omega)), iterPos_of hit]; omega
      · have HS := Lib.hid (notL_49 s k hlt (by omega))
        have hb : ((s[k].toNat : Int) == 48) = false := by simp [h48]
        clear h48 hlv
        go_wp2_with fail
        refine (levelOf_anyN false _).mono ?_; rintro e w' ⟨rfl, rfl⟩
        go_wp2_with fail
        refine (writeRune_low w1.heap.size w1.heap.size _ 48 _ (by omega) (by omega) hI2 (by rw [Lib.byteCells_length, hnl]; omega) hsz3).mono ?_
        rintro e W1 ⟨rfl, h1, b1, k1⟩
        go_wp2
        go_roundw
        case rel => exact ⟨k + 1, by omega, by rw [HS.out]; exact Or.inr h1, k1.iter hit2 (by omega), hbw2.trans b1⟩
        case measure => rw [iterPos_of (k1.iter hit2 (by omega)), iterPos_of hit]; omega
    · have hnx : ∀ ty, (Instr.next (.pointer (some ⟨w1.heap.size + 1, 0, none⟩)) true ty).run Try.prog wr = _ := fun ty => Lib.run_next_end_at wr (w1.heap.size + 1) s k ty hit hlt
      obtain rfl : k = s.size := by omega
      rw [take_all s s.size (Nat.le_refl _)] at hI
      go_wp2_with fail
      refine (Try.Builder_String_any_k w1.heap.size w1.heap.size _ _ hI (by omega)).mono ?_
      rintro e w' ⟨rfl, _, hb2, _⟩
      go_wp2
      go_ret2
      exact ⟨rfl, hb1.trans ((hbw.trans hb2).mono hb1.size)⟩
theorem implNot_f (s : ByteArray) (w : World) (hs : s.size ≤ maxLen) (hwv : waveB s.data.toList = false) :
    Calls Try.prog 28 #[.string s] w fun e w' => e = .returned (.tuple #[.string ⟨#[]⟩, .bool false]) ∧ Below w.heap.size w w' := by
  have HWV := Lib.hid hwv
  clear hwv
  go_enter Try.func28, Try.ntmps28
  go_wp2_with fail
  refine ((implIsWave s _ hs).mono (R' := fun e w' => e = .returned (.bool false) ∧ Below w.heap.size w w') (fun e w' h => by rw [HWV.out] at h; exact h)).mono ?_
  rintro e w1 ⟨rfl, hb1⟩
  go_wp2
  go_ret2
  exact ⟨rfl, hb1⟩
end Go.Proofs.Ytkipgeecibimoaa
