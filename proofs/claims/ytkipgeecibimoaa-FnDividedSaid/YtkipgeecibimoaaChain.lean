/- Dividers one after another, on both sides. -/
import Derived.Test.YtkipgeecibimoaaDvLaw
import Derived.Test.YtkipgeecibimoaaDvAt
import Derived.Test.YtkipgeecibimoaaRecsD
namespace Go.Proofs.Ytkipgeecibimoaa
open Go.RowKit
set_option linter.unusedVariables false

/-- the wave behind so many dividers -/
def chW (F : List Int) (s : ByteArray) : Nat → ByteArray
  | 0 => s
  | k + 1 => ⟨(dvL (F.getD (k * 2) 0).toNat (F.getD (k * 2 + 1) 0).toNat (chW F s k).data.toList (chW F s k).size).toArray⟩
def dvK (F : List Int) (k : Nat) : Bool := dvdB (F.getD (k * 2) 0) (F.getD (k * 2 + 1) 0)
def chRes (F : List Int) (s : ByteArray) (n : Nat) : ByteArray × Bool := if (List.range n).all (dvK F) = true then (chW F s n, true) else (⟨#[]⟩, false)
theorem chRes_bad {F : List Int} {s : ByteArray} {k n : Nat} (hk : k < n) (h : dvK F k = false) : chRes F s n = (⟨#[]⟩, false) := by
  unfold chRes
  rw [if_neg]
  intro h2
  have := List.all_eq_true.1 h2 k (List.mem_range.2 hk)
  rw [h] at this; cases this
theorem chRes_ok {F : List Int} {s : ByteArray} {n : Nat} (h : (List.range n).all (dvK F) = true) : chRes F s n = (chW F s n, true) := by
  unfold chRes; rw [if_pos h]
theorem rngC_step (f : Nat → Bool) (k : Nat) (h0 : (List.range k).all f = true) (h : f k = true) : (List.range (k + 1)).all f = true := by
  rw [List.range_succ, List.all_append, h0]; simp [h]
theorem dvF_lev (m gh : Nat) (l : List UInt8) (i : Nat) : (dvF m gh l i).1 = 48 ∨ (dvF m gh l i).1 = 49 := by
  induction i with
  | zero => exact .inl rfl
  | succ i ih =>
    unfold dvF
    split
    · dsimp only
      split
      · exact .inr rfl
      · exact .inl rfl
    · exact ih
theorem dvL_wave (m gh : Nat) (l : List UInt8) (n : Nat) (hn : n ≤ 400) : waveB (dvL m gh l n) = true := by
  have hl := dvL_len m gh l n
  unfold waveB
  rw [Bool.and_eq_true]
  refine ⟨?_, by simp [hl]; omega⟩
  rw [List.all_eq_true]
  intro x hx
  unfold dvL at hx
  obtain ⟨j, -, rfl⟩ := List.mem_map.1 hx
  rcases dvF_lev m gh l (j + 1) with h | h <;> (rw [h]; decide)
theorem chW_wave (F : List Int) (s : ByteArray) (h : waveB s.data.toList = true) (k : Nat) : waveB (chW F s k).data.toList = true ∧ (chW F s k).size ≤ 400 := by
  induction k with
  | zero => exact ⟨h, (wave_all s h).2⟩
  | succ k ih =>
    have h1 : waveB (chW F s (k + 1)).data.toList = true := by
      show waveB (dvL _ _ _ _).toArray.toList = true
      exact dvL_wave _ _ _ _ ih.2
    exact ⟨h1, (wave_all _ h1).2⟩

set_option maxHeartbeats 2000000 in
set_option maxRecDepth 100000 in
theorem implChain (B : Nat) (a : Option Addr) (n cap : Nat) (F : List Int) (s : ByteArray) (w : World) (hr : Recs w B (.slice a n cap) n F) (hn : n ≤ 8) (hs : s.size ≤ maxLen) (hwv : waveB s.data.toList = true) :
    Calls Try.prog 59 #[.slice a n cap, .string s] w fun e w' => e = .returned (.tuple #[.string (chRes F s n).1, .bool (chRes F s n).2]) ∧ Below w.heap.size w w' := by
  have HWV := Lib.hid hwv
  have HR := Lib.hid hr
  clear hwv hr
  go_enter Try.func59, Try.ntmps59
  go_wp2_with fail
  refine ((implIsWave s _ hs).mono (R' := fun e w' => e = .returned (.bool true) ∧ Below w.heap.size w w') (fun e w' h => by rw [HWV.out] at h; exact h)).mono ?_
  rintro e w1 ⟨rfl, hb1⟩
  have HB1 := Lib.hid hb1
  clear hb1
  go_wp2
  go_loopw [1, 20] (fun v i wr => ∃ k : Nat, k ≤ n ∧ i = .int .i64 (k : Int) ∧ v = .string (chW F s k) ∧ (List.range k).all (dvK F) = true ∧ Below w.heap.size w wr) (fun _ i _ => n - (intOf i).toNat)
  case atStart => exact ⟨0, Nat.zero_le _, rfl, rfl, rfl, HB1.out⟩
  case round =>
    obtain ⟨k, hk, rfl, rfl, h0, hB⟩ := hrel
    have H0 := Lib.hid h0
    have hbs := hB.size
    clear h0
    by_cases hlt : k < n
    · obtain ⟨g, x, y, rfl, -, hgl, ⟨e0, e1⟩, x0, x1⟩ := (HR.out.keep hB (Nat.le_refl _)).at k hlt
      obtain ⟨sk, hsk⟩ : ∃ sk, chW F s k = sk := ⟨_, rfl⟩
      obtain ⟨hwk1, hwk⟩ := chW_wave F s HWV.out k
      rw [hsk] at hwk hwk1
      have HBA := Lib.hid (hB.alloc hbs (.cells #[.int .i64 x, .int .i64 y] TDV))
      cases hd : dvdB x y with
      | true =>
        have hd2 : 1 ≤ x ∧ x ≤ 64 ∧ 0 ≤ y ∧ y ≤ x := by unfold dvdB at hd; simpa using hd
        obtain ⟨m, rfl⟩ := Int.eq_ofNat_of_zero_le (show 0 ≤ x by omega)
        obtain ⟨gh, rfl⟩ := Int.eq_ofNat_of_zero_le hd2.2.2.1
        have HE := Lib.hid (rngC_step (dvK F) k H0.out (by unfold dvK; rw [e0, e1]; exact hd))
        have HW := Lib.hid (show chW F s (k + 1) = ⟨(dvL m gh sk.data.toList sk.size).toArray⟩ by
          rw [chW, hsk, e0, e1]; simp)
        have HV := Lib.hid hd2
        have HWK := Lib.hid hwk1
        clear hd hd2 e0 e1 hwk1
        rw [hsk]
        clear hsk
        go_wp2_with fail
        refine (implDv_t m gh sk _ (by have := HV.out; omega) (by have := HV.out; omega) (by have := HV.out; omega) (by unfold maxLen; omega) HWK.out).mono ?_
        rintro e w2 ⟨rfl, hb2⟩
        have HB2 := Lib.hid (HBA.out.trans (hb2.mono (by simp; omega)))
        clear hb2
        go_wp2
        go_roundw
        case rel => exact ⟨k + 1, by omega, by go_num, by first | (rw [HW.out]; done) | (rw [HW.out]; simp), HE.out, HB2.out⟩
        case measure => simp [intOf]; omega
      | false =>
        have HE := Lib.hid (chRes_bad (s := s) hlt (show dvK F k = false by unfold dvK; rw [e0, e1]; exact hd))
        have HD := Lib.hid hd
        clear hd e0 e1
        rw [hsk]
        clear hsk
        go_wp2_with fail
        refine (implDv_f1 x y sk _ HD.out).mono ?_
        rintro e w2 ⟨rfl, hb2⟩
        have HB2 := Lib.hid (HBA.out.trans (hb2.mono (by simp; omega)))
        clear hb2
        go_wp2
        go_ret2
        exact ⟨by rw [HE.out]; rfl, HB2.out⟩
    · have hke : k = n := by omega
      have HE := Lib.hid (chRes_ok (s := s) (by have h := H0.out; rw [hke] at h; exact h))
      have HX := Lib.hid (show chW F s k = chW F s n by rw [hke])
      clear hke
      go_wp2
      go_ret2
      exact ⟨by rw [HE.out, HX.out]; rfl, hB⟩

theorem implChain_f1 (a : Option Addr) (n cap : Nat) (s : ByteArray) (w : World) (hn : 8 < n) (hn2 : n ≤ 1048576) :
    Calls Try.prog 59 #[.slice a n cap, .string s] w fun e w' => e = .returned (.tuple #[.string ⟨#[]⟩, .bool false]) ∧ Below w.heap.size w w' := by
  go_enter Try.func59, Try.ntmps59
  go_wp2
  go_ret2
  exact ⟨rfl, Below.refl _ _⟩
theorem implChain_f2 (a : Option Addr) (n cap : Nat) (s : ByteArray) (w : World) (hn : n ≤ 8) (hs : s.size ≤ maxLen) (hwv : waveB s.data.toList = false) :
    Calls Try.prog 59 #[.slice a n cap, .string s] w fun e w' => e = .returned (.tuple #[.string ⟨#[]⟩, .bool false]) ∧ Below w.heap.size w w' := by
  have HWV := Lib.hid hwv
  clear hwv
  go_enter Try.func59, Try.ntmps59
  go_wp2_with fail
  refine ((implIsWave s _ hs).mono (R' := fun e w' => e = .returned (.bool false) ∧ Below w.heap.size w w') (fun e w' h => by rw [HWV.out] at h; exact h)).mono ?_
  rintro e w1 ⟨rfl, hb1⟩
  go_wp2
  go_ret2
  exact ⟨rfl, hb1⟩
end Go.Proofs.Ytkipgeecibimoaa
