/- How uneven a pattern is, on both sides. -/
import Derived.Test.YtkipgeecibimoaaOnesS
import Derived.Test.YtkipgeecibimoaaIn64
import Derived.Test.YtkipgeecibimoaaShelf
namespace Go.Proofs.Ytkipgeecibimoaa
open Go.RowKit
set_option linter.unusedVariables false

/-- the marks of the part of so many slots from a slot on -/
def cU (s : ByteArray) (z i : Nat) : Nat := onesC ((s ++ s).extract i (i + z))
def mnF (c : Nat → Nat) (a : Nat) : Nat → Nat | 0 => a | k + 1 => min (mnF c a k) (c k)
def mxF (c : Nat → Nat) : Nat → Nat | 0 => 0 | k + 1 => max (mxF c k) (c k)
def unF (C : Nat → Nat → Nat) (f : Nat → Nat) (n : Nat) : Nat → Nat | 0 => 0 | z + 1 => max (unF C f n z) (mxF (C z) n - mnF (C z) (f z) n)
theorem mn_same (c : Nat → Nat) (a b : Nat) (k : Nat) (ha : ∀ i, i < k + 1 → c i ≤ a) (hb : ∀ i, i < k + 1 → c i ≤ b) : mnF c a (k + 1) = mnF c b (k + 1) := by
  induction k with
  | zero => have h1 := ha 0 (by omega); have h2 := hb 0 (by omega); simp only [mnF]; omega
  | succ k ih =>
    have := ih (fun i h => ha i (by omega)) (fun i h => hb i (by omega))
    show min (mnF c a (k + 1)) _ = min (mnF c b (k + 1)) _
    rw [this]
theorem mn_le_mx (c : Nat → Nat) (a k : Nat) : mnF c a (k + 1) ≤ mxF c (k + 1) := by
  induction k with
  | zero => simp only [mnF, mxF]; omega
  | succ k ih => rw [mnF, mxF]; omega
theorem un_same (C : Nat → Nat → Nat) (f g : Nat → Nat) (n z : Nat) (hn : 0 < n) (hf : ∀ j, j < z → ∀ i, i < n → C j i ≤ f j) (hg : ∀ j, j < z → ∀ i, i < n → C j i ≤ g j) : unF C f n z = unF C g n z := by
  obtain ⟨m, rfl⟩ : ∃ m, n = m + 1 := ⟨n - 1, by omega⟩
  induction z with
  | zero => rfl
  | succ z ih =>
    rw [unF, unF, ih (fun j h => hf j (by omega)) (fun j h => hg j (by omega)), mn_same (C z) (f z) (g z) m (hf z (by omega)) (hg z (by omega))]
theorem mx_le (c : Nat → Nat) (b k : Nat) (h : ∀ i, i < k → c i ≤ b) : mxF c k ≤ b := by
  induction k with
  | zero => simp [mxF]
  | succ k ih => have := ih (fun i hi => h i (by omega)); have := h k (by omega); rw [mxF]; omega
theorem mn_le (c : Nat → Nat) (a k : Nat) : mnF c a k ≤ a := by
  induction k with
  | zero => exact Nat.le_refl _
  | succ k ih => rw [mnF]; omega
theorem un_le (C : Nat → Nat → Nat) (f : Nat → Nat) (n z b : Nat) (h : ∀ j, j < z → ∀ i, i < n → C j i ≤ b) : unF C f n z ≤ b := by
  induction z with
  | zero => simp [unF]
  | succ z ih => have := ih (fun j hj => h j (by omega)); have := mx_le (C z) b n (h z (by omega)); rw [unF]; omega
theorem un_one (C : Nat → Nat → Nat) (f : Nat → Nat) (n : Nat) (h : ∀ i, i < n → C 0 i ≤ 0) : unF C f n 1 = 0 := by
  have := mx_le (C 0) 0 n h
  rw [unF, unF]; omega

theorem sub_size (s : ByteArray) (z i : Nat) (hz : z ≤ s.size) (hi : i < s.size) : ((s ++ s).extract i (i + z)).size = z := by
  rw [ByteArray.size_extract, ByteArray.size_append]; omega
theorem sub_wave (s : ByteArray) (z i : Nat) (hz : z ≤ s.size) (hi : i < s.size) (h : waveB s.data.toList = true) : waveB ((s ++ s).extract i (i + z)).data.toList = true := by
  have hs := wave_size s h
  have hall : s.data.toList.all lvlB = true := by
    unfold waveB at h
    simp only [Bool.and_eq_true] at h
    exact h.1
  have hsz := sub_size s z i hz hi
  unfold waveB
  rw [size_toList, hsz, Bool.and_eq_true, decide_eq_true_eq]
  refine ⟨?_, by omega⟩
  rw [List.all_eq_true] at hall ⊢
  intro x hx
  apply hall
  have h1 : x ∈ (s ++ s).data.toList := by
    rw [ByteArray.data_extract, Array.toList_extract] at hx
    exact List.mem_of_mem_drop (List.mem_of_mem_take (by simpa [List.extract] using hx))
  rw [ByteArray.data_append, Array.toList_append, List.mem_append] at h1
  exact h1.elim id id
theorem cU_le (s : ByteArray) (z i : Nat) (hz : z ≤ s.size) (hi : i < s.size) : cU s z i ≤ z := by
  have := cnt_le ((s ++ s).extract i (i + z))
  rw [sub_size s z i hz hi] at this
  exact this

theorem l00Min_nat (a b : Nat) (w : World) :
    Calls Try.prog 155 #[.int .i64 (a : Int), .int .i64 (b : Int)] w fun e w' => e = .returned (.int .i64 ((min a b : Nat) : Int)) ∧ w = w' := by
  by_cases h : (a : Int) < b
  all_goals
    go_enter Try.func155, Try.ntmps155
    go_wp2
    go_ret
    exact ⟨ret_int (by omega), rfl⟩
theorem l00Max_nat (a b : Nat) (w : World) :
    Calls Try.prog 142 #[.int .i64 (a : Int), .int .i64 (b : Int)] w fun e w' => e = .returned (.int .i64 ((max a b : Nat) : Int)) ∧ w = w' := by
  by_cases h : (a : Int) > b
  all_goals
    go_enter Try.func142, Try.ntmps142
    go_wp2
    go_ret
    exact ⟨ret_int (by omega), rfl⟩

theorem within_intU_t (x lo hi : Int) (w : World) (h1 : lo ≤ x) (h2 : x ≤ hi) :
    Calls Try.prog 143 #[.int .i64 x, .int .i64 lo, .int .i64 hi] w fun e w' => e = .returned (.bool true) ∧ w = w' := by
  go_enter Try.func143, Try.ntmps143
  go_wp2
  go_ret
  exact ⟨rfl, rfl⟩
theorem within_intU_f (x lo hi : Int) (w : World) (h : x < lo ∨ hi < x) :
    Calls Try.prog 143 #[.int .i64 x, .int .i64 lo, .int .i64 hi] w fun e w' => e = .returned (.bool false) ∧ w = w' := by
  by_cases h1 : lo ≤ x
  all_goals
    go_enter Try.func143, Try.ntmps143
    go_wp2
    go_ret
    exact ⟨by simp; try omega, rfl⟩

def patB (s : ByteArray) : Bool := waveB s.data.toList && decide (1 ≤ s.size ∧ s.size ≤ 64)
theorem patB_t {s : ByteArray} (h : patB s = true) : waveB s.data.toList = true ∧ 1 ≤ s.size ∧ s.size ≤ 64 := by
  unfold patB at h; rw [Bool.and_eq_true, decide_eq_true_eq] at h; exact ⟨h.1, h.2.1, h.2.2⟩
theorem l01Wave_bb (s : ByteArray) (b : Bool) (w : World) (hs : s.size ≤ maxLen) (h : waveB s.data.toList = b) :
    Calls Try.prog 124 #[.string s] w fun e w' => e = .returned (.bool b) ∧ w = w' := by
  rw [← h]; exact l01Wave_any s w hs
theorem implIsWave_bb (s : ByteArray) (b : Bool) (w : World) (hs : s.size ≤ maxLen) (h : waveB s.data.toList = b) :
    Calls Try.prog 76 #[.string s] w fun e w' => e = .returned (.bool b) ∧ Below w.heap.size w w' := by
  rw [← h]; exact implIsWave s w hs

theorem implPat (s : ByteArray) (w : World) (hs : s.size ≤ maxLen) :
    Calls Try.prog 84 #[.string s] w fun e w' => e = .returned (.bool (patB s)) ∧ Below w.heap.size w w' := by
  unfold maxLen at hs
  cases hw : waveB s.data.toList with
  | false =>
    rw [show patB s = false from by unfold patB; rw [hw]; rfl]
    have HW := Lib.hid hw
    clear hw
    go_enter Try.func84, Try.ntmps84
    go_wp2_with fail
    refine (implIsWave_bb s false _ (by unfold maxLen; omega) HW.out).mono ?_; rintro e w1 ⟨rfl, hb1⟩
    go_wp2
    go_ret
    exact ⟨rfl, hb1⟩
  | true =>
    have HW := Lib.hid hw
    have hp : patB s = decide (1 ≤ s.size ∧ s.size ≤ 64) := by unfold patB; rw [hw, Bool.true_and]
    rw [hp]
    clear hw hp
    by_cases k : 1 ≤ s.size ∧ s.size ≤ 64
    · rw [decide_eq_true k]
      go_enter Try.func84, Try.ntmps84
      go_wp2_with fail
      refine (implIsWave_bb s true _ (by unfold maxLen; omega) HW.out).mono ?_; rintro e w1 ⟨rfl, hb1⟩
      go_wp2_with fail
      refine (within_intU_t _ _ _ _ (by omega) (by omega)).mono ?_; rintro e w' ⟨rfl, rfl⟩
      go_wp2
      go_ret
      exact ⟨rfl, hb1⟩
    · rw [decide_eq_false k]
      go_enter Try.func84, Try.ntmps84
      go_wp2_with fail
      refine (implIsWave_bb s true _ (by unfold maxLen; omega) HW.out).mono ?_; rintro e w1 ⟨rfl, hb1⟩
      go_wp2_with fail
      refine (within_intU_f _ _ _ _ (by omega)).mono ?_; rintro e w' ⟨rfl, rfl⟩
      go_wp2
      go_ret
      exact ⟨rfl, hb1⟩
theorem implPat_b (s : ByteArray) (b : Bool) (w : World) (hs : s.size ≤ maxLen) (h : patB s = b) :
    Calls Try.prog 84 #[.string s] w fun e w' => e = .returned (.bool b) ∧ Below w.heap.size w w' := by
  rw [← h]; exact implPat s w hs
theorem below_dU {B : Nat} {a w : World} (h : Below B a w) (n : Nat) : Below B a (w.drewN n) := ⟨h.os, h.tape, h.output, h.size, h.block⟩
theorem implMost_f (s : ByteArray) (w : World) (hs : s.size ≤ maxLen) (hp : patB s = false) :
    Calls Try.prog 33 #[.string s] w fun e w' => e = .returned (.tuple #[.int .i64 0, .bool false]) ∧ Below w.heap.size w w' := by
  have HP := Lib.hid hp
  clear hp
  go_enter Try.func33, Try.ntmps33
  go_wp2_with fail
  refine (implPat_b s false _ hs HP.out).mono ?_; rintro e w1 ⟨rfl, hb1⟩
  go_wp2
  go_ret2
  exact ⟨rfl, hb1⟩
set_option maxHeartbeats 2000000 in
set_option maxRecDepth 100000 in
theorem implMost_t (s : ByteArray) (w : World) (hs : s.size ≤ maxLen) (hp : patB s = true) :
    Calls Try.prog 33 #[.string s] w fun e w' => e = .returned (.tuple #[.int .i64 ((unF (cU s) (fun _ => s.size) s.size s.size : Nat) : Int), .bool true]) ∧ Below w.heap.size w w' := by
  obtain ⟨hwv, hn1, hn2⟩ := patB_t hp
  have HP := Lib.hid hp
  have HW := Lib.hid hwv
  have hsame : unF (cU s) (fun _ => s.size) s.size s.size = unF (cU s) id s.size s.size := un_same _ _ _ _ _ (by omega) (fun j hj i hi => Nat.le_trans (cU_le s j i (by omega) hi) (by omega)) (fun j hj i hi => cU_le s j i (by omega) hi)
  rw [hsame]
  clear hwv hp hsame
  have hcat : s.size + s.size ≤ maxLen := by unfold maxLen; omega
  have hdb : (s ++ s).size = s.size + s.size := ByteArray.size_append
  go_enter Try.func33, Try.ntmps33
  go_wp2_with fail
  refine (implPat_b s true _ hs HP.out).mono ?_; rintro e w1 ⟨rfl, hb1⟩
  have HB1 := Lib.hid hb1
  clear hb1
  go_wp2
  go_loopw [5, 19] (fun most size wr => ∃ z y : Nat, z ≤ s.size ∧ size = .int .i64 (z : Int) ∧ most = .int .i64 (y : Int) ∧ y = unF (cU s) id s.size z ∧ ∃ q, wr = w1.drewN q) (fun _ size _ => s.size - (intOf size).toNat)
  case atStart => exact ⟨0, 0, Nat.zero_le _, rfl, rfl, rfl, 0, rfl⟩
  case round =>
    obtain ⟨z, y, hz2, rfl, rfl, hy, q, rfl⟩ := hrel
    have HY := Lib.hid hy
    have hyb : y ≤ 64 := by
      have := un_le (cU s) id s.size z z (fun j hj i hi => Nat.le_trans (cU_le s j i (by omega) hi) (by omega))
      omega
    clear hy
    by_cases hlt : z < s.size
    · go_wp2
      go_loopw [7, 8, 25] (fun low high ix wr => ∃ xa xb xi : Nat, xi ≤ s.size ∧ low = .int .i64 (xa : Int) ∧ high = .int .i64 (xb : Int) ∧ ix = .int .i64 (xi : Int) ∧ xa ≤ 64 ∧ xb ≤ 64 ∧ xa = mnF (cU s z) z xi ∧ xb = mxF (cU s z) xi ∧ ∃ q, wr = w1.drewN q) (fun _ _ ix _ => s.size - (intOf ix).toNat)
      case atStart => exact ⟨z, 0, 0, Nat.zero_le _, rfl, rfl, rfl, by omega, Nat.zero_le _, rfl, rfl, q, rfl⟩
      case round =>
        obtain ⟨xa, xb, xi, hi, rfl, rfl, rfl, ha, hb, hA, hB, q, rfl⟩ := hrel
        have HA := Lib.hid hA
        have HB := Lib.hid hB
        clear hA hB
        by_cases hlt2 : xi < s.size
        · have hc := cU_le s z xi hz2 hlt2
          go_wp2_with fail
          refine (Try.strings_Count_one ((s ++ s).extract xi (xi + z)) 49 _).mono ?_; rintro e w' ⟨rfl, rfl⟩
          rw [show Lib.countByte ((s ++ s).extract xi (xi + z)).data.toList 49 = cU s z xi from rfl]
          generalize hcu : cU s z xi = xc at *
          have HCU := Lib.hid hcu
          clear hcu
          go_wp2
          go_roundw
          case rel => exact ⟨min xa xc, max xb xc, xi + 1, by omega, by go_num, by go_num, by go_num, by omega, by omega, by rw [mnF, HCU.out, HA.out], by rw [mxF, HCU.out, HB.out], _, rfl⟩
          case measure => simp [intOf]; omega
        · have hie : xi = s.size := by omega
          have hmm : xa ≤ xb := by
            rw [HA.out, HB.out, hie]
            obtain ⟨m, hm⟩ : ∃ m, s.size = m + 1 := ⟨s.size - 1, by omega⟩
            rw [hm]; exact mn_le_mx _ _ _
          have hsub : ((xb : Int) - (xa : Int)) = ((xb - xa : Nat) : Int) := by omega
          have wsub : IntKind.i64.wrap ((xb : Int) - (xa : Int)) = ((xb - xa : Nat) : Int) := by rw [hsub]; exact IntWalk.i64_in _ (by omega)
          have HE := Lib.hid hie
          obtain ⟨x, hx⟩ : ∃ x, xb - xa = x := ⟨_, rfl⟩
          rw [hx] at hsub wsub
          have HX := Lib.hid hx
          clear hie hx
          go_wp2
          go_roundw
          case rel => exact ⟨z + 1, max y x, by omega, by go_num, by go_num, by rw [unF, ← HY.out, ← HX.out, HA.out, HB.out, HE.out]; rfl, q, rfl⟩
          case measure => simp [intOf]; omega
    · have hze : z = s.size := by omega
      go_wp2
      go_ret2
      exact ⟨by rw [HY.out, hze]; rfl, below_dU HB1.out _⟩

theorem implIsEven (s : ByteArray) (y : Nat) (w : World) (hs : s.size ≤ maxLen) (hy : unF (cU s) (fun _ => s.size) s.size s.size = y) :
    Calls Try.prog 31 #[.string s] w fun e w' => e = .returned (.bool (patB s && decide (y ≤ 1))) ∧ Below w.heap.size w w' := by
  cases hp : patB s with
  | true =>
    have HE := Lib.hid (fun w => implMost_t s w hs hp)
    rw [hy] at HE
    have HP := Lib.hid hp
    clear hp hy
    by_cases k : y ≤ 1
    all_goals
      go_enter Try.func31, Try.ntmps31
      go_wp2_with fail
      refine (HE.out _).mono ?_; rintro e w1 ⟨rfl, hb1⟩
      go_wp2
      go_ret
      exact ⟨ret_bool (by simp [k]; try omega), hb1⟩
  | false =>
    have HE := Lib.hid (fun w => implMost_f s w hs hp)
    clear hp hy
    go_enter Try.func31, Try.ntmps31
    go_wp2_with fail
    refine (HE.out _).mono ?_; rintro e w1 ⟨rfl, hb1⟩
    go_wp2
    go_ret
    exact ⟨rfl, hb1⟩
end Go.Proofs.Ytkipgeecibimoaa
