/- A toggled wave, on the side of the model. -/
import Derived.Test.YtcelgmecfmegpaaBytes
import Derived.Test.YtcelgmecfmegpaaWaveStr
import Derived.Test.YtcelgmecfmegpaaIn64
namespace Go.Proofs.Ytcelgmecfmegpaa
open Go.RowKit
set_option linter.unusedVariables false

/-- the level, the level before, the number of edges, behind so many ticks -/
def togF (m : Nat) (l : List UInt8) : Nat → UInt8 × UInt8 × Nat
  | 0 => (48, 48, 0)
  | i + 1 => if l.getD i 0 = (togF m l i).2.1 then ((togF m l i).1, l.getD i 0, (togF m l i).2.2) else (if (togF m l i).2.2 % m = 0 then 97 - (togF m l i).1 else (togF m l i).1, l.getD i 0, (togF m l i).2.2 + 1)
def togL (m : Nat) (l : List UInt8) (i : Nat) : List UInt8 := (List.range i).map (fun j => (togF m l (j + 1)).1)
theorem togL_snoc (m : Nat) (l : List UInt8) (i : Nat) : togL m l (i + 1) = togL m l i ++ [(togF m l (i + 1)).1] := by simp [togL, List.range_succ]
theorem togL_len (m : Nat) (l : List UInt8) (i : Nat) : (togL m l i).length = i := by simp [togL]
theorem tgl_other {c : UInt8} (h : c = 48 ∨ c = 49) : ∃ d : UInt8, (d = 48 ∨ d = 49) ∧ 97 - c = d ∧ 97 - (c.toNat : Int) = (d.toNat : Int) ∧ IntKind.u8.wrap (97 - (c.toNat : Int)) = (d.toNat : Int) := by
  rcases h with rfl | rfl
  · exact ⟨49, .inr rfl, by decide, by decide, by decide⟩
  · exact ⟨48, .inl rfl, by decide, by decide, by decide⟩
theorem tgl_small {c : UInt8} (h : c = 48 ∨ c = 49) : 48 ≤ (c.toNat : Int) ∧ (c.toNat : Int) ≤ 49 := by
  rcases h with rfl | rfl <;> decide
theorem tog_same {m : Nat} {l : List UInt8} {i : Nat} {x y : UInt8} {k : Nat} (h : togF m l i = (x, y, k)) (e : l.getD i 0 = y) : togF m l (i + 1) = (x, y, k) := by
  unfold togF; rw [h]; simp only; rw [if_pos e, e]
theorem tog_turn {m : Nat} {l : List UInt8} {i : Nat} {x y z : UInt8} {k : Nat} (h : togF m l i = (x, y, k)) (hz : l.getD i 0 = z) (e : z ≠ y) (hk : k % m = 0) : togF m l (i + 1) = (97 - x, z, k + 1) := by
  unfold togF; rw [h]; simp only; rw [hz, if_neg e, if_pos hk]
theorem tog_keep {m : Nat} {l : List UInt8} {i : Nat} {x y z : UInt8} {k : Nat} (h : togF m l i = (x, y, k)) (hz : l.getD i 0 = z) (e : z ≠ y) (hk : ¬ k % m = 0) : togF m l (i + 1) = (x, z, k + 1) := by
  unfold togF; rw [h]; simp only; rw [hz, if_neg e, if_neg hk]
theorem getD_at (s : ByteArray) (k : Nat) (h : k < s.size) : s.data.toList.getD k 0 = s[k] := by
  have h2 : k < s.data.toList.length := by simpa using h
  rw [List.getD_eq_getElem?_getD, List.getElem?_eq_getElem h2]; rfl

set_option maxHeartbeats 2000000 in
set_option maxRecDepth 100000 in
theorem specTog_t (m : Nat) (s : ByteArray) (w : World) (hm : 1 ≤ m) (hm2 : m ≤ 64) (hs : s.size ≤ maxLen) (hwv : waveB s.data.toList = true) (hsz : s.size ≤ 400) :
    Calls Try.prog 9 #[.int .i64 (m : Int), .string s] w fun e w' => e = .returned (.tuple #[.string ⟨(togL m s.data.toList s.size).toArray⟩, .bool true]) ∧ Below w.heap.size w w' := by
  obtain ⟨i0, hi, hz0, hz1, hz2⟩ := info_parts info_u8
  have HWV := Lib.hid hwv
  have hm0 : ((m : Int) == 0) = false := by simp; omega
  have hmn : ¬ (m : Int) = 0 := by omega
  clear hwv
  go_enter Try.func9, Try.ntmps9
  go_wp2_with fail
  refine (l00In_t _ _ _ _ (by omega) (by omega)).mono ?_; rintro e w' ⟨rfl, rfl⟩
  go_wp2_with fail
  refine ((l01Wave_any s _ hs).mono (R' := fun e w' => e = .returned (.bool true) ∧ w = w') (fun e w' h => by rw [HWV.out] at h; exact h)).mono ?_
  rintro e w' ⟨rfl, rfl⟩
  go_wp2
  go_loopw [6, 7, 8, 9, 10] (fun v lv bf kv iv wr => ∃ (i : Nat) (x y : UInt8) (k : Nat), i ≤ s.size ∧ iv = .int .i64 (i : Int) ∧ togF m s.data.toList i = (x, y, k) ∧ lv = .int .u8 (x.toNat : Int) ∧ bf = .int .u8 (y.toNat : Int) ∧ kv = .int .i64 (k : Int) ∧ k ≤ i ∧ (x = 48 ∨ x = 49) ∧ Buf wr w.heap.size v (togL m s.data.toList i) ∧ Below w.heap.size w wr) (fun _ _ _ _ iv _ => s.size - (intOf iv).toNat)
  case atStart => exact ⟨0, 48, 48, 0, Nat.zero_le _, rfl, rfl, rfl, rfl, rfl, Nat.le_refl _, .inl rfl, Buf.lit w, (Below.refl _ _).alloc (Nat.le_refl _) _⟩
  case round =>
    obtain ⟨i, x, y, k, hi2, rfl, hF, rfl, rfl, rfl, hk, xH, hbuf, hB⟩ := hrel
    by_cases hlt : i < s.size
    · have hby : (s[i].toNat : Int) ≤ 255 := by have := s[i].toNat_lt; omega
      have HL := Lib.hid (togL_len m s.data.toList i)
      have HB := Lib.hid hbuf
      have hsz2 := hB.size
      have hg := getD_at s i hlt
      have wk : IntKind.i64.wrap ((k : Int) + 1) = (k : Int) + 1 := IntWalk.i64_in _ (by omega)
      by_cases hsy : s[i] = y
      · have HF2 := Lib.hid (tog_same hF (hg.trans hsy))
        have HS := Lib.hid (by have h := togL_snoc m s.data.toList i; rw [HF2.out] at h; exact h)
        have hint : (s[i].toNat : Int) = (y.toNat : Int) := by rw [hsy]
        have HY := Lib.hid hint
        clear hF hbuf hg hsy
        have hca := tgl_small xH
        go_wp2_with (at_builtin; refine wpList_append_own _ rfl _ _ 55 rfl w.heap.size 5 i0 (.int .u8 0) 1 1 Try.underlying55 hi hz0 hz1 hz2 rfl (by decide) _ _ _ rfl (HB.out.alloc _) ⟨wr.heap.size, 0, none⟩ 1 1 [.int .u8 (x.toNat : Int)] rfl rfl ?c1a ?c2a ?c3a ?c4a ?c5a ?_)
        try (case c1a => exact cell_one_new wr (.int .u8 (x.toNat : Int)) _)
        case c2a => simp [Value.oneCell']
        case c3a => rw [HL.out]; unfold maxLen; omega
        case c4a => rw [HL.out]; omega
        case c5a => first | omega | (simp; omega)
        intro v' w1 hown' hgrow _
        have HO := Lib.hid (Buf.snoc hown')
        have HW := Lib.hid (Buf.below hB HB.out _ hgrow)
        clear hown' hgrow
        go_wp2
        go_roundw
        case rel => exact ⟨i + 1, x, y, k, by omega, by go_num, HF2.out, rfl, by first | rfl | (rw [HY.out]), by go_num, by omega, xH, by rw [HS.out]; exact HO.out, HW.out⟩
        case measure => simp [intOf]; omega
      · have hint : ¬ (s[i].toNat : Int) = (y.toNat : Int) := fun e => hsy (UInt8.toNat_inj.1 (by omega))
        obtain ⟨z, hzz⟩ : ∃ z, s[i] = z := ⟨_, rfl⟩
        have hzi : (s[i].toNat : Int) = (z.toNat : Int) := by rw [hzz]
        rw [hzz] at hsy
        rw [hzi] at hint hby
        have hmod : (k : Int).tmod (m : Int) = ((k % m : Nat) : Int) := by rw [Int.tmod_eq_emod_of_nonneg (by omega)]; simp
        have hmb : k % m < m := Nat.mod_lt _ (by omega)
        by_cases hr : k % m = 0
        · obtain ⟨d, dH, hde, hdz, hdw⟩ := tgl_other xH
          have HF2 := Lib.hid (by have h := tog_turn hF (hg.trans hzz) hsy hr; rw [hde] at h; exact h)
          have HS := Lib.hid (by have h := togL_snoc m s.data.toList i; rw [HF2.out] at h; exact h)
          have wr0 : IntKind.i64.wrap ((k : Int).tmod (m : Int)) = 0 := by rw [hmod, hr]; decide
          have wr1 : (k : Int) % (m : Int) = 0 := by have h : ((k % m : Nat) : Int) = 0 := by rw [hr]; rfl
                                                     simpa using h
          have HY := Lib.hid hzi
          clear hF hbuf hg hsy hzz hmod hr hde
          have hca := tgl_small dH
          go_wp2_with (at_builtin; refine wpList_append_own _ rfl _ _ 55 rfl w.heap.size 5 i0 (.int .u8 0) 1 1 Try.underlying55 hi hz0 hz1 hz2 rfl (by decide) _ _ _ rfl (HB.out.alloc _) ⟨wr.heap.size, 0, none⟩ 1 1 [.int .u8 (d.toNat : Int)] rfl rfl ?c1b ?c2b ?c3b ?c4b ?c5b ?_)
          try (case c1b => exact cell_one_new wr (.int .u8 (d.toNat : Int)) _)
          case c2b => simp [Value.oneCell']
          case c3b => rw [HL.out]; unfold maxLen; omega
          case c4b => rw [HL.out]; omega
          case c5b => first | omega | (simp; omega)
          intro v' w1 hown' hgrow _
          have HO := Lib.hid (Buf.snoc hown')
          have HW := Lib.hid (Buf.below hB HB.out _ hgrow)
          clear hown' hgrow
          go_wp2
          go_roundw
          case rel => exact ⟨i + 1, d, z, k + 1, by omega, by go_num, HF2.out, rfl, by first | rfl | (rw [HY.out]), by go_num, by omega, dH, by rw [HS.out]; exact HO.out, HW.out⟩
          case measure => simp [intOf]; omega
        · have HF2 := Lib.hid (tog_keep hF (hg.trans hzz) hsy hr)
          have HS := Lib.hid (by have h := togL_snoc m s.data.toList i; rw [HF2.out] at h; exact h)
          obtain ⟨r, hre⟩ : ∃ r, k % m = r := ⟨_, rfl⟩
          rw [hre] at hmod hr hmb
          have wr1 : (k : Int) % (m : Int) = (r : Int) := by rw [← hre]; simp
          have wr0 : IntKind.i64.wrap ((k : Int).tmod (m : Int)) = (r : Int) := by rw [hmod]; exact IntWalk.i64_in _ (by omega)
          have hr0 : ¬ (r : Int) = 0 := by omega
          have wr2 : ((r : Int) == 0) = false := by simp; omega
          have HY := Lib.hid hzi
          clear hF hbuf hg hsy hzz hmod hr hre
          have hca := tgl_small xH
          go_wp2_with (at_builtin; refine wpList_append_own _ rfl _ _ 55 rfl w.heap.size 5 i0 (.int .u8 0) 1 1 Try.underlying55 hi hz0 hz1 hz2 rfl (by decide) _ _ _ rfl (HB.out.alloc _) ⟨wr.heap.size, 0, none⟩ 1 1 [.int .u8 (x.toNat : Int)] rfl rfl ?c1c ?c2c ?c3c ?c4c ?c5c ?_)
          try (case c1c => exact cell_one_new wr (.int .u8 (x.toNat : Int)) _)
          case c2c => simp [Value.oneCell']
          case c3c => rw [HL.out]; unfold maxLen; omega
          case c4c => rw [HL.out]; omega
          case c5c => first | omega | (simp; omega)
          intro v' w1 hown' hgrow _
          have HO := Lib.hid (Buf.snoc hown')
          have HW := Lib.hid (Buf.below hB HB.out _ hgrow)
          clear hown' hgrow
          go_wp2
          go_roundw
          case rel => exact ⟨i + 1, x, z, k + 1, by omega, by go_num, HF2.out, rfl, by first | rfl | (rw [HY.out]), by go_num, by omega, xH, by rw [HS.out]; exact HO.out, HW.out⟩
          case measure => simp [intOf]; omega
    · have hconv := run_buf_string _ _ _ _ hbuf
      have HB := Lib.hid hbuf
      have hie : i = s.size := by omega
      subst hie
      clear hbuf hF
      go_wp2
      go_ret2
      exact ⟨rfl, hB⟩
end Go.Proofs.Ytcelgmecfmegpaa
