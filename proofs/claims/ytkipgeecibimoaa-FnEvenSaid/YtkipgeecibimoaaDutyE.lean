/- The share of ones in a wave: the program's side. -/
import Derived.Test.YtkipgeecibimoaaMake
import Derived.Test.YtkipgeecibimoaaOnesS
import Derived.Test.YtkipgeecibimoaaShelf
import Derived.WalkSpells
namespace Go.Proofs.Ytkipgeecibimoaa
open Go.RowKit
set_option linter.unusedVariables false

def dutN (s : ByteArray) : Int := mkN (onesC s) s.size
def dutD (s : ByteArray) : Int := mkD (onesC s) s.size
theorem emp_f (s : ByteArray) (h : s.size ≠ 0) : s.toList.isEmpty = false := by
  rw [ByteArray.toList_eq]
  have := size_toList s
  cases hl : s.data.toList with
  | nil => rw [hl] at this; simp at this; omega
  | cons _ _ => rfl
theorem implDuty_t (s : ByteArray) (w : World) (hs : s.size ≤ maxLen) (hwv : waveB s.data.toList = true) (hne : s.size ≠ 0) :
    Calls Try.prog 29 #[.string s] w fun e w' => e = .returned (.tuple #[.agg #[.int .i64 (dutN s), .int .i64 (dutD s)], .bool true]) ∧ Below w.heap.size w w' := by
  have hz := wave_size s hwv
  have hcn := cnt_le s
  have HIW := Lib.hid (fun w => implIsWave s w hs)
  rw [hwv] at HIW
  clear hwv
  have h0 := emp_f s hne
  go_enter Try.func29, Try.ntmps29
  go_wp2_with fail
  refine (HIW.out _).mono ?_; rintro e w1 ⟨rfl, hb1⟩
  have HB1 := Lib.hid hb1
  have hs1 := hb1.size
  simp at hs1
  clear hb1
  go_wp2_with fail
  refine (Try.strings_Count_one s 49 _).mono ?_; rintro e w' ⟨rfl, rfl⟩
  rw [show Lib.countByte s.data.toList 49 = onesC s from rfl]
  go_wp2_with fail
  refine (implMake_t _ _ _ (by omega) (by omega) (by omega) (by omega) (by omega)).mono ?_; rintro e w2 ⟨rfl, hb⟩
  have HB := Lib.hid (((((Below.refl _ _).alloc (Nat.le_refl _) _).trans (HB1.out.mono (by simp))).trans (hb.mono (by omega))) : Below w.heap.size w w2)
  obtain ⟨hc, hf⟩ := bcell (HB1.out.trans (hb.mono (by simp; omega)))
  go_wp2
  refine bodyPost_ret (v := .tuple #[.agg #[.int .i64 (dutN s), .int .i64 (dutD s)], .bool true]) (by simp [results, Try.results29, go_sem, hc, dutN, dutD]) rfl ⟨rfl, ?_⟩
  exact (HB.out.setCell (Nat.le_refl _) _).setCell (Nat.le_refl _) _
end Go.Proofs.Ytkipgeecibimoaa
