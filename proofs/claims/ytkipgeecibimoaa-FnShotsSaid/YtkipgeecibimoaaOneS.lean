/- Shots: both sides, and the law's walk. -/
import Derived.Test.YtkipgeecibimoaaFiltSh
import Derived.Test.YtkipgeecibimoaaFltI
namespace Go.Proofs.Ytkipgeecibimoaa
open Go.RowKit Go.Shelf
set_option linter.unusedVariables false
set_option linter.unusedSimpArgs false

theorem shot_new (w : World) (ag : Bool) : ShotAt (w.alloc (.cells #[.bool false, .bool ag] TSho)) w.heap.size false ag := by unfold ShotAt World.alloc; simp
set_option maxHeartbeats 1000000 in
theorem implOne_t (s : ByteArray) (T : Nat) (g : Int) (w : World) (hs : s.size ≤ maxLen) (hc : canB s (T : Int) = true) (hg : g = 0 ∨ g = 1) :
    Calls Try.prog 17 #[.string s, .int .i64 (T : Int), .int .i64 g] w fun e w' => e = .returned (.tuple #[.string (outS (shotL (g == 1) T s) s.size), .bool true]) ∧ Below w.heap.size w w' := by
  have HF := Lib.hid (shot_any s T w.heap.size (g == 1) _ hs hc (shot_new w (g == 1)))
  obtain ⟨ag, hag⟩ : ∃ b, (g == 1) = b := ⟨_, rfl⟩
  rw [hag] at HF ⊢
  go_enter Try.func17, Try.ntmps17
  go_wp2_with fail
  refine (within_i64_t _ _ _ _ (by omega) (by omega)).mono ?_; rintro e w' ⟨rfl, rfl⟩
  go_wp2_with fail
  refine HF.out.mono ?_; rintro e w1 ⟨rfl, g1⟩
  have HB := Lib.hid (below_boxed _ g1)
  clear g1
  go_wp2
  go_ret2
  exact ⟨rfl, HB.out⟩
theorem implOne_f (s : ByteArray) (T g : Int) (w : World) (hs : s.size ≤ maxLen) (h : ¬ (canB s T = true ∧ (g = 0 ∨ g = 1))) :
    Calls Try.prog 17 #[.string s, .int .i64 T, .int .i64 g] w fun e w' => e = .returned (.tuple #[.string ⟨#[]⟩, .bool false]) ∧ Below w.heap.size w w' := by
  by_cases hg : g = 0 ∨ g = 1
  · have hc : canB s T = false := by
      cases q : canB s T with
      | false => rfl
      | true => exact absurd ⟨q, hg⟩ h
    obtain ⟨ag, hag⟩ : ∃ b, (g == 1) = b := ⟨_, rfl⟩
    go_enter Try.func17, Try.ntmps17
    go_wp2_with fail
    refine (within_i64_t _ _ _ _ (by omega) (by omega)).mono ?_; rintro e w' ⟨rfl, rfl⟩
    go_wp2_with fail
    refine (filt_none s T _ _ hs hc).mono ?_; rintro e w1 ⟨rfl, b1⟩
    go_wp2
    go_ret2
    exact ⟨rfl, ((Below.refl _ w).alloc (Nat.le_refl _) _).trans (b1.mono (by simp))⟩
  · go_enter Try.func17, Try.ntmps17
    go_wp2_with fail
    refine (within_i64_f _ _ _ _ (by omega)).mono ?_; rintro e w' ⟨rfl, rfl⟩
    go_wp2
    go_ret2
    exact ⟨rfl, Below.refl _ _⟩
theorem up_parts (s : ByteArray) (k : Nat) (h : k < s.size) (hw : waveB s.data.toList = true) : (k = 0 → upB s k = bit s k) ∧ (∀ j, k = j + 1 → upB s k = (bit s k && !bit s j)) := by
  refine ⟨fun q => by subst q; simp [upB], fun j q => by subst q; simp [upB]⟩
theorem l00Max_pred (l : Nat) (w : World) :
    Calls Try.prog 142 #[.int .i64 0, .int .i64 ((l : Int) - 1)] w fun e w' => e = .returned (.int .i64 ((l - 1 : Nat) : Int)) ∧ w = w' :=
  l00Max_z (l - 1) ((l : Int) - 1) w (by omega)
end Go.Proofs.Ytkipgeecibimoaa
