/- ReadRuns: the text "none", both sides, and the law's walk. -/
import Derived.Test.YtemjohkieehojaaDoorRrI
import Derived.Test.YtemjohkieehojaaDoorRrS
namespace Go.Proofs.YtemjohkieehojaaDoor
open Go.RowKit Go.Shelf
set_option linter.unusedVariables false
set_option linter.unusedSimpArgs false
theorem specRr0_none (s : ByteArray) (w : World) (hne : s = (⟨#[110, 111, 110, 101]⟩ : ByteArray)) :
    Calls Tryd.prog 21 #[.string s] w fun e w' => e = .returned (.tuple #[.string ⟨#[]⟩, .bool true]) ∧ Below w.heap.size w w' := by
  subst hne
  have n1 : ((⟨#[110, 111, 110, 101]⟩ : ByteArray).toList == [110, 111, 110, 101]) = true := by rw [Lib.toList_data]; rfl
  have n2 : (⟨#[110, 111, 110, 101]⟩ : ByteArray).toList = [110, 111, 110, 101] := by rw [Lib.toList_data]
  go_enter Tryd.func21, Tryd.ntmps21
  go_wp2
  go_ret2
  exact ⟨rfl, Below.refl _ _⟩
theorem implRr_none (s : ByteArray) (w : World) (hne : s = (⟨#[110, 111, 110, 101]⟩ : ByteArray)) :
    Calls Tryd.prog 12 #[.string s] w fun e w' => e = .returned (.tuple #[.string ⟨#[]⟩, .bool true]) ∧ Below w.heap.size w w' := by
  subst hne
  have n1 : ((⟨#[110, 111, 110, 101]⟩ : ByteArray).toList == [110, 111, 110, 101]) = true := by rw [Lib.toList_data]; rfl
  have n2 : (⟨#[110, 111, 110, 101]⟩ : ByteArray).toList = [110, 111, 110, 101] := by rw [Lib.toList_data]
  go_enter Tryd.func12, Tryd.ntmps12
  go_wp2
  exact bodyPost_ret (v := .tuple #[.string ⟨#[]⟩, .bool true]) (by simp [results, Tryd.results12, go_sem]) rfl ⟨rfl, by first | exact ((((Below.refl _ _).alloc (Nat.le_refl _) _).alloc (by simp) _).setCell (by simp) _).setCell (by simp) _ | exact (((Below.refl _ _).alloc (Nat.le_refl _) _).alloc (by simp) _).setCell (by simp) _ | exact (((Below.refl _ _).alloc (Nat.le_refl _) _).alloc (by simp) _)⟩
theorem rr_both (s : ByteArray) (hs : s.size ≤ 1048576) :
    ∃ t b, (∀ w, Calls Tryd.prog 21 #[.string s] w fun e w' => e = .returned (.tuple #[.string t, .bool b]) ∧ Below w.heap.size w w') ∧
      (∀ w, DoorE w → Calls Tryd.prog 12 #[.string s] w fun e w' => e = .returned (.tuple #[.string t, .bool b]) ∧ Below w.heap.size w w') := by
  by_cases hne : s = (⟨#[110, 111, 110, 101]⟩ : ByteArray)
  · exact ⟨_, _, fun w => specRr0_none s w hne, fun w _ => implRr_none s w hne⟩
  · exact ⟨_, _, fun w => specRr s w hs hne, fun w h => callsIn_wide (n := 12).1 (implRr_in 12 (Nat.le_refl _) s w hs hne h)⟩
theorem rr_spec (s : ByteArray) (t : ByteArray) (b : Bool) (hS : ∀ w, Calls Tryd.prog 21 #[.string s] w fun e w' => e = .returned (.tuple #[.string t, .bool b]) ∧ Below w.heap.size w w') (w : World) :
    Calls Tryd.prog 11 #[.string s] w fun e w' => e = .returned (.tuple #[.string t, .bool b]) ∧ Below w.heap.size w w' := by
  have HS := Lib.hid hS
  clear hS
  go_enter Tryd.func11, Tryd.ntmps11
  go_wp2_with fail
  refine (HS.out _).mono ?_; rintro e w1 ⟨rfl, b1⟩
  have HB := Lib.hid b1
  clear b1
  go_wp2
  go_ret2
  exact ⟨rfl, HB.out⟩
set_option maxHeartbeats 1000000 in
set_option maxRecDepth 100000 in
theorem walk_FnExactReadRuns (s : ByteArray) (w : World) (h_s : s.size ≤ maxLen) (hd : DoorE w) :
    Calls Tryd.prog 4 #[.string s] w fun e w' => e = .returned (.bool true) ∧ Below w.heap.size w w' := by
  by_cases l_s : (s.size : Int) ≤ 1048576
  case neg =>
    clear hd
    go_enter Tryd.func4, Tryd.ntmps4
    go_wp2
    go_ret
    exact ⟨rfl, Below.refl _ _⟩
  obtain ⟨r0, r1, hS, hI⟩ := rr_both s (by omega)
  have HS := Lib.hid (rr_spec s r0 r1 hS)
  have HI := Lib.hid hI
  have HD := Lib.hid hd
  clear hS hI hd
  go_enter Tryd.func4, Tryd.ntmps4
  go_wp2_with fail
  refine (HS.out _).mono ?_; rintro e w1 ⟨rfl, b1⟩
  have HB := Lib.hid b1
  clear b1
  go_wp2_with fail
  refine (HI.out _ (HD.out.on HB.out)).mono ?_; rintro e w2 ⟨rfl, b2⟩
  have hfin := HB.out.trans (b2.mono HB.out.size)
  go_wp2
  go_ret
  exact ⟨rfl, hfin⟩
end Go.Proofs.YtemjohkieehojaaDoor
