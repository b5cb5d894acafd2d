/- ReadList: what is left of both sides: the text "none", the model's own call; the length of the answer. -/
import Derived.Test.YtemjohkieehojaaDoorRlS
namespace Go.Proofs.YtemjohkieehojaaDoor
open Go.RowKit
set_option linter.unusedVariables false
theorem numL_len (m n : Nat) (P : List (List UInt8)) (hn : n ≤ 1048576) : ((numL m n P).getD []).length ≤ 1048576 := by
  unfold numL
  cases nums m P with
  | none => simp
  | some L =>
    simp only
    split
    · simp; omega
    · simp
theorem specRl (s : ByteArray) (w : World) (hs : s.size ≤ 1048576) (hne : s ≠ (⟨#[110, 111, 110, 101]⟩ : ByteArray)) :
    Calls Tryd.prog 6 #[.string s] w fun e w' => ∃ v, e = .returned (.tuple #[v, .bool (numL 1000000000000000 64 (pcs 44 s.data.toList)).isSome]) ∧ Ints w' w.heap.size v ((numL 1000000000000000 64 (pcs 44 s.data.toList)).getD []) ∧ Below w.heap.size w w' := by
  have HN := Lib.hid (specNums s w hs hne)
  clear hne
  obtain ⟨l, hl⟩ : ∃ l, (numL 1000000000000000 64 (pcs 44 s.data.toList)).getD [] = l := ⟨_, rfl⟩
  obtain ⟨b, hb⟩ : ∃ b, (numL 1000000000000000 64 (pcs 44 s.data.toList)).isSome = b := ⟨_, rfl⟩
  rw [hl, hb] at HN ⊢
  clear hl hb
  go_enter Tryd.func6, Tryd.ntmps6
  go_wp2_with fail
  refine HN.out.mono ?_; rintro e w1 ⟨v, rfl, hi, hb⟩
  have HI := Lib.hid hi
  have HB := Lib.hid hb
  clear hi hb
  go_wp2
  go_ret2
  exact ⟨_, rfl, HI.out, HB.out⟩
theorem specNums_none (s : ByteArray) (w : World) (hne : s = (⟨#[110, 111, 110, 101]⟩ : ByteArray)) :
    Calls Tryd.prog 18 #[.string s] w fun e w' => ∃ v, e = .returned (.tuple #[v, .bool true]) ∧ Ints w' w.heap.size v [] ∧ Below w.heap.size w w' := by
  subst hne
  have n1 : ((⟨#[110, 111, 110, 101]⟩ : ByteArray).toList == [110, 111, 110, 101]) = true := by rw [Lib.toList_data]; rfl
  have n2 : (⟨#[110, 111, 110, 101]⟩ : ByteArray).toList = [110, 111, 110, 101] := by rw [Lib.toList_data]
  have hz : (⟨#[110, 111, 110, 101]⟩ : ByteArray).size = 4 := rfl
  go_enter Tryd.func18, Tryd.ntmps18
  go_wp2
  go_loopw [4, 5, 6, 7, 8] (fun v fv iv uv bv wr => v = .slice (some ⟨w.heap.size, 0, none⟩) 0 0 ∧ iv = .int .i64 0 ∧ fv = .int .i64 0 ∧ wr = w.alloc (.cells #[] 2)) (fun _ _ _ _ _ _ => 0)
  case atStart => exact ⟨rfl, rfl, rfl, rfl⟩
  case round =>
    obtain ⟨rfl, rfl, rfl, rfl⟩ := hrel
    go_wp2
    go_ret2
    exact ⟨_, rfl, Ints.lit w, (Below.refl _ _).alloc (Nat.le_refl _) _⟩
theorem specRl_none (s : ByteArray) (w : World) (hne : s = (⟨#[110, 111, 110, 101]⟩ : ByteArray)) :
    Calls Tryd.prog 6 #[.string s] w fun e w' => ∃ v, e = .returned (.tuple #[v, .bool true]) ∧ Ints w' w.heap.size v [] ∧ Below w.heap.size w w' := by
  have HN := Lib.hid (specNums_none s w hne)
  clear hne
  go_enter Tryd.func6, Tryd.ntmps6
  go_wp2_with fail
  refine HN.out.mono ?_; rintro e w1 ⟨v, rfl, hi, hb⟩
  have HI := Lib.hid hi
  have HB := Lib.hid hb
  clear hi hb
  go_wp2
  go_ret2
  exact ⟨_, rfl, HI.out, HB.out⟩
theorem implRl_none (s : ByteArray) (w : World) (hne : s = (⟨#[110, 111, 110, 101]⟩ : ByteArray)) :
    Calls Tryd.prog 7 #[.string s] w fun e w' => ∃ v, e = .returned (.tuple #[v, .bool true]) ∧ Ints w' w.heap.size v [] ∧ Below w.heap.size w w' := by
  subst hne
  have n1 : ((⟨#[110, 111, 110, 101]⟩ : ByteArray).toList == [110, 111, 110, 101]) = true := by rw [Lib.toList_data]; rfl
  have n2 : (⟨#[110, 111, 110, 101]⟩ : ByteArray).toList = [110, 111, 110, 101] := by rw [Lib.toList_data]
  go_enter Tryd.func7, Tryd.ntmps7
  go_wp2
  exact bodyPost_ret (v := .tuple #[.slice none 0 0, .bool true]) (by simp [results, Tryd.results7, go_sem]) rfl ⟨_, rfl, Ints.nil _ _, by first | exact ((((Below.refl _ _).alloc (Nat.le_refl _) _).alloc (by simp) _).setCell (by simp) _).setCell (by simp) _ | exact (((Below.refl _ _).alloc (Nat.le_refl _) _).alloc (by simp) _).setCell (by simp) _ | exact (((Below.refl _ _).alloc (Nat.le_refl _) _).alloc (by simp) _)⟩
end Go.Proofs.YtemjohkieehojaaDoor
