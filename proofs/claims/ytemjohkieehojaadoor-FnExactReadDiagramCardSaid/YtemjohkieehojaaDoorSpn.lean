/- strings.SplitN at a separator of one byte. -/
import Derived.Test.YtemjohkieehojaaDoorRdM
import Derived.Test.YtemjohkieehojaaDoorCutG
import Derived.Test.YtemjohkieehojaaDoorShelf
import Derived.Lib.IndexBytes
namespace Go.Proofs.YtemjohkieehojaaDoor
open Go.RowKit
set_option linter.unusedVariables false
set_option linter.unusedSimpArgs false
theorem splitK_spl (c : UInt8) : ∀ (k : Nat) (s : List UInt8), Lib.splitK [c] 0 k s = spl c k s
  | 0, s => rfl
  | k + 1, s => by
    rw [Lib.splitK, spl, index_pcK]
    by_cases h : pcK c s < s.length
    · rw [if_pos h, if_pos h, if_neg (by simp <;> omega), splitK_spl c k]
      simp
    · rw [if_neg h, if_neg h]; rfl
theorem spl_min (c : UInt8) (k : Nat) (s : List UInt8) : spl c (min (k + 1) (s.length + 1) - 1) s = spl c k s := by
  by_cases h : k ≤ s.length
  · rw [show min (k + 1) (s.length + 1) - 1 = k by omega]
  · have hp := pcs_len c s
    rw [show min (k + 1) (s.length + 1) - 1 = s.length by omega, spl_all c _ s hp, spl_all c k s (by omega)]
theorem splitB_spl (c : UInt8) (k : Nat) (s : ByteArray) : Lib.splitB ⟨#[c]⟩ 0 (min (k + 1) (s.size + 1) - 1) s = Bs (spl c k s.data.toList) := by
  have h := Lib.splitB_data ⟨#[c]⟩ 0 (min (k + 1) (s.size + 1) - 1) s
  rw [show (⟨#[c]⟩ : ByteArray).data.toList = [c] from rfl, splitK_spl] at h
  have hz := size_toList s
  rw [← hz, spl_min] at h
  rw [← h, hz]
  unfold Bs
  rw [List.map_map]
  conv => lhs; rw [← List.map_id (Lib.splitB ⟨#[c]⟩ 0 (min (k + 1) (s.size + 1) - 1) s)]
  refine List.map_congr_left (fun x _ => ?_)
  show x = ⟨x.data.toList.toArray⟩
  cases x; simp
theorem splitN_one (c : UInt8) (k : Nat) (hk : k ≤ 1000) (s : ByteArray) (mx : Int) (w : World) (hs : s.size ≤ 1048576) (hm : w.cell? ⟨0, 0, none⟩ = some (.int .i64 mx)) (kn : Int) (hkn : kn = ((k + 1 : Nat) : Int)) :
    Calls Tryd.prog 33 #[.string s, .string ⟨#[c]⟩, .int .i64 kn] w fun e w' => ∃ cap, e = .returned (.slice (some ⟨w.heap.size, 0, none⟩) (spl c k s.data.toList).length cap) ∧ Strs w' w.heap.size (.slice (some ⟨w.heap.size, 0, none⟩) (spl c k s.data.toList).length cap) (Bs (spl c k s.data.toList)) ∧ Below w.heap.size w w' := by
  subst hkn
  refine (Tryd.strings_SplitN s ⟨#[c]⟩ (k + 1) mx w (by omega) hm (Nat.le_refl 1) (by omega) (by omega)).mono ?_
  rintro e w' ⟨rfl, rfl⟩
  rw [splitB_spl, Bs_len]
  refine ⟨_, rfl, ?_, (Below.refl _ _).alloc (Nat.le_refl _) _⟩
  have hl := spl_len c k s.data.toList
  have hp : (spl c k s.data.toList).length ≤ s.size + 1 := by
    by_cases h : (pcs c s.data.toList).length ≤ k + 1
    · rw [spl_all c k _ h]; have := pcs_len c s.data.toList; rw [size_toList] at this; exact this
    · have := pcs_len c s.data.toList; rw [size_toList] at this; omega
  have hlen : (Bs (spl c k s.data.toList)).length ≤ min (k + 1) (s.size + 1) := by rw [Bs_len]; omega
  unfold Strs
  rw [Bs_len]
  refine ⟨by simp [Bs_len], .inr ⟨w.heap.size, _, _, rfl, Nat.le_refl _, heap_alloc_new w _, by omega, by unfold maxLen; omega, by rw [Lib.cellsOf_size hlen]; omega, ?_⟩⟩
  unfold Lib.cellsOf
  simp only [List.toList_toArray]
  rw [Nat.mul_one, List.take_left' (by simp [Bs_len])]
end Go.Proofs.YtemjohkieehojaaDoor
