/- strings.Cut at a text of one byte. -/
import Derived.Test.YtemjohkieehojaaDoorPieM
import Derived.Test.YtemjohkieehojaaDoorShelf
import Derived.Test.YtemjohkieehojaaDoorIn64
import Derived.BigQuiet
import Derived.Deep.QuietTactic
import Derived.Lib.IndexBytes
namespace Go.Proofs.YtemjohkieehojaaDoor
open Go.RowKit
set_option linter.unusedVariables false
set_option linter.unusedSimpArgs false
theorem indexByte_pcC (c : UInt8) (l : List UInt8) : Lib.indexByte l c = if pcK c l < l.length then (pcK c l : Int) else -1 := by
  rw [← Lib.index_one, index_pcK]
def cut1 (c : UInt8) (T : List UInt8) : Value := .tuple #[.string ⟨(T.take (pcK c T)).toArray⟩, .string ⟨(T.drop (pcK c T + 1)).toArray⟩, .bool (decide (pcK c T < T.length))]
set_option maxHeartbeats 1000000 in
set_option maxRecDepth 100000 in
theorem liteCut_one (s : ByteArray) (c : UInt8) (w : World) (hs : s.size ≤ 1048576) :
    Calls Tryd.prog 43 #[.string s, .string ⟨#[c]⟩] w fun e w' => e = .returned (cut1 c s.data.toList) ∧ ∃ q, w' = w.drewN q := by
  have HIX := Lib.hid (Tryd.stringslite_Index_one s c w)
  rw [indexByte_pcC] at HIX
  have hz := size_toList s
  unfold cut1
  by_cases hk : pcK c s.data.toList < s.data.toList.length
  · rw [if_pos hk] at HIX
    rw [decide_eq_true hk]
    obtain ⟨k, hke⟩ : ∃ k, pcK c s.data.toList = k := ⟨_, rfl⟩
    rw [hke] at hk HIX ⊢
    have hk2 : k < s.size := by omega
    obtain ⟨y, hye⟩ : ∃ y, s.data.toList.take k = y := ⟨_, rfl⟩
    obtain ⟨z, hze⟩ : ∃ z, s.data.toList.drop (k + 1) = z := ⟨_, rfl⟩
    rw [hye, hze]
    have hex : s.extract 0 k = ⟨y.toArray⟩ := by
      rw [← hye]; apply ByteArray.ext; apply Array.toList_inj.1; rw [Lib.extract_eq]; simp
    have hez : s.extract (k + 1) s.size = ⟨z.toArray⟩ := by
      rw [← hze]; apply ByteArray.ext; apply Array.toList_inj.1; rw [Lib.extract_eq]; simp; first | done | rw [List.take_of_length_le (by simp; omega)] | rw [List.take_of_length_le (by simp)]
    have e1 : (({ data := #[c] } : ByteArray).size : Int) = 1 := rfl
    have e2 : ({ data := #[c] } : ByteArray).size = 1 := rfl
    have hw2 : IntKind.i64.wrap ((k : Int) + 1) = ((k + 1 : Nat) : Int) := by rw [IntWalk.i64_in _ (by omega)]; omega
    clear hke hye hze hz hk
    go_enter Tryd.func43, Tryd.ntmps43
    go_wp2_with fail
    refine HIX.out.mono ?_; rintro e w2 ⟨rfl, h2⟩
    rw [h2]
    clear h2
    go_wp2
    go_quiet (fail)
    go_wp2
    go_ret3
    exact ⟨rfl, _, rfl⟩
  · rw [if_neg hk] at HIX
    rw [decide_eq_false hk]
    have hy : (⟨(s.data.toList.take (pcK c s.data.toList)).toArray⟩ : ByteArray) = s := by
      rw [List.take_of_length_le (by omega)]
    have hd : (⟨(s.data.toList.drop (pcK c s.data.toList + 1)).toArray⟩ : ByteArray) = ⟨#[]⟩ := by
      rw [List.drop_eq_nil_of_le (by omega)]
    rw [hy, hd]
    clear hk hz hy hd
    go_enter Tryd.func43, Tryd.ntmps43
    go_wp2_with fail
    refine HIX.out.mono ?_; rintro e w2 ⟨rfl, h2⟩
    rw [h2]
    clear h2
    go_wp2
    go_ret3
    exact ⟨rfl, 0, rfl⟩
theorem cut_one (s : ByteArray) (c : UInt8) (w : World) (hs : s.size ≤ 1048576) :
    Calls Tryd.prog 22 #[.string s, .string ⟨#[c]⟩] w fun e w' => e = .returned (cut1 c s.data.toList) ∧ ∃ q, w' = w.drewN q := by
  have H := Lib.hid (liteCut_one s c w hs)
  unfold cut1 at H ⊢
  obtain ⟨a, ha⟩ : ∃ a : ByteArray, (⟨(s.data.toList.take (pcK c s.data.toList)).toArray⟩ : ByteArray) = a := ⟨_, rfl⟩
  obtain ⟨b, hb⟩ : ∃ b : ByteArray, (⟨(s.data.toList.drop (pcK c s.data.toList + 1)).toArray⟩ : ByteArray) = b := ⟨_, rfl⟩
  obtain ⟨d, hd⟩ : ∃ d, decide (pcK c s.data.toList < s.data.toList.length) = d := ⟨_, rfl⟩
  rw [ha, hb, hd] at H ⊢
  clear ha hb hd
  go_enter Tryd.func22, Tryd.ntmps22
  go_wp2_with fail
  refine H.out.mono ?_; rintro e w2 ⟨rfl, q, h2⟩
  rw [h2]
  clear h2
  go_wp2
  go_ret3
  exact ⟨rfl, q, rfl⟩
end Go.Proofs.YtemjohkieehojaaDoor
