/- Contracts: is a text a wave, on both sides. -/
import Derived.Test.YtemjohkieehojaaDoorWords
import Derived.Test.YtemjohkieehojaaDoorRows
import Derived.LoopTactic
namespace Go.Proofs.YtemjohkieehojaaDoor
open Go.RowKit

theorem implIsWave (s : ByteArray) (w : World) (hs : s.size ≤ maxLen) :
    Calls Tryd.prog 48 #[.string s] w fun e w' => e = .returned (.bool (waveB s.data.toList)) ∧ Below w.heap.size w w' := by
  unfold maxLen at hs
  by_cases hl : (s.size : Int) ≤ 400
  · go_enter Tryd.func48, Tryd.ntmps48
    go_wp2
    go_loopw [4] (fun _ wr => ∃ pos : Nat, wr = w.iter s pos ∧ pos ≤ s.size ∧ (s.data.toList.take pos).all lvlB = true) (fun _ wr => s.size - wr.iterPos w.heap.size)
    case atStart => exact ⟨0, rfl, Nat.zero_le _, rfl⟩
    case round =>
      obtain ⟨k, rfl, hk, ha⟩ := hrel
      have HA := Lib.hid ha
      clear ha
      by_cases hlt : k < s.size
      · have HB := Lib.hid (wave_bad s k hlt)
        have HG := Lib.hid (lvl_mk s k hlt)
        by_cases hb : s[k].toNat < 128
        · have hnx : ∀ ty, (Instr.next (.pointer (some ⟨w.heap.size, 0, none⟩)) true ty).run Tryd.prog (w.iter s k) = _ := fun ty => run_next_ascii w s k ty hlt hb
          by_cases h0 : (s[k].toNat : Int) = 48
          · have h0b : ((s[k].toNat : Int) != 48) = false := by simp [h0]
            have H0 := Lib.hid h0
            clear h0
            go_wp2
            go_roundw
            case rel => exact ⟨k + 1, rfl, by omega, HG.out (Or.inl H0.out) HA.out⟩
            case measure => simp; omega
          · have h0b : ((s[k].toNat : Int) != 48) = true := by simp; omega
            by_cases h1 : (s[k].toNat : Int) = 49
            · have h1b : ((s[k].toNat : Int) != 49) = false := by simp [h1]
              have H1 := Lib.hid h1
              clear h1
              go_wp2
              go_roundw
              case rel => exact ⟨k + 1, rfl, by omega, HG.out (Or.inr H1.out) HA.out⟩
              case measure => simp; omega
            · have h1b : ((s[k].toNat : Int) != 49) = true := by simp; omega
              go_wp2
              go_ret
              exact ⟨ret_bool (HB.out (by omega)).symm, (Below.refl _ _).alloc (Nat.le_refl _) _⟩
        · have hnx : ∀ ty, (Instr.next (.pointer (some ⟨w.heap.size, 0, none⟩)) true ty).run Tryd.prog (w.iter s k) = _ := fun ty => run_next_any w s k ty hlt
          have hd := (decode_high s k hlt (by omega)).1
          have h0b : (((Utf8.decode s k).1 : Int) != 48) = true := by simp; omega
          have h1b : (((Utf8.decode s k).1 : Int) != 49) = true := by simp; omega
          go_wp2
          go_ret
          exact ⟨ret_bool (HB.out (by omega)).symm, (Below.refl _ _).alloc (Nat.le_refl _) _⟩
      · have hnx : ∀ ty, (Instr.next (.pointer (some ⟨w.heap.size, 0, none⟩)) true ty).run Tryd.prog (w.iter s k) = _ := fun ty => run_next_end w s k ty hlt
        have HE := Lib.hid (wave_end s k (by omega) HA.out)
        go_wp2
        go_ret
        exact ⟨ret_bool (by rw [HE.out]; simp; omega), (Below.refl _ _).alloc (Nat.le_refl _) _⟩
  · go_enter Tryd.func48, Tryd.ntmps48
    go_wp2
    go_ret
    exact ⟨ret_bool (wave_long s (by omega)).symm, Below.refl _ _⟩
end Go.Proofs.YtemjohkieehojaaDoor
