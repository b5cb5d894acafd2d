/- The other levels, on the side of the model. -/
import Derived.Test.YtlhgpalobdnfoabBytes
namespace Go.Proofs.Ytlhgpalobdnfoab
open Go.RowKit

def notL (l : List UInt8) : List UInt8 := l.map (fun b => 97 - b)
theorem notL_snoc (s : ByteArray) (k : Nat) (h : k < s.size) : notL (s.data.toList.take (k + 1)) = notL (s.data.toList.take k) ++ [97 - s[k]] := by
  rw [take_snoc s k h]; simp [notL]
theorem notL_len (s : ByteArray) (k : Nat) (h : k ≤ s.size) : (notL (s.data.toList.take k)).length = k := by simp [notL]; omega
theorem byte_sub97 (b : UInt8) : (97 - (b.toNat : Int)) % 256 = ((97 - b : UInt8).toNat : Int) := by
  rw [UInt8.toNat_sub]
  have := b.toNat_lt
  simp
  omega

theorem specNot (s : ByteArray) (w : World) (hs : s.size ≤ maxLen) (hs2 : s.size ≤ 1048576) :
    Calls Try.prog 48 #[.string s] w fun e w' => e = .returned (.string ⟨(notL s.data.toList).toArray⟩) ∧ Below w.heap.size w w' := by
  unfold maxLen at hs
  obtain ⟨i0, hi, hz0, hz1, hz2⟩ := info_parts info_u8
  go_enter Try.func48, Try.ntmps48
  go_wp2
  go_loopw [3, 4] (fun v i wr => ∃ k : Nat, k ≤ s.size ∧ i = .int .i64 k ∧ Buf wr w.heap.size v (notL (s.data.toList.take k)) ∧ Below w.heap.size w wr) (fun _ i _ => s.size - (intOf i).toNat)
  case atStart => exact ⟨0, Nat.zero_le _, rfl, Buf.lit w, (Below.refl _ _).alloc (Nat.le_refl _) _⟩
  case round =>
    obtain ⟨k, hk, rfl, hbuf, hB⟩ := hrel
    by_cases hlt : k < s.size
    · have hby : (s[k].toNat : Int) ≤ 255 := by have := s[k].toNat_lt; omega
      have HS := Lib.hid (notL_snoc s k hlt)
      have HL := Lib.hid (notL_len s k hk)
      have HB := Lib.hid hbuf
      clear hbuf
      have hsz := hB.size
      have hE := byte_sub97 s[k]
      go_wp2_with (at_builtin; refine wpList_append_own _ rfl _ _ 53 rfl w.heap.size 5 i0 (.int .u8 0) 1 1 Try.underlying53 hi hz0 hz1 hz2 rfl (by decide) _ _ _ rfl (HB.out.alloc _) ⟨wr.heap.size, 0, none⟩ 1 1 [.int .u8 ((97 - s[k] : UInt8).toNat : Int)] rfl rfl ?c1 ?c2 ?c3 ?c4 ?c5 ?_)
      case c1 => exact cell_one_new _ _ _
      case c2 => simp [Value.oneCell']
      case c3 => rw [HL.out]; unfold maxLen; omega
      case c4 => rw [HL.out]; omega
      case c5 => simp; omega
      intro v' w1 hown' hgrow _
      have HO := Lib.hid (Buf.snoc hown')
      have HW := Lib.hid (Buf.below hB HB.out _ hgrow)
      clear hown' hgrow
      go_wp2
      go_roundw
      case rel => exact ⟨k + 1, by omega, by go_num, by rw [HS.out]; exact HO.out, HW.out⟩
      case measure => simp [intOf]; omega
    · have hconv := run_buf_string _ _ _ _ hbuf
      have HB := Lib.hid hbuf
      clear hbuf
      go_wp2
      go_ret
      exact ⟨by rw [take_all s k (by omega)]; rfl, hB⟩
end Go.Proofs.Ytlhgpalobdnfoab
