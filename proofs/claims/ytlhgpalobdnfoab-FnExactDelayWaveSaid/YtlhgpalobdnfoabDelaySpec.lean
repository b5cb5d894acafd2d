/- A wave that comes later, on the side of the model. -/
import Derived.Test.YtlhgpalobdnfoabNotSpec
namespace Go.Proofs.Ytlhgpalobdnfoab
open Go.RowKit

def delL (t : Nat) (l : List UInt8) (k : Nat) : List UInt8 := (List.range k).map (fun i => if i < t then 48 else l.getD (i - t) 0)
theorem delL_snoc (t : Nat) (l : List UInt8) (k : Nat) : delL t l (k + 1) = delL t l k ++ [if k < t then 48 else l.getD (k - t) 0] := by
  simp [delL, List.range_succ]
theorem delL_len (t : Nat) (l : List UInt8) (k : Nat) : (delL t l k).length = k := by simp [delL]

set_option maxRecDepth 100000 in
theorem specDelay (s : ByteArray) (t : Nat) (w : World) (hs2 : s.size ≤ 1048576) (ht : t ≤ 1000000) :
    Calls Try.prog 39 #[.string s, .int .i64 t] w fun e w' => e = .returned (.string ⟨(delL t s.data.toList s.size).toArray⟩) ∧ Below w.heap.size w w' := by
  obtain ⟨i0, hi, hz0, hz1, hz2⟩ := info_parts info_u8
  go_enter Try.func39, Try.ntmps39
  go_wp2
  go_loopw [5, 6, 7] (fun v i _ wr => ∃ k : Nat, k ≤ s.size ∧ i = .int .i64 k ∧ Buf wr w.heap.size v (delL t s.data.toList k) ∧ Below w.heap.size w wr) (fun _ i _ _ => s.size - (intOf i).toNat)
  case atStart => exact ⟨0, Nat.zero_le _, rfl, Buf.lit w, (Below.refl _ _).alloc (Nat.le_refl _) _⟩
  case round =>
    obtain ⟨k, hk, rfl, hbuf, hB⟩ := hrel
    by_cases hlt : k < s.size
    · have HL := Lib.hid (delL_len t s.data.toList k)
      have HB := Lib.hid hbuf
      clear hbuf
      have hsz := hB.size
      by_cases hkt : k < t
      · have HS : Hid (delL t s.data.toList (k + 1) = delL t s.data.toList k ++ [(48 : UInt8)]) := by rw [Hid, delL_snoc, if_pos hkt]
        have hge : decide ((t : Int) ≤ (k : Int)) = false := by simp; omega
        go_wp2_with (at_builtin; refine wpList_append_own _ rfl _ _ 53 rfl w.heap.size 5 i0 (.int .u8 0) 1 1 Try.underlying53 hi hz0 hz1 hz2 rfl (by decide) _ _ _ rfl (HB.out.alloc _) ⟨wr.heap.size, 0, none⟩ 1 1 [.int .u8 ((48 : UInt8).toNat : Int)] rfl rfl ?c1 ?c2 ?c3 ?c4 ?c5 ?_)
        case c1 => exact cell_one_new _ _ _
        case c2 => simp [Value.oneCell']
        case c3 => rw [HL.out]; unfold maxLen; omega
        case c4 => rw [HL.out]; omega
        case c5 => simp; omega
        intro v' w1 hown' hgrow _
        have HO := Lib.hid (Buf.snoc (b := 48) hown')
        have HW := Lib.hid (Buf.below hB HB.out _ hgrow)
        clear hown' hgrow
        go_wp2
        go_roundw
        case rel => exact ⟨k + 1, by omega, by go_num, by rw [HS.out]; exact HO.out, HW.out⟩
        case measure => simp [intOf]; omega
      · have hj : k - t < s.size := by omega
        have HS : Hid (delL t s.data.toList (k + 1) = delL t s.data.toList k ++ [s[k - t]]) := by
          rw [Hid, delL_snoc, if_neg hkt]
          rw [List.getD_eq_getElem?_getD, List.getElem?_eq_getElem (by simpa using hj)]
          rfl
        have hge : (t : Int) ≤ (k : Int) := by omega
        have hsub : ((k : Int) - (t : Int)).toNat = k - t := by omega
        go_wp2_with (at_builtin; refine wpList_append_own _ rfl _ _ 53 rfl w.heap.size 5 i0 (.int .u8 0) 1 1 Try.underlying53 hi hz0 hz1 hz2 rfl (by decide) _ _ _ rfl (HB.out.alloc _) ⟨wr.heap.size, 0, none⟩ 1 1 [.int .u8 ((s[k - t]).toNat : Int)] rfl rfl ?c1 ?c2 ?c3 ?c4 ?c5 ?_)
        case c1 => exact cell_one_new _ _ _
        case c2 => simp [Value.oneCell']
        case c3 => rw [HL.out]; unfold maxLen; omega
        case c4 => rw [HL.out]; omega
        case c5 => simp; omega
        intro v' w1 hown' hgrow _
        have HO := Lib.hid (Buf.snoc hown')
        have HW := Lib.hid (Buf.below hB HB.out _ hgrow)
        clear hown' hgrow
        go_wp2
        go_roundw
        case rel => exact ⟨k + 1, by omega, by go_num, by rw [HS.out]; exact HO.out, HW.out⟩
        case measure => simp [intOf]; omega
    · obtain rfl : k = s.size := by omega
      have hconv := run_buf_string _ _ _ _ hbuf
      have HB := Lib.hid hbuf
      clear hbuf
      go_wp2
      go_ret
      exact ⟨rfl, hB⟩
end Go.Proofs.Ytlhgpalobdnfoab
