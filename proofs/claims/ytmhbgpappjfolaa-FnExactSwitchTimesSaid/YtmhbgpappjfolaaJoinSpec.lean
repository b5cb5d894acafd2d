/- Levels that two waves make, on the side of the model. -/
import Derived.Test.YtmhbgpappjfolaaNotSpec
namespace Go.Proofs.Ytmhbgpappjfolaa
open Go.RowKit

/-- do two levels, on or off, make the level 1? -/
def joinZ (op : Int) (x y : Bool) : Bool := if op = 0 then x && y else if op = 1 then x || y else if op = 2 then x != y else x && !y
def onB (b : UInt8) : Bool := (b.toNat : Int) == 49
def joinB (op : Int) (a b : UInt8) : UInt8 := if joinZ op (onB a) (onB b) then 49 else 48
def joinL (op : Int) (a b : List UInt8) : List UInt8 := List.zipWith (joinB op) a b
theorem joinL_snoc (op : Int) (a b : ByteArray) (k : Nat) (h : k < a.size) (h2 : k < b.size) : joinL op (a.data.toList.take (k + 1)) (b.data.toList.take (k + 1)) = joinL op (a.data.toList.take k) (b.data.toList.take k) ++ [joinB op a[k] b[k]] := by
  rw [take_snoc a k h, take_snoc b k h2]
  unfold joinL
  rw [List.zipWith_append (by simp; omega)]
  rfl
theorem joinL_len (op : Int) (a b : ByteArray) (k : Nat) (h : k ≤ a.size) (h2 : k ≤ b.size) : (joinL op (a.data.toList.take k) (b.data.toList.take k)).length = k := by simp [joinL]; omega

set_option maxHeartbeats 2000000 in
set_option maxRecDepth 100000 in
theorem specJoin_0 (a b : ByteArray) (w : World) (hab : a.size ≤ b.size) (hs2 : b.size ≤ 1048576) :
    Calls Try.prog 50 #[.int .i64 0, .string a, .string b] w fun e w' => e = .returned (.string ⟨(joinL 0 (a.data.toList.take a.size) (b.data.toList.take a.size)).toArray⟩) ∧ Below w.heap.size w w' := by
  obtain ⟨i0, hi, hz0, hz1, hz2⟩ := info_parts info_u8
  go_enter Try.func50, Try.ntmps50
  go_wp2
  go_loopw [7, 8, 9, 10, 11, 12] (fun v i _ _ _ _ wr => ∃ k : Nat, k ≤ a.size ∧ i = .int .i64 k ∧ Buf wr w.heap.size v (joinL 0 (a.data.toList.take k) (b.data.toList.take k)) ∧ Below w.heap.size w wr) (fun _ i _ _ _ _ _ => a.size - (intOf i).toNat)
  case atStart => exact ⟨0, Nat.zero_le _, rfl, Buf.lit w, (Below.refl _ _).alloc (Nat.le_refl _) _⟩
  case round =>
    obtain ⟨k, hk, rfl, hbuf, hB⟩ := hrel
    by_cases hlt : k < a.size
    · have hlt2 : k < b.size := by omega
      have hS := joinL_snoc 0 a b k hlt hlt2
      have HL := Lib.hid (joinL_len 0 a b k hk (by omega))
      have HB := Lib.hid hbuf
      clear hbuf
      have hsz := hB.size
      by_cases hxy : ((a[k].toNat : Int) == 49) = true ∧ ((b[k].toNat : Int) == 49) = true
      · obtain ⟨hx, hy⟩ := hxy
        have HS : Hid (joinL 0 (a.data.toList.take (k + 1)) (b.data.toList.take (k + 1)) = joinL 0 (a.data.toList.take k) (b.data.toList.take k) ++ [(49 : UInt8)]) := by
          have hc : joinB 0 a[k] b[k] = 49 := by simp [joinB, joinZ, onB, hx, hy]
          rw [hc] at hS; exact hS
        clear hS
        go_wp2_with (at_builtin; refine wpList_append_own _ rfl _ _ 25 rfl w.heap.size 5 i0 (.int .u8 0) 1 1 Try.underlying25 hi hz0 hz1 hz2 rfl (by decide) _ _ _ rfl (HB.out.alloc _) ⟨wr.heap.size, 0, none⟩ 1 1 [.int .u8 ((49 : UInt8).toNat : Int)] rfl rfl ?c1 ?c2 ?c3 ?c4 ?c5 ?_)
        case c1 => exact cell_one_new _ _ _
        case c2 => simp [Value.oneCell']
        case c3 => rw [HL.out]; unfold maxLen; omega
        case c4 => rw [HL.out]; omega
        case c5 => simp; omega
        intro v' w1 hown' hgrow _
        have HO := Lib.hid (Buf.snoc (b := 49) hown')
        have HW := Lib.hid (Buf.below hB HB.out _ hgrow)
        clear hown' hgrow
        go_wp2
        go_roundw
        case rel => exact ⟨k + 1, by omega, by go_num, by rw [HS.out]; exact HO.out, HW.out⟩
        case measure => simp [intOf]; omega
      by_cases hxy : ((a[k].toNat : Int) == 49) = true ∧ ((b[k].toNat : Int) == 49) = false
      · obtain ⟨hx, hy⟩ := hxy
        have HS : Hid (joinL 0 (a.data.toList.take (k + 1)) (b.data.toList.take (k + 1)) = joinL 0 (a.data.toList.take k) (b.data.toList.take k) ++ [(48 : UInt8)]) := by
          have hc : joinB 0 a[k] b[k] = 48 := by simp [joinB, joinZ, onB, hx, hy]
          rw [hc] at hS; exact hS
        clear hS
        go_wp2_with (at_builtin; refine wpList_append_own _ rfl _ _ 25 rfl w.heap.size 5 i0 (.int .u8 0) 1 1 Try.underlying25 hi hz0 hz1 hz2 rfl (by decide) _ _ _ rfl (HB.out.alloc _) ⟨wr.heap.size, 0, none⟩ 1 1 [.int .u8 ((48 : UInt8).toNat : Int)] rfl rfl ?c1 ?c2 ?c3 ?c4 ?c5 ?_)
        case c1 => exact cell_one_new _ _ _
        case c2 => simp [Value.oneCell']
        case c3 => rw [HL.out]; unfold maxLen; omega
        case c4 => rw [HL.out]; omega
        case c5 => simp; omega
        intro v' w1 hown' hgrow _
        have HO := Lib.hid (Buf.snoc (b := 48) hown')
        have HW := Lib.hid (Buf.below hB HB.out _ hgrow)
        clear hown' hgrow
        go_wp2
        go_roundw
        case rel => exact ⟨k + 1, by omega, by go_num, by rw [HS.out]; exact HO.out, HW.out⟩
        case measure => simp [intOf]; omega
      by_cases hxy : ((a[k].toNat : Int) == 49) = false ∧ ((b[k].toNat : Int) == 49) = true
      · obtain ⟨hx, hy⟩ := hxy
        have HS : Hid (joinL 0 (a.data.toList.take (k + 1)) (b.data.toList.take (k + 1)) = joinL 0 (a.data.toList.take k) (b.data.toList.take k) ++ [(48 : UInt8)]) := by
          have hc : joinB 0 a[k] b[k] = 48 := by simp [joinB, joinZ, onB, hx, hy]
          rw [hc] at hS; exact hS
        clear hS
        go_wp2_with (at_builtin; refine wpList_append_own _ rfl _ _ 25 rfl w.heap.size 5 i0 (.int .u8 0) 1 1 Try.underlying25 hi hz0 hz1 hz2 rfl (by decide) _ _ _ rfl (HB.out.alloc _) ⟨wr.heap.size, 0, none⟩ 1 1 [.int .u8 ((48 : UInt8).toNat : Int)] rfl rfl ?c1 ?c2 ?c3 ?c4 ?c5 ?_)
        case c1 => exact cell_one_new _ _ _
        case c2 => simp [Value.oneCell']
        case c3 => rw [HL.out]; unfold maxLen; omega
        case c4 => rw [HL.out]; omega
        case c5 => simp; omega
        intro v' w1 hown' hgrow _
        have HO := Lib.hid (Buf.snoc (b := 48) hown')
        have HW := Lib.hid (Buf.below hB HB.out _ hgrow)
        clear hown' hgrow
        go_wp2
        go_roundw
        case rel => exact ⟨k + 1, by omega, by go_num, by rw [HS.out]; exact HO.out, HW.out⟩
        case measure => simp [intOf]; omega
      by_cases hxy : ((a[k].toNat : Int) == 49) = false ∧ ((b[k].toNat : Int) == 49) = false
      · obtain ⟨hx, hy⟩ := hxy
        have HS : Hid (joinL 0 (a.data.toList.take (k + 1)) (b.data.toList.take (k + 1)) = joinL 0 (a.data.toList.take k) (b.data.toList.take k) ++ [(48 : UInt8)]) := by
          have hc : joinB 0 a[k] b[k] = 48 := by simp [joinB, joinZ, onB, hx, hy]
          rw [hc] at hS; exact hS
        clear hS
        go_wp2_with (at_builtin; refine wpList_append_own _ rfl _ _ 25 rfl w.heap.size 5 i0 (.int .u8 0) 1 1 Try.underlying25 hi hz0 hz1 hz2 rfl (by decide) _ _ _ rfl (HB.out.alloc _) ⟨wr.heap.size, 0, none⟩ 1 1 [.int .u8 ((48 : UInt8).toNat : Int)] rfl rfl ?c1 ?c2 ?c3 ?c4 ?c5 ?_)
        case c1 => exact cell_one_new _ _ _
        case c2 => simp [Value.oneCell']
        case c3 => rw [HL.out]; unfold maxLen; omega
        case c4 => rw [HL.out]; omega
        case c5 => simp; omega
        intro v' w1 hown' hgrow _
        have HO := Lib.hid (Buf.snoc (b := 48) hown')
        have HW := Lib.hid (Buf.below hB HB.out _ hgrow)
        clear hown' hgrow
        go_wp2
        go_roundw
        case rel => exact ⟨k + 1, by omega, by go_num, by rw [HS.out]; exact HO.out, HW.out⟩
        case measure => simp [intOf]; omega
      exfalso
      rename_i h1 h2 h3
      cases hx : ((a[k].toNat : Int) == 49) <;> cases hy : ((b[k].toNat : Int) == 49) <;> simp_all
    · obtain rfl : k = a.size := by omega
      have hconv := run_buf_string _ _ _ _ hbuf
      have HB := Lib.hid hbuf
      clear hbuf
      go_wp2
      go_ret
      exact ⟨rfl, hB⟩
set_option maxHeartbeats 2000000 in
set_option maxRecDepth 100000 in
theorem specJoin_1 (a b : ByteArray) (w : World) (hab : a.size ≤ b.size) (hs2 : b.size ≤ 1048576) :
    Calls Try.prog 50 #[.int .i64 1, .string a, .string b] w fun e w' => e = .returned (.string ⟨(joinL 1 (a.data.toList.take a.size) (b.data.toList.take a.size)).toArray⟩) ∧ Below w.heap.size w w' := by
  obtain ⟨i0, hi, hz0, hz1, hz2⟩ := info_parts info_u8
  go_enter Try.func50, Try.ntmps50
  go_wp2
  go_loopw [7, 8, 9, 10, 11, 12] (fun v i _ _ _ _ wr => ∃ k : Nat, k ≤ a.size ∧ i = .int .i64 k ∧ Buf wr w.heap.size v (joinL 1 (a.data.toList.take k) (b.data.toList.take k)) ∧ Below w.heap.size w wr) (fun _ i _ _ _ _ _ => a.size - (intOf i).toNat)
  case atStart => exact ⟨0, Nat.zero_le _, rfl, Buf.lit w, (Below.refl _ _).alloc (Nat.le_refl _) _⟩
  case round =>
    obtain ⟨k, hk, rfl, hbuf, hB⟩ := hrel
    by_cases hlt : k < a.size
    · have hlt2 : k < b.size := by omega
      have hS := joinL_snoc 1 a b k hlt hlt2
      have HL := Lib.hid (joinL_len 1 a b k hk (by omega))
      have HB := Lib.hid hbuf
      clear hbuf
      have hsz := hB.size
      by_cases hxy : ((a[k].toNat : Int) == 49) = true ∧ ((b[k].toNat : Int) == 49) = true
      · obtain ⟨hx, hy⟩ := hxy
        have HS : Hid (joinL 1 (a.data.toList.take (k + 1)) (b.data.toList.take (k + 1)) = joinL 1 (a.data.toList.take k) (b.data.toList.take k) ++ [(49 : UInt8)]) := by
          have hc : joinB 1 a[k] b[k] = 49 := by simp [joinB, joinZ, onB, hx, hy]
          rw [hc] at hS; exact hS
        clear hS
        go_wp2_with (at_builtin; refine wpList_append_own _ rfl _ _ 25 rfl w.heap.size 5 i0 (.int .u8 0) 1 1 Try.underlying25 hi hz0 hz1 hz2 rfl (by decide) _ _ _ rfl (HB.out.alloc _) ⟨wr.heap.size, 0, none⟩ 1 1 [.int .u8 ((49 : UInt8).toNat : Int)] rfl rfl ?c1 ?c2 ?c3 ?c4 ?c5 ?_)
        case c1 => exact cell_one_new _ _ _
        case c2 => simp [Value.oneCell']
        case c3 => rw [HL.out]; unfold maxLen; omega
        case c4 => rw [HL.out]; omega
        case c5 => simp; omega
        intro v' w1 hown' hgrow _
        have HO := Lib.hid (Buf.snoc (b := 49) hown')
        have HW := Lib.hid (Buf.below hB HB.out _ hgrow)
        clear hown' hgrow
        go_wp2
        go_roundw
        case rel => exact ⟨k + 1, by omega, by go_num, by rw [HS.out]; exact HO.out, HW.out⟩
        case measure => simp [intOf]; omega
      by_cases hxy : ((a[k].toNat : Int) == 49) = true ∧ ((b[k].toNat : Int) == 49) = false
      · obtain ⟨hx, hy⟩ := hxy
        have HS : Hid (joinL 1 (a.data.toList.take (k + 1)) (b.data.toList.take (k + 1)) = joinL 1 (a.data.toList.take k) (b.data.toList.take k) ++ [(49 : UInt8)]) := by
          have hc : joinB 1 a[k] b[k] = 49 := by simp [joinB, joinZ, onB, hx, hy]
          rw [hc] at hS; exact hS
        clear hS
        go_wp2_with (at_builtin; refine wpList_append_own _ rfl _ _ 25 rfl w.heap.size 5 i0 (.int .u8 0) 1 1 Try.underlying25 hi hz0 hz1 hz2 rfl (by decide) _ _ _ rfl (HB.out.alloc _) ⟨wr.heap.size, 0, none⟩ 1 1 [.int .u8 ((49 : UInt8).toNat : Int)] rfl rfl ?c1 ?c2 ?c3 ?c4 ?c5 ?_)
        case c1 => exact cell_one_new _ _ _
        case c2 => simp [Value.oneCell']
        case c3 => rw [HL.out]; unfold maxLen; omega
        case c4 => rw [HL.out]; omega
        case c5 => simp; omega
        intro v' w1 hown' hgrow _
        have HO := Lib.hid (Buf.snoc (b := 49) hown')
        have HW := Lib.hid (Buf.below hB HB.out _ hgrow)
        clear hown' hgrow
        go_wp2
        go_roundw
        case rel => exact ⟨k + 1, by omega, by go_num, by rw [HS.out]; exact HO.out, HW.out⟩
        case measure => simp [intOf]; omega
      by_cases hxy : ((a[k].toNat : Int) == 49) = false ∧ ((b[k].toNat : Int) == 49) = true
      · obtain ⟨hx, hy⟩ := hxy
        have HS : Hid (joinL 1 (a.data.toList.take (k + 1)) (b.data.toList.take (k + 1)) = joinL 1 (a.data.toList.take k) (b.data.toList.take k) ++ [(49 : UInt8)]) := by
          have hc : joinB 1 a[k] b[k] = 49 := by simp [joinB, joinZ, onB, hx, hy]
          rw [hc] at hS; exact hS
        clear hS
        go_wp2_with (at_builtin; refine wpList_append_own _ rfl _ _ 25 rfl w.heap.size 5 i0 (.int .u8 0) 1 1 Try.underlying25 hi hz0 hz1 hz2 rfl (by decide) _ _ _ rfl (HB.out.alloc _) ⟨wr.heap.size, 0, none⟩ 1 1 [.int .u8 ((49 : UInt8).toNat : Int)] rfl rfl ?c1 ?c2 ?c3 ?c4 ?c5 ?_)
        case c1 => exact cell_one_new _ _ _
        case c2 => simp [Value.oneCell']
        case c3 => rw [HL.out]; unfold maxLen; omega
        case c4 => rw [HL.out]; omega
        case c5 => simp; omega
        intro v' w1 hown' hgrow _
        have HO := Lib.hid (Buf.snoc (b := 49) hown')
        have HW := Lib.hid (Buf.below hB HB.out _ hgrow)
        clear hown' hgrow
        go_wp2
        go_roundw
        case rel => exact ⟨k + 1, by omega, by go_num, by rw [HS.out]; exact HO.out, HW.out⟩
        case measure => simp [intOf]; omega
      by_cases hxy : ((a[k].toNat : Int) == 49) = false ∧ ((b[k].toNat : Int) == 49) = false
      · obtain ⟨hx, hy⟩ := hxy
        have HS : Hid (joinL 1 (a.data.toList.take (k + 1)) (b.data.toList.take (k + 1)) = joinL 1 (a.data.toList.take k) (b.data.toList.take k) ++ [(48 : UInt8)]) := by
          have hc : joinB 1 a[k] b[k] = 48 := by simp [joinB, joinZ, onB, hx, hy]
          rw [hc] at hS; exact hS
        clear hS
        go_wp2_with (at_builtin; refine wpList_append_own _ rfl _ _ 25 rfl w.heap.size 5 i0 (.int .u8 0) 1 1 Try.underlying25 hi hz0 hz1 hz2 rfl (by decide) _ _ _ rfl (HB.out.alloc _) ⟨wr.heap.size, 0, none⟩ 1 1 [.int .u8 ((48 : UInt8).toNat : Int)] rfl rfl ?c1 ?c2 ?c3 ?c4 ?c5 ?_)
        case c1 => exact cell_one_new _ _ _
        case c2 => simp [Value.oneCell']
        case c3 => rw [HL.out]; unfold maxLen; omega
        case c4 => rw [HL.out]; omega
        case c5 => simp; omega
        intro v' w1 hown' hgrow _
        have HO := Lib.hid (Buf.snoc (b := 48) hown')
        have HW := Lib.hid (Buf.below hB HB.out _ hgrow)
        clear hown' hgrow
        go_wp2
        go_roundw
        case rel => exact ⟨k + 1, by omega, by go_num, by rw [HS.out]; exact HO.out, HW.out⟩
        case measure => simp [intOf]; omega
      exfalso
      rename_i h1 h2 h3
      cases hx : ((a[k].toNat : Int) == 49) <;> cases hy : ((b[k].toNat : Int) == 49) <;> simp_all
    · obtain rfl : k = a.size := by omega
      have hconv := run_buf_string _ _ _ _ hbuf
      have HB := Lib.hid hbuf
      clear hbuf
      go_wp2
      go_ret
      exact ⟨rfl, hB⟩
set_option maxHeartbeats 2000000 in
set_option maxRecDepth 100000 in
theorem specJoin_2 (a b : ByteArray) (w : World) (hab : a.size ≤ b.size) (hs2 : b.size ≤ 1048576) :
    Calls Try.prog 50 #[.int .i64 2, .string a, .string b] w fun e w' => e = .returned (.string ⟨(joinL 2 (a.data.toList.take a.size) (b.data.toList.take a.size)).toArray⟩) ∧ Below w.heap.size w w' := by
  obtain ⟨i0, hi, hz0, hz1, hz2⟩ := info_parts info_u8
  go_enter Try.func50, Try.ntmps50
  go_wp2
  go_loopw [7, 8, 9, 10, 11, 12] (fun v i _ _ _ _ wr => ∃ k : Nat, k ≤ a.size ∧ i = .int .i64 k ∧ Buf wr w.heap.size v (joinL 2 (a.data.toList.take k) (b.data.toList.take k)) ∧ Below w.heap.size w wr) (fun _ i _ _ _ _ _ => a.size - (intOf i).toNat)
  case atStart => exact ⟨0, Nat.zero_le _, rfl, Buf.lit w, (Below.refl _ _).alloc (Nat.le_refl _) _⟩
  case round =>
    obtain ⟨k, hk, rfl, hbuf, hB⟩ := hrel
    by_cases hlt : k < a.size
    · have hlt2 : k < b.size := by omega
      have hS := joinL_snoc 2 a b k hlt hlt2
      have HL := Lib.hid (joinL_len 2 a b k hk (by omega))
      have HB := Lib.hid hbuf
      clear hbuf
      have hsz := hB.size
      by_cases hxy : ((a[k].toNat : Int) == 49) = true ∧ ((b[k].toNat : Int) == 49) = true
      · obtain ⟨hx, hy⟩ := hxy
        have HS : Hid (joinL 2 (a.data.toList.take (k + 1)) (b.data.toList.take (k + 1)) = joinL 2 (a.data.toList.take k) (b.data.toList.take k) ++ [(48 : UInt8)]) := by
          have hc : joinB 2 a[k] b[k] = 48 := by simp [joinB, joinZ, onB, hx, hy]
          rw [hc] at hS; exact hS
        clear hS
        go_wp2_with (at_builtin; refine wpList_append_own _ rfl _ _ 25 rfl w.heap.size 5 i0 (.int .u8 0) 1 1 Try.underlying25 hi hz0 hz1 hz2 rfl (by decide) _ _ _ rfl (HB.out.alloc _) ⟨wr.heap.size, 0, none⟩ 1 1 [.int .u8 ((48 : UInt8).toNat : Int)] rfl rfl ?c1 ?c2 ?c3 ?c4 ?c5 ?_)
        case c1 => exact cell_one_new _ _ _
        case c2 => simp [Value.oneCell']
        case c3 => rw [HL.out]; unfold maxLen; omega
        case c4 => rw [HL.out]; omega
        case c5 => simp; omega
        intro v' w1 hown' hgrow _
        have HO := Lib.hid (Buf.snoc (b := 48) hown')
        have HW := Lib.hid (Buf.below hB HB.out _ hgrow)
        clear hown' hgrow
        go_wp2
        go_roundw
        case rel => exact ⟨k + 1, by omega, by go_num, by rw [HS.out]; exact HO.out, HW.out⟩
        case measure => simp [intOf]; omega
      by_cases hxy : ((a[k].toNat : Int) == 49) = true ∧ ((b[k].toNat : Int) == 49) = false
      · obtain ⟨hx, hy⟩ := hxy
        have HS : Hid (joinL 2 (a.data.toList.take (k + 1)) (b.data.toList.take (k + 1)) = joinL 2 (a.data.toList.take k) (b.data.toList.take k) ++ [(49 : UInt8)]) := by
          have hc : joinB 2 a[k] b[k] = 49 := by simp [joinB, joinZ, onB, hx, hy]
          rw [hc] at hS; exact hS
        clear hS
        go_wp2_with (at_builtin; refine wpList_append_own _ rfl _ _ 25 rfl w.heap.size 5 i0 (.int .u8 0) 1 1 Try.underlying25 hi hz0 hz1 hz2 rfl (by decide) _ _ _ rfl (HB.out.alloc _) ⟨wr.heap.size, 0, none⟩ 1 1 [.int .u8 ((49 : UInt8).toNat : Int)] rfl rfl ?c1 ?c2 ?c3 ?c4 ?c5 ?_)
        case c1 => exact cell_one_new _ _ _
        case c2 => simp [Value.oneCell']
        case c3 => rw [HL.out]; unfold maxLen; omega
        case c4 => rw [HL.out]; omega
        case c5 => simp; omega
        intro v' w1 hown' hgrow _
        have HO := Lib.hid (Buf.snoc (b := 49) hown')
        have HW := Lib.hid (Buf.below hB HB.out _ hgrow)
        clear hown' hgrow
        go_wp2
        go_roundw
        case rel => exact ⟨k + 1, by omega, by go_num, by rw [HS.out]; exact HO.out, HW.out⟩
        case measure => simp [intOf]; omega
      by_cases hxy : ((a[k].toNat : Int) == 49) = false ∧ ((b[k].toNat : Int) == 49) = true
      · obtain ⟨hx, hy⟩ := hxy
        have HS : Hid (joinL 2 (a.data.toList.take (k + 1)) (b.data.toList.take (k + 1)) = joinL 2 (a.data.toList.take k) (b.data.toList.take k) ++ [(49 : UInt8)]) := by
          have hc : joinB 2 a[k] b[k] = 49 := by simp [joinB, joinZ, onB, hx, hy]
          rw [hc] at hS; exact hS
        clear hS
        go_wp2_with (at_builtin; refine wpList_append_own _ rfl _ _ 25 rfl w.heap.size 5 i0 (.int .u8 0) 1 1 Try.underlying25 hi hz0 hz1 hz2 rfl (by decide) _ _ _ rfl (HB.out.alloc _) ⟨wr.heap.size, 0, none⟩ 1 1 [.int .u8 ((49 : UInt8).toNat : Int)] rfl rfl ?c1 ?c2 ?c3 ?c4 ?c5 ?_)
        case c1 => exact cell_one_new _ _ _
        case c2 => simp [Value.oneCell']
        case c3 => rw [HL.out]; unfold maxLen; omega
        case c4 => rw [HL.out]; omega
        case c5 => simp; omega
        intro v' w1 hown' hgrow _
        have HO := Lib.hid (Buf.snoc (b := 49) hown')
        have HW := Lib.hid (Buf.below hB HB.out _ hgrow)
        clear hown' hgrow
        go_wp2
        go_roundw
        case rel => exact ⟨k + 1, by omega, by go_num, by rw [HS.out]; exact HO.out, HW.out⟩
        case measure => simp [intOf]; omega
      by_cases hxy : ((a[k].toNat : Int) == 49) = false ∧ ((b[k].toNat : Int) == 49) = false
      · obtain ⟨hx, hy⟩ := hxy
        have HS : Hid (joinL 2 (a.data.toList.take (k + 1)) (b.data.toList.take (k + 1)) = joinL 2 (a.data.toList.take k) (b.data.toList.take k) ++ [(48 : UInt8)]) := by
          have hc : joinB 2 a[k] b[k] = 48 := by simp [joinB, joinZ, onB, hx, hy]
          rw [hc] at hS; exact hS
        clear hS
        go_wp2_with (at_builtin; refine wpList_append_own _ rfl _ _ 25 rfl w.heap.size 5 i0 (.int .u8 0) 1 1 Try.underlying25 hi hz0 hz1 hz2 rfl (by decide) _ _ _ rfl (HB.out.alloc _) ⟨wr.heap.size, 0, none⟩ 1 1 [.int .u8 ((48 : UInt8).toNat : Int)] rfl rfl ?c1 ?c2 ?c3 ?c4 ?c5 ?_)
        case c1 => exact cell_one_new _ _ _
        case c2 => simp [Value.oneCell']
        case c3 => rw [HL.out]; unfold maxLen; omega
        case c4 => rw [HL.out]; omega
        case c5 => simp; omega
        intro v' w1 hown' hgrow _
        have HO := Lib.hid (Buf.snoc (b := 48) hown')
        have HW := Lib.hid (Buf.below hB HB.out _ hgrow)
        clear hown' hgrow
        go_wp2
        go_roundw
        case rel => exact ⟨k + 1, by omega, by go_num, by rw [HS.out]; exact HO.out, HW.out⟩
        case measure => simp [intOf]; omega
      exfalso
      rename_i h1 h2 h3
      cases hx : ((a[k].toNat : Int) == 49) <;> cases hy : ((b[k].toNat : Int) == 49) <;> simp_all
    · obtain rfl : k = a.size := by omega
      have hconv := run_buf_string _ _ _ _ hbuf
      have HB := Lib.hid hbuf
      clear hbuf
      go_wp2
      go_ret
      exact ⟨rfl, hB⟩
set_option maxHeartbeats 2000000 in
set_option maxRecDepth 100000 in
theorem specJoin_3 (a b : ByteArray) (w : World) (hab : a.size ≤ b.size) (hs2 : b.size ≤ 1048576) :
    Calls Try.prog 50 #[.int .i64 3, .string a, .string b] w fun e w' => e = .returned (.string ⟨(joinL 3 (a.data.toList.take a.size) (b.data.toList.take a.size)).toArray⟩) ∧ Below w.heap.size w w' := by
  obtain ⟨i0, hi, hz0, hz1, hz2⟩ := info_parts info_u8
  go_enter Try.func50, Try.ntmps50
  go_wp2
  go_loopw [7, 8, 9, 10, 11, 12] (fun v i _ _ _ _ wr => ∃ k : Nat, k ≤ a.size ∧ i = .int .i64 k ∧ Buf wr w.heap.size v (joinL 3 (a.data.toList.take k) (b.data.toList.take k)) ∧ Below w.heap.size w wr) (fun _ i _ _ _ _ _ => a.size - (intOf i).toNat)
  case atStart => exact ⟨0, Nat.zero_le _, rfl, Buf.lit w, (Below.refl _ _).alloc (Nat.le_refl _) _⟩
  case round =>
    obtain ⟨k, hk, rfl, hbuf, hB⟩ := hrel
    by_cases hlt : k < a.size
    · have hlt2 : k < b.size := by omega
      have hS := joinL_snoc 3 a b k hlt hlt2
      have HL := Lib.hid (joinL_len 3 a b k hk (by omega))
      have HB := Lib.hid hbuf
      clear hbuf
      have hsz := hB.size
      by_cases hxy : ((a[k].toNat : Int) == 49) = true ∧ ((b[k].toNat : Int) == 49) = true
      · obtain ⟨hx, hy⟩ := hxy
        have HS : Hid (joinL 3 (a.data.toList.take (k + 1)) (b.data.toList.take (k + 1)) = joinL 3 (a.data.toList.take k) (b.data.toList.take k) ++ [(48 : UInt8)]) := by
          have hc : joinB 3 a[k] b[k] = 48 := by simp [joinB, joinZ, onB, hx, hy]
          rw [hc] at hS; exact hS
        clear hS
        go_wp2_with (at_builtin; refine wpList_append_own _ rfl _ _ 25 rfl w.heap.size 5 i0 (.int .u8 0) 1 1 Try.underlying25 hi hz0 hz1 hz2 rfl (by decide) _ _ _ rfl (HB.out.alloc _) ⟨wr.heap.size, 0, none⟩ 1 1 [.int .u8 ((48 : UInt8).toNat : Int)] rfl rfl ?c1 ?c2 ?c3 ?c4 ?c5 ?_)
        case c1 => exact cell_one_new _ _ _
        case c2 => simp [Value.oneCell']
        case c3 => rw [HL.out]; unfold maxLen; omega
        case c4 => rw [HL.out]; omega
        case c5 => simp; omega
        intro v' w1 hown' hgrow _
        have HO := Lib.hid (Buf.snoc (b := 48) hown')
        have HW := Lib.hid (Buf.below hB HB.out _ hgrow)
        clear hown' hgrow
        go_wp2
        go_roundw
        case rel => exact ⟨k + 1, by omega, by go_num, by rw [HS.out]; exact HO.out, HW.out⟩
        case measure => simp [intOf]; omega
      by_cases hxy : ((a[k].toNat : Int) == 49) = true ∧ ((b[k].toNat : Int) == 49) = false
      · obtain ⟨hx, hy⟩ := hxy
        have HS : Hid (joinL 3 (a.data.toList.take (k + 1)) (b.data.toList.take (k + 1)) = joinL 3 (a.data.toList.take k) (b.data.toList.take k) ++ [(49 : UInt8)]) := by
          have hc : joinB 3 a[k] b[k] = 49 := by simp [joinB, joinZ, onB, hx, hy]
          rw [hc] at hS; exact hS
        clear hS
        go_wp2_with (at_builtin; refine wpList_append_own _ rfl _ _ 25 rfl w.heap.size 5 i0 (.int .u8 0) 1 1 Try.underlying25 hi hz0 hz1 hz2 rfl (by decide) _ _ _ rfl (HB.out.alloc _) ⟨wr.heap.size, 0, none⟩ 1 1 [.int .u8 ((49 : UInt8).toNat : Int)] rfl rfl ?c1 ?c2 ?c3 ?c4 ?c5 ?_)
        case c1 => exact cell_one_new _ _ _
        case c2 => simp [Value.oneCell']
        case c3 => rw [HL.out]; unfold maxLen; omega
        case c4 => rw [HL.out]; omega
        case c5 => simp; omega
        intro v' w1 hown' hgrow _
        have HO := Lib.hid (Buf.snoc (b := 49) hown')
        have HW := Lib.hid (Buf.below hB HB.out _ hgrow)
        clear hown' hgrow
        go_wp2
        go_roundw
        case rel => exact ⟨k + 1, by omega, by go_num, by rw [HS.out]; exact HO.out, HW.out⟩
        case measure => simp [intOf]; omega
      by_cases hxy : ((a[k].toNat : Int) == 49) = false ∧ ((b[k].toNat : Int) == 49) = true
      · obtain ⟨hx, hy⟩ := hxy
        have HS : Hid (joinL 3 (a.data.toList.take (k + 1)) (b.data.toList.take (k + 1)) = joinL 3 (a.data.toList.take k) (b.data.toList.take k) ++ [(48 : UInt8)]) := by
          have hc : joinB 3 a[k] b[k] = 48 := by simp [joinB, joinZ, onB, hx, hy]
          rw [hc] at hS; exact hS
        clear hS
        go_wp2_with (at_builtin; refine wpList_append_own _ rfl _ _ 25 rfl w.heap.size 5 i0 (.int .u8 0) 1 1 Try.underlying25 hi hz0 hz1 hz2 rfl (by decide) _ _ _ rfl (HB.out.alloc _) ⟨wr.heap.size, 0, none⟩ 1 1 [.int .u8 ((48 : UInt8).toNat : Int)] rfl rfl ?c1 ?c2 ?c3 ?c4 ?c5 ?_)
        case c1 => exact cell_one_new _ _ _
        case c2 => simp [Value.oneCell']
        case c3 => rw [HL.out]; unfold maxLen; omega
        case c4 => rw [HL.out]; omega
        case c5 => simp; omega
        intro v' w1 hown' hgrow _
        have HO := Lib.hid (Buf.snoc (b := 48) hown')
        have HW := Lib.hid (Buf.below hB HB.out _ hgrow)
        clear hown' hgrow
        go_wp2
        go_roundw
        case rel => exact ⟨k + 1, by omega, by go_num, by rw [HS.out]; exact HO.out, HW.out⟩
        case measure => simp [intOf]; omega
      by_cases hxy : ((a[k].toNat : Int) == 49) = false ∧ ((b[k].toNat : Int) == 49) = false
      · obtain ⟨hx, hy⟩ := hxy
        have HS : Hid (joinL 3 (a.data.toList.take (k + 1)) (b.data.toList.take (k + 1)) = joinL 3 (a.data.toList.take k) (b.data.toList.take k) ++ [(48 : UInt8)]) := by
          have hc : joinB 3 a[k] b[k] = 48 := by simp [joinB, joinZ, onB, hx, hy]
          rw [hc] at hS; exact hS
        clear hS
        go_wp2_with (at_builtin; refine wpList_append_own _ rfl _ _ 25 rfl w.heap.size 5 i0 (.int .u8 0) 1 1 Try.underlying25 hi hz0 hz1 hz2 rfl (by decide) _ _ _ rfl (HB.out.alloc _) ⟨wr.heap.size, 0, none⟩ 1 1 [.int .u8 ((48 : UInt8).toNat : Int)] rfl rfl ?c1 ?c2 ?c3 ?c4 ?c5 ?_)
        case c1 => exact cell_one_new _ _ _
        case c2 => simp [Value.oneCell']
        case c3 => rw [HL.out]; unfold maxLen; omega
        case c4 => rw [HL.out]; omega
        case c5 => simp; omega
        intro v' w1 hown' hgrow _
        have HO := Lib.hid (Buf.snoc (b := 48) hown')
        have HW := Lib.hid (Buf.below hB HB.out _ hgrow)
        clear hown' hgrow
        go_wp2
        go_roundw
        case rel => exact ⟨k + 1, by omega, by go_num, by rw [HS.out]; exact HO.out, HW.out⟩
        case measure => simp [intOf]; omega
      exfalso
      rename_i h1 h2 h3
      cases hx : ((a[k].toNat : Int) == 49) <;> cases hy : ((b[k].toNat : Int) == 49) <;> simp_all
    · obtain rfl : k = a.size := by omega
      have hconv := run_buf_string _ _ _ _ hbuf
      have HB := Lib.hid hbuf
      clear hbuf
      go_wp2
      go_ret
      exact ⟨rfl, hB⟩
theorem specJoin (op : Int) (a b : ByteArray) (w : World) (h0 : 0 ≤ op) (h3 : op ≤ 3) (hab : a.size ≤ b.size) (hs2 : b.size ≤ 1048576) :
    Calls Try.prog 50 #[.int .i64 op, .string a, .string b] w fun e w' => e = .returned (.string ⟨(joinL op (a.data.toList.take a.size) (b.data.toList.take a.size)).toArray⟩) ∧ Below w.heap.size w w' := by
  rcases (show op = 0 ∨ op = 1 ∨ op = 2 ∨ op = 3 by omega) with rfl | rfl | rfl | rfl
  · exact specJoin_0 a b w hab hs2
  · exact specJoin_1 a b w hab hs2
  · exact specJoin_2 a b w hab hs2
  · exact specJoin_3 a b w hab hs2
end Go.Proofs.Ytmhbgpappjfolaa
