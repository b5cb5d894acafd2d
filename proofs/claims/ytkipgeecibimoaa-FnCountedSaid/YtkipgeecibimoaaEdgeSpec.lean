/- The ticks at which a wave changes to a level, on the side of the model. -/
import Derived.Test.YtkipgeecibimoaaEdgeWords
import Derived.Test.YtkipgeecibimoaaInts
namespace Go.Proofs.Ytkipgeecibimoaa
open Go.RowKit

theorem Ints.snoc {w1 : World} {B : Nat} {v : Value} {l : List Int} {x : Int} (h : w1.ownsRow B 2 1 v (l.length + 1) (l.map (Value.int .i64) ++ [.int .i64 x])) : Ints w1 B v (l ++ [x]) := by
  unfold Ints; rw [List.map_append, List.length_append]; exact h
theorem Ints.below {w wr w1 : World} {v : Value} {l : List Int} (hB : Below w.heap.size w wr) (hbuf : Ints wr w.heap.size v l) (o : Obj) (hg : (wr.alloc o).grownBy w1 v.ownBlock) : Below w.heap.size w w1 :=
  (hB.alloc hB.size o).grown hg (by have := hB.size; simp; omega) (fun k e => ((World.ownsRow.alloc hbuf o).lt k e).1)

set_option maxRecDepth 100000 in
theorem specEdges (to : Int) (s : ByteArray) (w : World) (hs2 : s.size ≤ 1048576) :
    Calls Try.prog 125 #[.string s, .int .u8 to] w fun e w' => ∃ v, e = .returned v ∧ Ints w' w.heap.size v (edgesL to s.data.toList s.size) ∧ Below w.heap.size w w' := by
  obtain ⟨i0, hi, hz0, hz1, hz2⟩ := info_parts info_i64
  go_enter Try.func125, Try.ntmps125
  go_wp2
  go_loopw [5, 6, 7] (fun v p i wr => ∃ k : Nat, k ≤ s.size ∧ i = .int .i64 k ∧ p = .int .u8 (prL s.data.toList k) ∧ Ints wr w.heap.size v (edgesL to s.data.toList k) ∧ Below w.heap.size w wr) (fun _ _ i _ => s.size - (intOf i).toNat)
  case atStart => exact ⟨0, Nat.zero_le _, rfl, rfl, Ints.lit w, (Below.refl _ _).alloc (Nat.le_refl _) _⟩
  case round =>
    obtain ⟨k, hk, rfl, rfl, hbuf, hB⟩ := hrel
    by_cases hlt : k < s.size
    · have hL := edgesL_len to s.data.toList k
      have HB := Lib.hid hbuf
      clear hbuf
      have hsz := hB.size
      have HP := Lib.hid (prL_succ s k hlt)
      by_cases h1 : (s[k].toNat : Int) = to
      · by_cases h2 : prL s.data.toList k = to
        · have HS := Lib.hid (edgesL_miss to s k hlt (Or.inr h2))
          have h1b : ((s[k].toNat : Int) == to) = true := by simp [h1]
          have h2b : (prL s.data.toList k != to) = false := by simp [h2]
          clear h1 h2
          go_wp2
          go_roundw
          case rel => exact ⟨k + 1, by omega, by go_num, by rw [HP.out], by rw [HS.out]; exact HB.out, hB⟩
          case measure => simp [intOf]; omega
        · have HS := Lib.hid (edgesL_hit to s k hlt h1 h2)
          have h1b : ((s[k].toNat : Int) == to) = true := by simp [h1]
          have h2b : (prL s.data.toList k != to) = true := by simp [h2]
          clear h1 h2
          go_wp2_with (at_builtin; refine wpList_append_own _ rfl _ _ 30 rfl w.heap.size 2 i0 (.int .i64 0) 1 8 Try.underlying30 hi hz0 hz1 hz2 rfl (by decide) _ _ _ rfl (HB.out.alloc _) ⟨wr.heap.size, 0, none⟩ 1 1 [.int .i64 (k : Int)] rfl rfl ?c1 ?c2 ?c3 ?c4 ?c5 ?_)
          case c1 => exact cell_one_new _ _ _
          case c2 => simp [Value.oneCell']
          case c3 => unfold maxLen; omega
          case c4 => omega
          case c5 => simp; omega
          intro v' w1 hown' hgrow _
          have HO := Lib.hid (Ints.snoc hown')
          have HW := Lib.hid (Ints.below hB HB.out _ hgrow)
          clear hown' hgrow
          go_wp2
          go_roundw
          case rel => exact ⟨k + 1, by omega, by go_num, by rw [HP.out], by rw [HS.out]; exact HO.out, HW.out⟩
          case measure => simp [intOf]; omega
      · have HS := Lib.hid (edgesL_miss to s k hlt (Or.inl h1))
        have h1b : ((s[k].toNat : Int) == to) = false := by simp [h1]
        clear h1
        go_wp2
        go_roundw
        case rel => exact ⟨k + 1, by omega, by go_num, by rw [HP.out], by rw [HS.out]; exact HB.out, hB⟩
        case measure => simp [intOf]; omega
    · obtain rfl : k = s.size := by omega
      go_wp2
      go_ret
      exact ⟨_, rfl, hbuf, hB⟩
end Go.Proofs.Ytkipgeecibimoaa
