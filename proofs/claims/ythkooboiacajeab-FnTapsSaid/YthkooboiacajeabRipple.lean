/- The states of a ripple, on both sides. -/
import Derived.Test.YthkooboiacajeabState
import Derived.Test.YthkooboiacajeabBits
import Derived.Test.YthkooboiacajeabInts
import Derived.LoopTactic
namespace Go.Proofs.Ythkooboiacajeab
open Go.RowKit

theorem Ints.snoc {w1 : World} {B : Nat} {v : Value} {l : List Int} {x : Int} (h : w1.ownsRow B 2 1 v (l.length + 1) (l.map (Value.int .i64) ++ [.int .i64 x])) : Ints w1 B v (l ++ [x]) := by
  unfold Ints; rw [List.map_append, List.length_append]; exact h
theorem Ints.below {w wr w1 : World} {v : Value} {l : List Int} (hB : Below w.heap.size w wr) (hbuf : Ints wr w.heap.size v l) (o : Obj) (hg : (wr.alloc o).grownBy w1 v.ownBlock) : Below w.heap.size w w1 :=
  (hB.alloc hB.size o).grown hg (by have := hB.size; simp; omega) (fun k e => ((World.ownsRow.alloc hbuf o).lt k e).1)

def ints (l : List Nat) : List Int := l.map (fun y : Nat => (y : Int))
theorem ints_len (l : List Nat) : (ints l).length = l.length := by simp [ints]
theorem ints_snoc (l : List Nat) (y : Nat) : ints (l ++ [y]) = ints l ++ [(y : Int)] := by simp [ints]

/-- what the walk asks of a bit -/
theorem bit_one (z k : Nat) (hz : z < 256) (h : z / 2 ^ k % 2 = 1) : bits .and .i64 ((z : Int) / 2 ^ k) 1 = 1 := by
  have e : ((z : Int) / 2 ^ k) = ((z / 2 ^ k : Nat) : Int) := by simp
  have hd : z / 2 ^ k ≤ z := Nat.div_le_self _ _
  rw [e, show (1 : Int) = ((1 : Nat) : Int) from rfl, and_i64 _ _ (by omega) (by omega), Nat.and_one_is_mod, h]
theorem bit_zero (z k : Nat) (hz : z < 256) (h : z / 2 ^ k % 2 ≠ 1) : bits .and .i64 ((z : Int) / 2 ^ k) 1 = 0 := by
  have e : ((z : Int) / 2 ^ k) = ((z / 2 ^ k : Nat) : Int) := by simp
  have hd : z / 2 ^ k ≤ z := Nat.div_le_self _ _
  rw [e, show (1 : Int) = ((1 : Nat) : Int) from rfl, and_i64 _ _ (by omega) (by omega), Nat.and_one_is_mod, show z / 2 ^ k % 2 = 0 from by omega]; rfl
theorem ripGo_step (b k y x : Nat) (acc : List Nat) (hk : k < b) (h : acc ++ ripGo (b - k) k y = ripGo b 0 x) (hn : (y ^^^ 2 ^ k) / 2 ^ k % 2 ≠ 1) :
    (acc ++ [y ^^^ 2 ^ k]) ++ ripGo (b - (k + 1)) (k + 1) (y ^^^ 2 ^ k) = ripGo b 0 x := by
  rw [← h, show b - k = (b - (k + 1)) + 1 from by omega, rip_next _ _ _ hn]; simp
theorem ripGo_last (b k y x : Nat) (acc : List Nat) (hk : k < b) (h : acc ++ ripGo (b - k) k y = ripGo b 0 x) (hn : (y ^^^ 2 ^ k) / 2 ^ k % 2 = 1) :
    acc ++ [y ^^^ 2 ^ k] = ripGo b 0 x := by
  rw [← h, show b - k = (b - (k + 1)) + 1 from by omega, rip_stop _ _ _ hn]
theorem ripGo_over (b k y x : Nat) (acc : List Nat) (hk : ¬ k < b) (h : acc ++ ripGo (b - k) k y = ripGo b 0 x) : acc = ripGo b 0 x := by
  rw [← h, show b - k = 0 from by omega]; simp [ripGo]

set_option maxHeartbeats 1000000 in
set_option maxRecDepth 100000 in
theorem implRipple (b x : Nat) (w : World) (hb : b ≤ 8) (hx : x < 256) :
    Calls Try.prog 13 #[.int .i64 (b : Int), .int .i64 (x : Int)] w fun e w' => ∃ v, e = .returned v ∧ Ints w' w.heap.size v (ints (ripGo b 0 x)) ∧ Below w.heap.size w w' := by
  obtain ⟨i0, hi, hz0, hz1, hz2⟩ := info_parts info_i64
  go_enter Try.func13, Try.ntmps13
  go_wp2
  go_loopw [1, 5, 6, 8] (fun x' v _ i wr => ∃ (k y : Nat) (acc : List Nat), k ≤ b ∧ i = .int .i64 (k : Int) ∧ x' = .int .i64 (y : Int) ∧ y < 256 ∧ acc.length ≤ k ∧ acc ++ ripGo (b - k) k y = ripGo b 0 x ∧ Ints wr w.heap.size v (ints acc) ∧ Below w.heap.size w wr) (fun x' _ _ i _ => b - (intOf i).toNat)
  case atStart => exact ⟨0, x, [], Nat.zero_le _, rfl, rfl, hx, Nat.le_refl _, rfl, Ints.nil w _, Below.refl _ _⟩
  case round =>
    obtain ⟨k, y, acc, hk, rfl, rfl, hy, hal, hacc, hbuf, hB⟩ := hrel
    have HACC := Lib.hid hacc
    have HB := Lib.hid hbuf
    clear hacc hbuf
    have hsz := hB.size
    have hL := ints_len acc
    have HL := Lib.hid hL
    clear hL
    by_cases hlt : k < b
    · by_cases hbit : (y ^^^ 2 ^ k) / 2 ^ k % 2 = 1
      · have HE := Lib.hid (ripGo_last b k y x acc hlt HACC.out hbit)
        have hz := xor_lt8 y k hy (by omega)
        have hp : 2 ^ k ≤ 128 := by
          have := Nat.pow_le_pow_right (n := 2) (by omega) (show k ≤ 7 by omega)
          omega
        have hxo : bits .xor .i64 (y : Int) (2 ^ k) = ((y ^^^ 2 ^ k : Nat) : Int) := by
          have := xor_i64 y (2 ^ k) (by omega) (by omega)
          rw [show ((2 ^ k : Nat) : Int) = (2 : Int) ^ k from by simp] at this; exact this
        have hsh : IntKind.i64.wrap ((2 : Int) ^ k) = 2 ^ k := by
          have := wrap_i64_nat (2 ^ k) (by omega)
          rw [show ((2 ^ k : Nat) : Int) = (2 : Int) ^ k from by simp] at this; exact this
        obtain ⟨z, hz1⟩ : ∃ z, y ^^^ 2 ^ k = z := ⟨_, rfl⟩
        have HZ := Lib.hid hz1
        rw [hz1] at hz hxo
        clear hz1
        have hb1 := bit_one z k hz (by rw [HZ.out] at hbit; exact hbit)
        clear hbit
        go_wp2_with (at_builtin; refine wpList_append_own _ rfl _ _ 26 rfl w.heap.size 2 i0 (.int .i64 0) 1 8 Try.underlying26 hi hz0 hz1 hz2 rfl (by decide) _ _ _ rfl (HB.out.alloc _) ⟨wr.heap.size, 0, none⟩ 1 1 [.int .i64 (z : Int)] rfl rfl ?c1 ?c2 ?c3 ?c4 ?c5 ?_)
        case c1 => exact cell_one_new _ _ _
        case c2 => simp [Value.oneCell']
        case c3 => rw [HL.out]; unfold maxLen; omega
        case c4 => rw [HL.out]; omega
        case c5 => simp; omega
        intro v' w1 hown' hgrow _
        have HO := Lib.hid (Ints.snoc hown')
        have HW := Lib.hid (Ints.below hB HB.out _ hgrow)
        clear hown' hgrow
        go_wp2
        go_ret
        exact ⟨_, rfl, by rw [← HE.out, ints_snoc, HZ.out]; exact HO.out, HW.out⟩
      · have HE := Lib.hid (ripGo_step b k y x acc hlt HACC.out hbit)
        have hz := xor_lt8 y k hy (by omega)
        have hp : 2 ^ k ≤ 128 := by
          have := Nat.pow_le_pow_right (n := 2) (by omega) (show k ≤ 7 by omega)
          omega
        have hxo : bits .xor .i64 (y : Int) (2 ^ k) = ((y ^^^ 2 ^ k : Nat) : Int) := by
          have := xor_i64 y (2 ^ k) (by omega) (by omega)
          rw [show ((2 ^ k : Nat) : Int) = (2 : Int) ^ k from by simp] at this; exact this
        have hsh : IntKind.i64.wrap ((2 : Int) ^ k) = 2 ^ k := by
          have := wrap_i64_nat (2 ^ k) (by omega)
          rw [show ((2 ^ k : Nat) : Int) = (2 : Int) ^ k from by simp] at this; exact this
        obtain ⟨z, hz1⟩ : ∃ z, y ^^^ 2 ^ k = z := ⟨_, rfl⟩
        have HZ := Lib.hid hz1
        rw [hz1] at hz hxo
        clear hz1
        have hb1 := bit_zero z k hz (by rw [HZ.out] at hbit; exact hbit)
        clear hbit
        go_wp2_with (at_builtin; refine wpList_append_own _ rfl _ _ 26 rfl w.heap.size 2 i0 (.int .i64 0) 1 8 Try.underlying26 hi hz0 hz1 hz2 rfl (by decide) _ _ _ rfl (HB.out.alloc _) ⟨wr.heap.size, 0, none⟩ 1 1 [.int .i64 (z : Int)] rfl rfl ?c1 ?c2 ?c3 ?c4 ?c5 ?_)
        case c1 => exact cell_one_new _ _ _
        case c2 => simp [Value.oneCell']
        case c3 => rw [HL.out]; unfold maxLen; omega
        case c4 => rw [HL.out]; omega
        case c5 => simp; omega
        intro v' w1 hown' hgrow _
        have HO := Lib.hid (Ints.snoc hown')
        have HW := Lib.hid (Ints.below hB HB.out _ hgrow)
        clear hown' hgrow
        go_wp2
        go_roundw
        case rel => exact ⟨k + 1, z, acc ++ [z], by omega, by go_num, rfl, hz, by simp; omega, by have := HE.out; rw [HZ.out] at this; exact this, by rw [ints_snoc]; exact HO.out, HW.out⟩
        case measure => simp [intOf]; omega
    · have HE := Lib.hid (ripGo_over b k y x acc hlt HACC.out)
      go_wp2
      go_ret
      exact ⟨_, rfl, by rw [← HE.out]; exact HB.out, hB⟩
theorem implRip_t (b x : Int) (w : World) (h : StateOk b x) :
    Calls Try.prog 7 #[.int .i64 b, .int .i64 x] w fun e w' => ∃ v, e = .returned (.tuple #[v, .bool true]) ∧ Ints w' w.heap.size v (ints (ripGo b.toNat 0 x.toNat)) ∧ Below w.heap.size w w' := by
  have hb := st_bd b h.1 h.2.1
  obtain ⟨n, rfl⟩ := Int.eq_ofNat_of_zero_le h.2.2.1
  obtain ⟨m, rfl⟩ := Int.eq_ofNat_of_zero_le (show 0 ≤ b by have := h.1; omega)
  have hn : n < 256 := by have := h.2.2.2; omega
  have hm : m ≤ 8 := by have := h.2.1; omega
  have HH := Lib.hid h
  clear h
  rw [Int.toNat_natCast, Int.toNat_natCast]
  go_enter Try.func7, Try.ntmps7
  go_wp2_with fail
  refine (has_t _ _ _ HH.out).mono ?_; rintro e w' ⟨rfl, rfl⟩
  go_wp2_with fail
  refine (implRipple m n _ hm hn).mono ?_; rintro e w1 ⟨v, rfl, hi, hb1⟩
  go_wp2
  go_ret2
  exact ⟨_, rfl, hi, hb1⟩
theorem implRip_f (b x : Int) (w : World) (h : ¬ StateOk b x) :
    Calls Try.prog 7 #[.int .i64 b, .int .i64 x] w fun e w' => ∃ v, e = .returned (.tuple #[v, .bool false]) ∧ Ints w' w.heap.size v [] ∧ Below w.heap.size w w' := by
  have HH := Lib.hid h
  clear h
  go_enter Try.func7, Try.ntmps7
  go_wp2_with fail
  refine (has_f _ _ _ HH.out).mono ?_; rintro e w' ⟨rfl, rfl⟩
  go_wp2
  go_ret2
  exact ⟨_, rfl, Ints.nil _ _, Below.refl _ _⟩
end Go.Proofs.Ythkooboiacajeab
