/- The numbers of a continued fraction, on both sides, and the walk of their law. -/
import Derived.Test.YthkooboiacajeaaGoal
import Derived.Test.YthkooboiacajeaaInts
import Derived.Test.YthkooboiacajeaaKept
namespace Go.Proofs.Ythkooboiacajeaa
open Go.RowKit
set_option linter.unusedVariables false

theorem Ints.snoc {w1 : World} {B : Nat} {v : Value} {l : List Int} {x : Int} (h : w1.ownsRow B 2 1 v (l.length + 1) (l.map (Value.int .i64) ++ [.int .i64 x])) : Ints w1 B v (l ++ [x]) := by
  unfold Ints; rw [List.map_append, List.length_append]; exact h
theorem Ints.below {w wr w1 : World} {v : Value} {l : List Int} (hB : Below w.heap.size w wr) (hbuf : Ints wr w.heap.size v l) (o : Obj) (hg : (wr.alloc o).grownBy w1 v.ownBlock) : Below w.heap.size w w1 :=
  (hB.alloc hB.size o).grown hg (by have := hB.size; simp; omega) (fun k e => ((World.ownsRow.alloc hbuf o).lt k e).1)
theorem Ints.lower {w : World} {B B' : Nat} {v : Value} {l : List Int} (h : Ints w B v l) (hB : B' ≤ B) : Ints w B' v l := by
  rcases h with ⟨h1, ⟨rfl, hn⟩ | ⟨g, cap, cur, rfl, hg, hh, hc, hm, hs, ht⟩⟩
  · exact ⟨h1, .inl ⟨rfl, hn⟩⟩
  · exact ⟨h1, .inr ⟨g, cap, cur, rfl, Nat.le_trans hB hg, hh, hc, hm, hs, ht⟩⟩
theorem below_dn {B : Nat} {a w : World} (h : Below B a w) (n : Nat) : Below B a (w.drewN n) := ⟨h.os, h.tape, h.output, h.size, h.block⟩

/-- the numbers of the continued fraction of a / b -/
def ratN (a b : Nat) : List Int := if h : b = 0 then [] else ((a / b : Nat) : Int) :: ratN b (a % b)
  termination_by b
  decreasing_by exact Nat.mod_lt _ (Nat.pos_of_ne_zero h)
theorem ratN_step (a b q r : Nat) (hb : b ≠ 0) (hq : a / b = q) (hr : a % b = r) : ratN a b = (q : Int) :: ratN b r := by
  rw [ratN, dif_neg hb, hq, hr]
theorem ratN_zero (a : Nat) : ratN a 0 = [] := by rw [ratN, dif_pos rfl]
theorem ratN_len (b : Nat) : ∀ a, (ratN a b).length ≤ b := by
  induction b using Nat.strongRecOn with
  | _ b ih =>
    intro a
    by_cases hb : b = 0
    · subst hb; rw [ratN_zero]; simp
    · rw [ratN_step a b _ _ hb rfl rfl]
      have h1 := Nat.mod_lt a (Nat.pos_of_ne_zero hb)
      have h2 := ih (a % b) h1 b
      simp only [List.length_cons]; omega

theorem implGoal_b (n d : Int) (b : Bool) (w : World) (h : goalB n d = b) :
    Calls Try.prog 20 #[.agg #[.int .i64 n, .int .i64 d]] w fun e w' => e = .returned (.bool b) ∧ Below w.heap.size w w' := by
  rw [← h]; exact implGoal n d w

set_option maxHeartbeats 1000000 in
set_option maxRecDepth 100000 in
theorem implRatio_t (n d : Nat) (w : World) (hg : goalB (n : Int) (d : Int) = true) :
    Calls Try.prog 9 #[.agg #[.int .i64 (n : Int), .int .i64 (d : Int)]] w fun e w' => ∃ v, e = .returned (.tuple #[v, .bool true]) ∧ Ints w' w.heap.size v (ratN n d) ∧ Below w.heap.size w w' := by
  obtain ⟨i0, hi, hz0, hz1, hz2⟩ := info_parts info_i64
  obtain ⟨-, g1, g2, -, g4, -⟩ := goalB_parts hg
  have HG := Lib.hid hg
  clear hg
  go_enter Try.func9, Try.ntmps9
  go_wp2_with fail
  refine (implGoal_b _ _ true _ HG.out).mono ?_; rintro e w1 ⟨rfl, hb1⟩
  obtain ⟨hc, hf⟩ := bcell hb1
  have HB1 := Lib.hid (((Below.refl w.heap.size w).alloc (Nat.le_refl _) _).trans (hb1.mono (by simp)))
  have hs1 : w.heap.size < w1.heap.size := by have := hb1.size; simp at this; omega
  clear hb1
  go_wp2
  go_quiet (fail)
  go_wp2
  clear hc hf
  go_loopw [4, 5, 6] (fun v x y wr => ∃ (a b : Nat) (acc : List Int), x = .int .i64 (a : Int) ∧ y = .int .i64 (b : Int) ∧ a ≤ 1000000000 ∧ b ≤ 1000000 ∧ acc.length + b ≤ 1000000 ∧ acc ++ ratN a b = ratN n d ∧ Ints wr w.heap.size v acc ∧ Below w.heap.size w wr) (fun _v _x y _ => (intOf y).toNat)
  case atStart => exact ⟨n, d, [], rfl, rfl, by omega, by omega, by simp; omega, rfl, Ints.nil _ _, below_dn HB1.out _⟩
  case round =>
    obtain ⟨a, b, acc, rfl, rfl, ha, hb, hal, hacc, hbuf, hB⟩ := hrel
    have HACC := Lib.hid hacc
    have HB := Lib.hid hbuf
    clear hacc hbuf
    have hsz := hB.size
    by_cases hlt : 0 < b
    · obtain ⟨q, hq⟩ : ∃ q, a / b = q := ⟨_, rfl⟩
      obtain ⟨r, hr⟩ : ∃ r, a % b = r := ⟨_, rfl⟩
      have hr2 : r < b := by rw [← hr]; exact Nat.mod_lt _ hlt
      have hq2 : q ≤ a := by rw [← hq]; exact Nat.div_le_self _ _
      have HE := Lib.hid (ratN_step a b q r (by omega) hq hr)
      have hqi : (a : Int) / (b : Int) = (q : Int) := by rw [← hq]; simp
      have hri : (a : Int) % (b : Int) = (r : Int) := by rw [← hr]; simp
      have htq : IntKind.i64.wrap ((a : Int).tdiv (b : Int)) = (q : Int) := by rw [Int.tdiv_eq_ediv_of_nonneg (by omega), hqi]; exact IntWalk.i64_in _ (by omega)
      have htr : IntKind.i64.wrap ((a : Int).tmod (b : Int)) = (r : Int) := by rw [Int.tmod_eq_emod_of_nonneg (by omega), hri]; exact IntWalk.i64_in _ (by omega)
      have hne : ((b : Int) == 0) = false := by simp; omega
      have hn0 : ¬ (b : Int) = 0 := by omega
      have hn1 : ¬ b = 0 := by omega
      clear hq hr
      go_wp2_with (at_builtin; refine wpList_append_own _ rfl _ _ 30 rfl w.heap.size 2 i0 (.int .i64 0) 1 8 Try.underlying30 hi hz0 hz1 hz2 rfl (by decide) _ _ _ rfl (HB.out.alloc _) ⟨wr.heap.size, 0, none⟩ 1 1 [.int .i64 (q : Int)] rfl rfl ?c1 ?c2 ?c3 ?c4 ?c5 ?_)
      case c1 => exact cell_one_new _ _ _
      case c2 => simp [Value.oneCell']
      case c3 => unfold maxLen; omega
      case c4 => omega
      case c5 => simp; omega
      intro v' w1 hown' hgrow _
      have HO := Lib.hid (Ints.snoc hown')
      have HW := Lib.hid (Ints.below hB HB.out _ hgrow)
      clear hown' hgrow
      go_wp2
      go_quiet (fail)
      go_wp2
      go_roundw
      case rel => exact ⟨b, r, acc ++ [(q : Int)], rfl, by rw [hri], by omega, by omega, by simp; omega, by rw [← HACC.out, HE.out]; simp, HO.out, below_dn HW.out _⟩
      case measure => simp [intOf]; omega
    · obtain rfl : b = 0 := by omega
      go_wp2
      go_ret2
      exact ⟨_, rfl, by rw [← HACC.out, ratN_zero, List.append_nil]; exact HB.out, hB⟩
theorem implRatio_f (n d : Int) (w : World) (hg : goalB n d = false) :
    Calls Try.prog 9 #[.agg #[.int .i64 n, .int .i64 d]] w fun e w' => e = .returned (.tuple #[.slice none 0 0, .bool false]) ∧ Below w.heap.size w w' := by
  have HG := Lib.hid hg
  clear hg
  go_enter Try.func9, Try.ntmps9
  go_wp2_with fail
  refine (implGoal_b _ _ false _ HG.out).mono ?_; rintro e w1 ⟨rfl, hb1⟩
  go_wp2
  go_ret2
  exact ⟨rfl, ((Below.refl w.heap.size w).alloc (Nat.le_refl _) _).trans (hb1.mono (by simp))⟩


end Go.Proofs.Ythkooboiacajeaa
