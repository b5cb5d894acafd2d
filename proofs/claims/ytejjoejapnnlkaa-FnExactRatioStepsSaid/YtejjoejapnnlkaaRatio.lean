/- The numbers of a continued fraction, on both sides, and the walk of their law. -/
import Derived.Test.YtejjoejapnnlkaaGoal
import Derived.Test.YtejjoejapnnlkaaInts
import Derived.Test.YtejjoejapnnlkaaKept
namespace Go.Proofs.Ytejjoejapnnlkaa
open Go.RowKit
set_option linter.unusedVariables false

theorem Ints.snoc {w1 : World} {B : Nat} {v : Value} {l : List Int} {x : Int} (h : w1.ownsRow B 2 1 v (l.length + 1) (l.map (Value.int .i64) ++ [.int .i64 x])) : Ints w1 B v (l ++ [x]) := by
  unfold Ints; rw [List.map_append, List.length_append]; exact h
theorem Ints.below {w wr w1 : World} {v : Value} {l : List Int} (hB : Below w.heap.size w wr) (hbuf : Ints wr w.heap.size v l) (o : Obj) (hg : (wr.alloc o).grownBy w1 v.ownBlock) : Below w.heap.size w w1 :=
  (hB.alloc hB.size o).grown hg (by have := hB.size; simp; omega) (fun k e => ((World.ownsRow.alloc hbuf o).lt k e).1)
theorem Ints.lower {w : World} {B B' : Nat} {v : Value} {l : List Int} (h : Ints w B v l) (hB : B' ≤ B) : Ints w B' v l := by
  rcases h with ⟨h1, ⟨rfl, hn⟩ | ⟨g, cap, cur, rfl, hg, hh, hc, hm, hs, ht⟩⟩
  · exact ⟨h1, .inl ⟨rfl, hn⟩⟩
  · exact ⟨h1, .inr ⟨g, cap, cur, rfl, Nat.le_trans hB hg, hh, hc, hm, hs, ht⟩⟩
theorem below_dn {B : Nat} {a w : World} (h : Below B a w) (n : Nat) : Below B a (w.drewN n) := ⟨h.os, h.tape, h.output, h.size, h.block⟩

/-- the numbers of the continued fraction of a / b -/
def ratN (a b : Nat) : List Int := if h : b = 0 then [] else ((a / b : Nat) : Int) :: ratN b (a % b)
  termination_by b
  decreasing_by exact Nat.mod_lt _ (Nat.pos_of_ne_zero h)
theorem ratN_step (a b q r : Nat) (hb : b ≠ 0) (hq : a / b = q) (hr : a % b = r) : ratN a b = (q : Int) :: ratN b r := by
  rw [ratN, dif_neg hb, hq, hr]
theorem ratN_zero (a : Nat) : ratN a 0 = [] := by rw [ratN, dif_pos rfl]
theorem ratN_len (b : Nat) : ∀ a, (ratN a b).length ≤ b := by
  induction b using Nat.strongRecOn with
  | _ b ih =>
    intro a
    by_cases hb : b = 0
    · subst hb; rw [ratN_zero]; simp
    · rw [ratN_step a b _ _ hb rfl rfl]
      have h1 := Nat.mod_lt a (Nat.pos_of_ne_zero hb)
      have h2 := ih (a % b) h1 b
      simp only [List.length_cons]; omega

theorem specGoal_b (n d : Int) (b : Bool) (w : World) (h : goalB n d = b) :
    Calls Try.prog 62 #[.agg #[.int .i64 n, .int .i64 d]] w fun e w' => e = .returned (.bool b) ∧ Below w.heap.size w w' := by
  rw [← h]; exact specGoal n d w
theorem implGoal_b (n d : Int) (b : Bool) (w : World) (h : goalB n d = b) :
    Calls Try.prog 63 #[.agg #[.int .i64 n, .int .i64 d]] w fun e w' => e = .returned (.bool b) ∧ Below w.heap.size w w' := by
  rw [← h]; exact implGoal n d w

set_option maxHeartbeats 1000000 in
set_option maxRecDepth 100000 in
theorem specRatio_t (n d : Nat) (w : World) (hg : goalB (n : Int) (d : Int) = true) :
    Calls Try.prog 30 #[.agg #[.int .i64 (n : Int), .int .i64 (d : Int)]] w fun e w' => ∃ v, e = .returned (.tuple #[v, .bool true]) ∧ Ints w' w.heap.size v (ratN n d) ∧ Below w.heap.size w w' := by
  obtain ⟨i0, hi, hz0, hz1, hz2⟩ := info_parts info_i64
  obtain ⟨-, g1, g2, -, g4, -⟩ := goalB_parts hg
  have HG := Lib.hid hg
  clear hg
  go_enter Try.func30, Try.ntmps30
  go_wp2_with fail
  refine (specGoal_b _ _ true _ HG.out).mono ?_; rintro e w1 ⟨rfl, hb1⟩
  obtain ⟨hc, hf⟩ := bcell hb1
  have HB1 := Lib.hid (((Below.refl w.heap.size w).alloc (Nat.le_refl _) _).trans (hb1.mono (by simp)))
  have hs1 : w.heap.size < w1.heap.size := by have := hb1.size; simp at this; omega
  clear hb1
  go_wp2
  clear hc hf
  go_loopw [4, 5, 6, 7] (fun v x y _z wr => ∃ (a b : Nat) (acc : List Int), x = .int .i64 (a : Int) ∧ y = .int .i64 (b : Int) ∧ a ≤ 1000000000 ∧ b ≤ 1000000 ∧ acc.length + b ≤ 1000000 ∧ acc ++ ratN a b = ratN n d ∧ Ints wr w.heap.size v acc ∧ Below w.heap.size w wr) (fun _v _x y _z _ => (intOf y).toNat)
  case atStart => exact ⟨n, d, [], rfl, rfl, by omega, by omega, by simp; omega, rfl, ((Ints.lit _).lower (by omega)), HB1.out.alloc (by omega) _⟩
  case round =>
    obtain ⟨a, b, acc, rfl, rfl, ha, hb, hal, hacc, hbuf, hB⟩ := hrel
    have HACC := Lib.hid hacc
    have HB := Lib.hid hbuf
    clear hacc hbuf
    have hsz := hB.size
    by_cases hlt : 0 < b
    · obtain ⟨q, hq⟩ : ∃ q, a / b = q := ⟨_, rfl⟩
      obtain ⟨r, hr⟩ : ∃ r, a % b = r := ⟨_, rfl⟩
      have hr2 : r < b := by rw [← hr]; exact Nat.mod_lt _ hlt
      have hq2 : q ≤ a := by rw [← hq]; exact Nat.div_le_self _ _
      have HE := Lib.hid (ratN_step a b q r (by omega) hq hr)
      have hqi : (a : Int) / (b : Int) = (q : Int) := by rw [← hq]; simp
      have hri : (a : Int) % (b : Int) = (r : Int) := by rw [← hr]; simp
      have htq : IntKind.i64.wrap ((a : Int).tdiv (b : Int)) = (q : Int) := by rw [Int.tdiv_eq_ediv_of_nonneg (by omega), hqi]; exact IntWalk.i64_in _ (by omega)
      have htr : IntKind.i64.wrap ((a : Int).tmod (b : Int)) = (r : Int) := by rw [Int.tmod_eq_emod_of_nonneg (by omega), hri]; exact IntWalk.i64_in _ (by omega)
      have hne : ((b : Int) == 0) = false := by simp; omega
      have hn0 : ¬ (b : Int) = 0 := by omega
      have hn1 : ¬ b = 0 := by omega
      clear hq hr
      go_wp2_with (at_builtin; refine wpList_append_own _ rfl _ _ 45 rfl w.heap.size 2 i0 (.int .i64 0) 1 8 Try.underlying45 hi hz0 hz1 hz2 rfl (by decide) _ _ _ rfl (HB.out.alloc _) ⟨wr.heap.size, 0, none⟩ 1 1 [.int .i64 (q : Int)] rfl rfl ?c1 ?c2 ?c3 ?c4 ?c5 ?_)
      case c1 => exact cell_one_new _ _ _
      case c2 => simp [Value.oneCell']
      case c3 => unfold maxLen; omega
      case c4 => omega
      case c5 => simp; omega
      intro v' w1 hown' hgrow _
      have HO := Lib.hid (Ints.snoc hown')
      have HW := Lib.hid (Ints.below hB HB.out _ hgrow)
      clear hown' hgrow
      go_wp2
      go_roundw
      case rel => exact ⟨b, r, acc ++ [(q : Int)], rfl, by rw [hri], by omega, by omega, by simp; omega, by rw [← HACC.out, HE.out]; simp, HO.out, HW.out⟩
      case measure => simp [intOf]; omega
    · obtain rfl : b = 0 := by omega
      go_wp2
      go_ret2
      exact ⟨_, rfl, by rw [← HACC.out, ratN_zero, List.append_nil]; exact HB.out, hB⟩
theorem specRatio_f (n d : Int) (w : World) (hg : goalB n d = false) :
    Calls Try.prog 30 #[.agg #[.int .i64 n, .int .i64 d]] w fun e w' => e = .returned (.tuple #[.slice none 0 0, .bool false]) ∧ Below w.heap.size w w' := by
  have HG := Lib.hid hg
  clear hg
  go_enter Try.func30, Try.ntmps30
  go_wp2_with fail
  refine (specGoal_b _ _ false _ HG.out).mono ?_; rintro e w1 ⟨rfl, hb1⟩
  go_wp2
  go_ret2
  exact ⟨rfl, ((Below.refl w.heap.size w).alloc (Nat.le_refl _) _).trans (hb1.mono (by simp))⟩

set_option maxHeartbeats 1000000 in
set_option maxRecDepth 100000 in
theorem implRatio_t (n d : Nat) (w : World) (hg : goalB (n : Int) (d : Int) = true) :
    Calls Try.prog 31 #[.agg #[.int .i64 (n : Int), .int .i64 (d : Int)]] w fun e w' => ∃ v, e = .returned (.tuple #[v, .bool true]) ∧ Ints w' w.heap.size v (ratN n d) ∧ Below w.heap.size w w' := by
  obtain ⟨i0, hi, hz0, hz1, hz2⟩ := info_parts info_i64
  obtain ⟨-, g1, g2, -, g4, -⟩ := goalB_parts hg
  have HG := Lib.hid hg
  clear hg
  go_enter Try.func31, Try.ntmps31
  go_wp2_with fail
  refine (implGoal_b _ _ true _ HG.out).mono ?_; rintro e w1 ⟨rfl, hb1⟩
  obtain ⟨hc, hf⟩ := bcell hb1
  have HB1 := Lib.hid (((Below.refl w.heap.size w).alloc (Nat.le_refl _) _).trans (hb1.mono (by simp)))
  have hs1 : w.heap.size < w1.heap.size := by have := hb1.size; simp at this; omega
  clear hb1
  go_wp2
  go_quiet (fail)
  go_wp2
  clear hc hf
  go_loopw [4, 5, 6] (fun v x y wr => ∃ (a b : Nat) (acc : List Int), x = .int .i64 (a : Int) ∧ y = .int .i64 (b : Int) ∧ a ≤ 1000000000 ∧ b ≤ 1000000 ∧ acc.length + b ≤ 1000000 ∧ acc ++ ratN a b = ratN n d ∧ Ints wr w.heap.size v acc ∧ Below w.heap.size w wr) (fun _v _x y _ => (intOf y).toNat)
  case atStart => exact ⟨n, d, [], rfl, rfl, by omega, by omega, by simp; omega, rfl, Ints.nil _ _, below_dn HB1.out _⟩
  case round =>
    obtain ⟨a, b, acc, rfl, rfl, ha, hb, hal, hacc, hbuf, hB⟩ := hrel
    have HACC := Lib.hid hacc
    have HB := Lib.hid hbuf
    clear hacc hbuf
    have hsz := hB.size
    by_cases hlt : 0 < b
    · obtain ⟨q, hq⟩ : ∃ q, a / b = q := ⟨_, rfl⟩
      obtain ⟨r, hr⟩ : ∃ r, a % b = r := ⟨_, rfl⟩
      have hr2 : r < b := by rw [← hr]; exact Nat.mod_lt _ hlt
      have hq2 : q ≤ a := by rw [← hq]; exact Nat.div_le_self _ _
      have HE := Lib.hid (ratN_step a b q r (by omega) hq hr)
      have hqi : (a : Int) / (b : Int) = (q : Int) := by rw [← hq]; simp
      have hri : (a : Int) % (b : Int) = (r : Int) := by rw [← hr]; simp
      have htq : IntKind.i64.wrap ((a : Int).tdiv (b : Int)) = (q : Int) := by rw [Int.tdiv_eq_ediv_of_nonneg (by omega), hqi]; exact IntWalk.i64_in _ (by omega)
      have htr : IntKind.i64.wrap ((a : Int).tmod (b : Int)) = (r : Int) := by rw [Int.tmod_eq_emod_of_nonneg (by omega), hri]; exact IntWalk.i64_in _ (by omega)
      have hne : ((b : Int) == 0) = false := by simp; omega
      have hn0 : ¬ (b : Int) = 0 := by omega
      have hn1 : ¬ b = 0 := by omega
      clear hq hr
      go_wp2_with (at_builtin; refine wpList_append_own _ rfl _ _ 45 rfl w.heap.size 2 i0 (.int .i64 0) 1 8 Try.underlying45 hi hz0 hz1 hz2 rfl (by decide) _ _ _ rfl (HB.out.alloc _) ⟨wr.heap.size, 0, none⟩ 1 1 [.int .i64 (q : Int)] rfl rfl ?c1 ?c2 ?c3 ?c4 ?c5 ?_)
      case c1 => exact cell_one_new _ _ _
      case c2 => simp [Value.oneCell']
      case c3 => unfold maxLen; omega
      case c4 => omega
      case c5 => simp; omega
      intro v' w1 hown' hgrow _
      have HO := Lib.hid (Ints.snoc hown')
      have HW := Lib.hid (Ints.below hB HB.out _ hgrow)
      clear hown' hgrow
      go_wp2
      go_quiet (fail)
      go_wp2
      go_roundw
      case rel => exact ⟨b, r, acc ++ [(q : Int)], rfl, by rw [hri], by omega, by omega, by simp; omega, by rw [← HACC.out, HE.out]; simp, HO.out, below_dn HW.out _⟩
      case measure => simp [intOf]; omega
    · obtain rfl : b = 0 := by omega
      go_wp2
      go_ret2
      exact ⟨_, rfl, by rw [← HACC.out, ratN_zero, List.append_nil]; exact HB.out, hB⟩
theorem implRatio_f (n d : Int) (w : World) (hg : goalB n d = false) :
    Calls Try.prog 31 #[.agg #[.int .i64 n, .int .i64 d]] w fun e w' => e = .returned (.tuple #[.slice none 0 0, .bool false]) ∧ Below w.heap.size w w' := by
  have HG := Lib.hid hg
  clear hg
  go_enter Try.func31, Try.ntmps31
  go_wp2_with fail
  refine (implGoal_b _ _ false _ HG.out).mono ?_; rintro e w1 ⟨rfl, hb1⟩
  go_wp2
  go_ret2
  exact ⟨rfl, ((Below.refl w.heap.size w).alloc (Nat.le_refl _) _).trans (hb1.mono (by simp))⟩


set_option maxHeartbeats 2000000 in
set_option maxRecDepth 100000 in
theorem walk_FnExactRatioSteps (n d : Int) (w : World) (_wn : (Lit.int .i64 n).wf = true) (_wd : (Lit.int .i64 d).wf = true) :
    Calls Try.prog 10 #[.agg #[.int .i64 n, .int .i64 d]] w fun e w' => e = .returned (.bool true) ∧ Below w.heap.size w w' := by
  obtain ⟨l, okb, hlen, hS, hI⟩ : ∃ (l : List Int) (okb : Bool), l.length ≤ 1048576 ∧ (∀ w, Calls Try.prog 30 #[.agg #[.int .i64 n, .int .i64 d]] w fun e W' => ∃ v, e = .returned (.tuple #[v, .bool okb]) ∧ Ints W' w.heap.size v l ∧ Below w.heap.size w W') ∧ (∀ w, Calls Try.prog 31 #[.agg #[.int .i64 n, .int .i64 d]] w fun e W' => ∃ v, e = .returned (.tuple #[v, .bool okb]) ∧ Ints W' w.heap.size v l ∧ Below w.heap.size w W') := by
    cases hg : goalB n d with
    | true =>
      obtain ⟨-, g1, g2, g3, g4, -⟩ := goalB_parts hg
      obtain ⟨a, rfl⟩ := Int.eq_ofNat_of_zero_le g3
      obtain ⟨b, rfl⟩ := Int.eq_ofNat_of_zero_le (show 0 ≤ d by omega)
      exact ⟨ratN a b, true, Nat.le_trans (ratN_len b a) (by omega), fun w => specRatio_t a b w hg, fun w => implRatio_t a b w hg⟩
    | false => exact ⟨[], false, Nat.zero_le _, fun w => (specRatio_f n d w hg).mono fun e W' h => ⟨_, h.1, Ints.nil _ _, h.2⟩, fun w => (implRatio_f n d w hg).mono fun e W' h => ⟨_, h.1, Ints.nil _ _, h.2⟩⟩
  have HS := Lib.hid hS
  have HI := Lib.hid hI
  clear hS hI
  go_enter Try.func10, Try.ntmps10
  go_wp2_with fail
  refine (toFraction_any _ _ _).mono ?_; rintro e wa ⟨rfl, ba⟩
  have a0 := cell_kept ba (a := ⟨w.heap.size, 0, none⟩) (v := .int .i64 n) (by simp [go_sem])
  have a1 := cell_kept ba (a := ⟨w.heap.size, 1, none⟩) (v := .int .i64 d) (by simp [go_sem])
  have BA := Lib.hid (((Below.refl w.heap.size w).alloc (Nat.le_refl _) _).trans (ba.mono (by simp)))
  have sA : w.heap.size < wa.heap.size := by have := ba.size; simp at this; omega
  clear ba
  go_wp2_with fail
  refine (HS.out _).mono ?_; rintro e w1 ⟨v0, rfl, i0, b1⟩
  have c0 := cell_kept b1 a0
  have c1 := cell_kept b1 a1
  have B1 := Lib.hid (BA.out.trans (b1.mono BA.out.size))
  have s1 := b1.size
  have HI0 := Lib.hid i0
  clear a0 a1 i0 b1
  go_wp2_with fail
  refine (toFraction_any _ _ _).mono ?_; rintro e wb ⟨rfl, bb⟩
  have a0 := cell_kept bb c0
  have a1 := cell_kept bb c1
  have BB := Lib.hid (B1.out.trans (bb.mono B1.out.size))
  have sB := bb.size
  have HI0b := Lib.hid (HI0.out.keep bb (Nat.le_refl _))
  clear c0 c1 bb
  go_wp2_with fail
  refine (HI.out _).mono ?_; rintro e w2 ⟨v1, rfl, i1, b2⟩
  have c0 := cell_kept b2 a0
  have c1 := cell_kept b2 a1
  have B2 := Lib.hid (BB.out.trans (b2.mono BB.out.size))
  have s2 := b2.size
  have HI0c := Lib.hid (HI0b.out.keep b2 (Nat.le_refl _))
  have HI1 := Lib.hid i1
  clear a0 a1 i1 b2
  go_wp2_with fail
  refine (eqInts_same _ _ v1 v0 l _ HI1.out HI0c.out).mono ?_; rintro e w' ⟨rfl, q, rfl⟩
  go_wp2_with fail
  refine (markInts _ v1 l 1 (w2.drewN q) HI1.out (by omega) (by omega)).mono ?_; rintro e w3 ⟨rfl, i3, b3, z3⟩
  have hz3 : w3.heap.size = w2.heap.size := z3
  have b3' : Below wb.heap.size w2 w3 := ⟨b3.os, b3.tape, b3.output, b3.size, b3.block⟩
  have a0 : w3.cell? ⟨w.heap.size, 0, none⟩ = some (.int .i64 n) := (b3'.cell (p := ⟨w.heap.size, 0, none⟩) (by dsimp only; omega)).trans c0
  have a1 : w3.cell? ⟨w.heap.size, 1, none⟩ = some (.int .i64 d) := (b3'.cell (p := ⟨w.heap.size, 1, none⟩) (by dsimp only; omega)).trans c1
  have B3 := Lib.hid (B2.out.trans (b3'.mono (show w.heap.size ≤ wb.heap.size by omega)))
  have HI0d := Lib.hid (HI0.out.keepLt HI0c.out b3' sB)
  have HI3 := Lib.hid i3
  clear i3 z3 b3 b3' c0 c1
  go_wp2_with fail
  refine (heldInts _ v1 l.length 1 _ HI3.out (by omega) (by omega)).mono ?_; rintro e w' ⟨rfl, rfl⟩
  go_wp2_with fail
  refine (toFraction_any _ _ _).mono ?_; rintro e wc ⟨rfl, bc⟩
  have BC := Lib.hid (B3.out.trans (bc.mono B3.out.size))
  have HI0e := Lib.hid (HI0d.out.keep bc (Nat.le_refl _))
  have HI3e := Lib.hid (HI3.out.keep bc (Nat.le_refl _))
  clear a0 a1 bc
  go_wp2_with fail
  refine (HI.out _).mono ?_; rintro e w4 ⟨v2, rfl, i4, b4⟩
  have HI4 := Lib.hid i4
  have HI0f := Lib.hid (HI0e.out.keep b4 (Nat.le_refl _))
  have HI3f := Lib.hid (HI3e.out.keep b4 (Nat.le_refl _))
  have B4 := Lib.hid (BC.out.trans (b4.mono BC.out.size))
  clear i4 b4
  go_wp2_with fail
  refine (eqInts_same _ _ v2 v0 l _ HI4.out HI0f.out).mono ?_; rintro e w' ⟨rfl, q2, rfl⟩
  go_wp2_with fail
  refine (heldInts _ v1 l.length 1 (w4.drewN q2) HI3f.out (by omega) (by omega)).mono ?_; rintro e w' ⟨rfl, rfl⟩
  go_wp2
  go_ret
  exact ⟨rfl, below_dn B4.out _⟩
end Go.Proofs.Ytejjoejapnnlkaa
