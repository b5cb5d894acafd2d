/- A number in decimal, on the side of the model. -/
import Derived.Test.YtemjohkieehojaaDoorBytes
import Derived.Test.YtemjohkieehojaaDoorDecMath
import Derived.IntWalk
namespace Go.Proofs.YtemjohkieehojaaDoor
open Go.RowKit Go.Lib
set_option linter.unusedVariables false

theorem Buf.form {w : World} {B : Nat} {v : Value} {l : List UInt8} (h : Buf w B v l) : ∃ a cap, v = .slice a l.length cap ∧ l.length ≤ maxLen ∧
    ∀ k (hk : k < l.length), ∃ g, a = some ⟨g, 0, none⟩ ∧ g < w.heap.size ∧ w.cell? ⟨g, k, none⟩ = some (.int .u8 (l[k].toNat : Int)) := by
  have h' := h
  rcases h with ⟨_, ⟨rfl, hn⟩ | ⟨g, cap, cur, rfl, hg, hh, hc, hm, hs, ht⟩⟩
  · exact ⟨none, 0, by rw [hn], by rw [hn]; exact Nat.zero_le _, fun k hk => by omega⟩
  · refine ⟨_, cap, rfl, Nat.le_trans hc hm, fun k hk => ⟨g, rfl, (Array.getElem?_eq_some_iff.1 hh).1, ?_⟩⟩
    rw [World.ownsRow.cellAt h' k (by omega)]; simp [byCells, List.getElem?_eq_getElem hk]

theorem rev_snoc (l : List UInt8) (k j : Nat) (hj : j < l.length) (h : k + j + 1 = l.length) : l.reverse.take (k + 1) = l.reverse.take k ++ [l[j]] := by
  rw [List.take_succ_eq_append_getElem (by simp; omega)]
  congr 2
  rw [List.getElem_reverse]
  congr 1
  omega
theorem rev_all (l : List UInt8) (k : Nat) (h : k = l.length) : l.reverse.take k = l.reverse := by
  rw [List.take_of_length_le (by simp; omega)]
theorem rev_len (l : List UInt8) (k : Nat) (h : k ≤ l.length) : (l.reverse.take k).length = k := by simp; omega
theorem itoa_rev_neg (n : Int) (h : n < 0) : (revD n.natAbs ++ [45]).reverse = itoa n := by
  rw [itoa_ng h, List.reverse_append, revD_dec n.natAbs n.natAbs (Nat.le_refl _) (by omega)]; rfl
theorem itoa_rev_pos (n : Int) (h : 0 < n) : (revD n.natAbs).reverse = itoa n := by
  rw [itoa_nn (by omega), revD_dec n.natAbs n.natAbs (Nat.le_refl _) (by omega)]

theorem u8dig (e : Nat) (h : e < 10) : (48 : Int) + (e : Int) = ((UInt8.ofNat (48 + e)).toNat : Int) := by
  rw [dig_toNat _ h]; omega

set_option maxHeartbeats 4000000 in
set_option maxRecDepth 100000 in
theorem specDec_neg (n : Int) (w : World) (h0 : -9223372036854775808 ≤ n) (h1 : n ≤ 9223372036854775807) (hn : n < 0) :
    Calls Tryd.prog 53 #[.int .i64 n] w fun e w' => e = .returned (.string ⟨(itoa n).toArray⟩) ∧ Below w.heap.size w w' := by
  obtain ⟨i0, hi, hz0, hz1, hz2⟩ := info_parts info_u8
  have HRL := Lib.hid (revD_len 19 n.natAbs (by omega))
  have HREV := Lib.hid (itoa_rev_neg n hn)
  have hne : (n == 0) = false := by simp; omega
  go_enter Tryd.func53, Tryd.ntmps53
  go_wp2
  go_loopw [3, 4, 5] (fun v r _ wr => ∃ (ds : List UInt8) (m : Nat), r = .int .i64 (-(m : Int)) ∧ Buf wr w.heap.size v ds ∧ ds ++ revD m = revD n.natAbs ∧ m ≤ n.natAbs ∧ Below w.heap.size w wr) (fun _ r _ _ => (intOf r).natAbs)
  case atStart => exact ⟨[], n.natAbs, by congr 1; omega, Buf.lit w, by simp, Nat.le_refl _, (Below.refl _ _).alloc (Nat.le_refl _) _⟩
  case round =>
    obtain ⟨ds, m, rfl, hbuf, hds, hmle, hB⟩ := hrel
    have HO := Lib.hid hbuf
    have HB := Lib.hid hB
    have hsz := hB.size
    by_cases hm : m = 0
    · rw [hm, revD_zero, List.append_nil] at hds
      subst hds
      have hz : ((-(m : Int)) == 0) = true := by simp; omega
      have hzb : ((-(m : Int)) != 0) = false := by simp; omega
      clear hbuf hB hm
      have HL := HRL
      have hlt : decide (n < 0) = true := decide_eq_true hn
      go_wp2_with (at_builtin; refine wpList_append_own _ rfl _ _ 43 rfl w.heap.size 5 i0 (.int .u8 0) 1 1 Tryd.underlying43 hi hz0 hz1 hz2 rfl (by decide) _ _ _ rfl (HO.out.alloc _) ⟨wr.heap.size, 0, none⟩ 1 1 [.int .u8 ((45 : UInt8).toNat : Int)] rfl rfl ?c1 ?c2 ?c3 ?c4 ?c5 ?_)
      case c1 => exact cell_one_new _ _ _
      case c2 => simp [Value.oneCell']
      case c3 => have := HL.out; unfold maxLen; omega
      case c4 => have := HL.out; omega
      case c5 => simp; omega
      intro v' W hown' hgrow _
      obtain ⟨D, hD⟩ : ∃ D, revD n.natAbs ++ [45] = D := ⟨_, rfl⟩
      have hdig := Buf.snoc (b := 45) hown'
      rw [hD] at hdig
      have HL2 : Hid (D.length ≤ 20) := by rw [Hid, ← hD]; have := HRL.out; simp; omega
      have HREV : Hid (D.reverse = itoa n) := by rw [Hid, ← hD]; exact HREV.out
      have HB := Lib.hid (Buf.below HB.out HO.out _ hgrow)
      clear hown' hgrow hD
      obtain ⟨da, dc, rfl, _, hcells⟩ := hdig.form
      have HC := Lib.hid hcells
      clear hcells hdig
      have hdl : D.length ≤ 20 := HL2.out
      go_wp2
      go_loopw [6, 7] (fun o i wr => ∃ k j : Nat, k + j = D.length ∧ i = .int .i64 ((j : Int) - 1) ∧ Buf wr W.heap.size o (D.reverse.take k) ∧ Below W.heap.size W wr) (fun _ i _ => (intOf i + 1).toNat)
      case atStart => exact ⟨0, D.length, by omega, by go_num, Buf.lit W, (Below.refl _ _).alloc (Nat.le_refl _) _⟩
      case round =>
        obtain ⟨k, j, hkj, rfl, hbuf, hB2⟩ := hrel
        by_cases hj : j = 0
        · subst hj
          have hconv := run_buf_string _ _ _ _ hbuf
          rw [rev_all D k (by omega), HREV.out] at hconv
          have HF := Lib.hid (HB.out.trans (hB2.mono HB.out.size))
          clear hbuf hB2
          go_wp2
          go_ret
          exact ⟨rfl, HF.out⟩
        · obtain ⟨p, rfl⟩ : ∃ p, j = p + 1 := ⟨j - 1, by omega⟩
          have hp : p < D.length := by omega
          obtain ⟨g, rfl, hg, hc⟩ := HC.out p hp
          have hc2 : wr.cell? ⟨g, p, none⟩ = some (.int .u8 (D[p].toNat : Int)) := (hB2.cell (p := ⟨g, p, none⟩) hg).trans hc
          have HS := Lib.hid (rev_snoc D k p hp (by omega))
          have HL := Lib.hid (rev_len D k (by omega))
          have HO := Lib.hid hbuf
          have hsz := hB2.size
          have hkm : min k D.length = k := by omega
          obtain ⟨x, hx⟩ : ∃ x, D[p] = x := ⟨_, rfl⟩
          rw [hx] at hc2
          rw [hx] at HS
          have HB2 := Lib.hid hB2
          clear hx hbuf hc hB2
          go_wp2_with (at_builtin; refine wpList_append_own _ rfl _ _ 43 rfl W.heap.size 5 i0 (.int .u8 0) 1 1 Tryd.underlying43 hi hz0 hz1 hz2 rfl (by decide) _ _ _ rfl (HO.out.alloc _) ⟨wr.heap.size, 0, none⟩ 1 1 [.int .u8 ((x : UInt8).toNat : Int)] rfl rfl ?c1 ?c2 ?c3 ?c4 ?c5 ?_)
          case c1 => exact cell_one_new _ _ _
          case c2 => simp [Value.oneCell']
          case c3 => have := HL.out; unfold maxLen; omega
          case c4 => have := HL.out; omega
          case c5 => simp; omega
          intro v' w1 hown' hgrow _
          have HO2 := Lib.hid (Buf.snoc (l := D.reverse.take k) (b := x) (by rw [HL.out]; exact hown'))
          have HW := Lib.hid (Buf.below HB2.out HO.out _ hgrow)
          clear hown' hgrow
          go_wp2
          go_roundw
          case rel => exact ⟨k + 1, p, by omega, by go_num, by rw [HS.out]; exact HO2.out, HW.out⟩
          case measure => simp [intOf] <;> omega
    · have HL : Hid (ds.length + 1 ≤ 19) := by
        have h2 := HRL.out
        rw [← hds, revD_pos hm] at h2
        simp at h2
        exact (by omega : ds.length + 1 ≤ 19)
      have HDS : Hid ((ds ++ [UInt8.ofNat (48 + m % 10)]) ++ revD (m / 10) = revD n.natAbs) := by rw [Hid, ← hds, revD_pos hm]; simp
      clear hds hbuf hB
      obtain ⟨e, he⟩ : ∃ e, m % 10 = e := ⟨_, rfl⟩
      have he10 : e < 10 := by omega
      have hu := u8dig e he10
      have hq0 : m / 10 ≤ n.natAbs := by omega
      have hlt10 : m / 10 < m := by omega
      have hz : (-(m : Int) == 0) = false := by simp; omega
      have hzb : (-(m : Int) != 0) = true := by simp; omega
      have hr : (-(m : Int)).tmod 10 = -(e : Int) := by rw [Int.neg_tmod, ← he]; congr 1
      have hq : (-(m : Int)).tdiv 10 = -((m / 10 : Nat) : Int) := by rw [Int.neg_tdiv]; congr 1
      obtain ⟨q, hqq⟩ : ∃ q, m / 10 = q := ⟨_, rfl⟩
      rw [he] at HDS
      rw [hqq] at HDS hq hq0 hlt10
      clear he hqq
      by_cases hd : e = 0
      · subst hd
        go_wp2_with (at_builtin; refine wpList_append_own _ rfl _ _ 43 rfl w.heap.size 5 i0 (.int .u8 0) 1 1 Tryd.underlying43 hi hz0 hz1 hz2 rfl (by decide) _ _ _ rfl (HO.out.alloc _) ⟨wr.heap.size, 0, none⟩ 1 1 [.int .u8 ((48 : UInt8).toNat : Int)] rfl rfl ?c1 ?c2 ?c3 ?c4 ?c5 ?_)
        case c1 => exact cell_one_new _ _ _
        case c2 => simp [Value.oneCell']
        case c3 => have := HL.out; unfold maxLen; omega
        case c4 => have := HL.out; omega
        case c5 => simp; omega
        intro v' w1 hown' hgrow _
        have HO2 := Lib.hid (Buf.snoc (b := 48) hown')
        have HW := Lib.hid (Buf.below HB.out HO.out _ hgrow)
        clear hown' hgrow
        go_wp2
        go_roundw
        case rel => exact ⟨_, q, by go_num, HO2.out, HDS.out, by omega, HW.out⟩
        case measure => simp [intOf]; omega
      · have hlt : decide (-(e : Int) < 0) = true := by simp; omega
        obtain ⟨x, hx⟩ : ∃ x, UInt8.ofNat (48 + e) = x := ⟨_, rfl⟩
        rw [hx] at HDS hu
        clear hx
        go_wp2_with (at_builtin; refine wpList_append_own _ rfl _ _ 43 rfl w.heap.size 5 i0 (.int .u8 0) 1 1 Tryd.underlying43 hi hz0 hz1 hz2 rfl (by decide) _ _ _ rfl (HO.out.alloc _) ⟨wr.heap.size, 0, none⟩ 1 1 [.int .u8 ((x : UInt8).toNat : Int)] rfl rfl ?c1 ?c2 ?c3 ?c4 ?c5 ?_)
        case c1 => exact cell_one_new _ _ _
        case c2 => simp [Value.oneCell']
        case c3 => have := HL.out; unfold maxLen; omega
        case c4 => have := HL.out; omega
        case c5 => simp; omega
        intro v' w1 hown' hgrow _
        have HO2 := Lib.hid (Buf.snoc (b := x) hown')
        have HW := Lib.hid (Buf.below HB.out HO.out _ hgrow)
        clear hown' hgrow
        go_wp2
        go_roundw
        case rel => exact ⟨_, q, by go_num, HO2.out, HDS.out, by omega, HW.out⟩
        case measure => simp [intOf]; omega

set_option maxHeartbeats 4000000 in
set_option maxRecDepth 100000 in
theorem specDec_pos (n : Int) (w : World) (h0 : -9223372036854775808 ≤ n) (h1 : n ≤ 9223372036854775807) (hn : 0 < n) :
    Calls Tryd.prog 53 #[.int .i64 n] w fun e w' => e = .returned (.string ⟨(itoa n).toArray⟩) ∧ Below w.heap.size w w' := by
  obtain ⟨i0, hi, hz0, hz1, hz2⟩ := info_parts info_u8
  have HRL := Lib.hid (revD_len 19 n.natAbs (by omega))
  have HREV := Lib.hid (itoa_rev_pos n hn)
  have hne : (n == 0) = false := by simp; omega
  go_enter Tryd.func53, Tryd.ntmps53
  go_wp2
  go_loopw [3, 4, 5] (fun v r _ wr => ∃ (ds : List UInt8) (m : Nat), r = .int .i64 (m : Int) ∧ Buf wr w.heap.size v ds ∧ ds ++ revD m = revD n.natAbs ∧ m ≤ n.natAbs ∧ Below w.heap.size w wr) (fun _ r _ _ => (intOf r).natAbs)
  case atStart => exact ⟨[], n.natAbs, by congr 1; omega, Buf.lit w, by simp, Nat.le_refl _, (Below.refl _ _).alloc (Nat.le_refl _) _⟩
  case round =>
    obtain ⟨ds, m, rfl, hbuf, hds, hmle, hB⟩ := hrel
    have HO := Lib.hid hbuf
    have HB := Lib.hid hB
    have hsz := hB.size
    by_cases hm : m = 0
    · rw [hm, revD_zero, List.append_nil] at hds
      subst hds
      have hz : ((m : Int) == 0) = true := by simp; omega
      have hzb : ((m : Int) != 0) = false := by simp; omega
      clear hbuf hB hm
      have hlt : decide (n < 0) = false := by simp; omega
      obtain ⟨D, hD⟩ : ∃ D, revD n.natAbs = D := ⟨_, rfl⟩
      have hdig := HO.out
      rw [hD] at hdig
      have HL2 : Hid (D.length ≤ 20) := by rw [Hid, ← hD]; have := HRL.out; omega
      have HREV : Hid (D.reverse = itoa n) := by rw [Hid, ← hD]; exact HREV.out
      obtain ⟨W, hW⟩ : ∃ W, W = wr := ⟨_, rfl⟩
      subst hW
      clear hD
      obtain ⟨da, dc, rfl, _, hcells⟩ := hdig.form
      have HC := Lib.hid hcells
      clear hcells hdig
      have hdl : D.length ≤ 20 := HL2.out
      go_wp2
      go_loopw [6, 7] (fun o i wr => ∃ k j : Nat, k + j = D.length ∧ i = .int .i64 ((j : Int) - 1) ∧ Buf wr W.heap.size o (D.reverse.take k) ∧ Below W.heap.size W wr) (fun _ i _ => (intOf i + 1).toNat)
      case atStart => exact ⟨0, D.length, by omega, by go_num, Buf.lit W, (Below.refl _ _).alloc (Nat.le_refl _) _⟩
      case round =>
        obtain ⟨k, j, hkj, rfl, hbuf, hB2⟩ := hrel
        by_cases hj : j = 0
        · subst hj
          have hconv := run_buf_string _ _ _ _ hbuf
          rw [rev_all D k (by omega), HREV.out] at hconv
          have HF := Lib.hid (HB.out.trans (hB2.mono HB.out.size))
          clear hbuf hB2
          go_wp2
          go_ret
          exact ⟨rfl, HF.out⟩
        · obtain ⟨p, rfl⟩ : ∃ p, j = p + 1 := ⟨j - 1, by omega⟩
          have hp : p < D.length := by omega
          obtain ⟨g, rfl, hg, hc⟩ := HC.out p hp
          have hc2 : wr.cell? ⟨g, p, none⟩ = some (.int .u8 (D[p].toNat : Int)) := (hB2.cell (p := ⟨g, p, none⟩) hg).trans hc
          have HS := Lib.hid (rev_snoc D k p hp (by omega))
          have HL := Lib.hid (rev_len D k (by omega))
          have HO := Lib.hid hbuf
          have hsz := hB2.size
          have hkm : min k D.length = k := by omega
          obtain ⟨x, hx⟩ : ∃ x, D[p] = x := ⟨_, rfl⟩
          rw [hx] at hc2
          rw [hx] at HS
          have HB2 := Lib.hid hB2
          clear hx hbuf hc hB2
          go_wp2_with (at_builtin; refine wpList_append_own _ rfl _ _ 43 rfl W.heap.size 5 i0 (.int .u8 0) 1 1 Tryd.underlying43 hi hz0 hz1 hz2 rfl (by decide) _ _ _ rfl (HO.out.alloc _) ⟨wr.heap.size, 0, none⟩ 1 1 [.int .u8 ((x : UInt8).toNat : Int)] rfl rfl ?c1 ?c2 ?c3 ?c4 ?c5 ?_)
          case c1 => exact cell_one_new _ _ _
          case c2 => simp [Value.oneCell']
          case c3 => have := HL.out; unfold maxLen; omega
          case c4 => have := HL.out; omega
          case c5 => simp; omega
          intro v' w1 hown' hgrow _
          have HO2 := Lib.hid (Buf.snoc (l := D.reverse.take k) (b := x) (by rw [HL.out]; exact hown'))
          have HW := Lib.hid (Buf.below HB2.out HO.out _ hgrow)
          clear hown' hgrow
          go_wp2
          go_roundw
          case rel => exact ⟨k + 1, p, by omega, by go_num, by rw [HS.out]; exact HO2.out, HW.out⟩
          case measure => simp [intOf] <;> omega
    · have HL : Hid (ds.length + 1 ≤ 19) := by
        have h2 := HRL.out
        rw [← hds, revD_pos hm] at h2
        simp at h2
        exact (by omega : ds.length + 1 ≤ 19)
      have HDS : Hid ((ds ++ [UInt8.ofNat (48 + m % 10)]) ++ revD (m / 10) = revD n.natAbs) := by rw [Hid, ← hds, revD_pos hm]; simp
      clear hds hbuf hB
      obtain ⟨e, he⟩ : ∃ e, m % 10 = e := ⟨_, rfl⟩
      have he10 : e < 10 := by omega
      have hu := u8dig e he10
      have hq0 : m / 10 ≤ n.natAbs := by omega
      have hlt10 : m / 10 < m := by omega
      have hz : ((m : Int) == 0) = false := by simp; omega
      have hzb : ((m : Int) != 0) = true := by simp; omega
      have hr : ((m : Int)).tmod 10 = (e : Int) := by subst he; rfl
      have hr2 : ((m : Int)) % 10 = (e : Int) := by subst he; simp
      have hq : ((m : Int)).tdiv 10 = ((m / 10 : Nat) : Int) := rfl
      have hq2 : ((m : Int)) / 10 = ((m / 10 : Nat) : Int) := rfl
      obtain ⟨q, hqq⟩ : ∃ q, m / 10 = q := ⟨_, rfl⟩
      have hlt : decide ((e : Int) < 0) = false := decide_eq_false (by omega)
      obtain ⟨x, hx⟩ : ∃ x, UInt8.ofNat (48 + e) = x := ⟨_, rfl⟩
      rw [he] at HDS
      rw [hqq] at HDS hq hq0 hlt10 hq2
      rw [hx] at HDS hu
      clear hx he hqq
      go_wp2_with (at_builtin; refine wpList_append_own _ rfl _ _ 43 rfl w.heap.size 5 i0 (.int .u8 0) 1 1 Tryd.underlying43 hi hz0 hz1 hz2 rfl (by decide) _ _ _ rfl (HO.out.alloc _) ⟨wr.heap.size, 0, none⟩ 1 1 [.int .u8 ((x : UInt8).toNat : Int)] rfl rfl ?c1 ?c2 ?c3 ?c4 ?c5 ?_)
      case c1 => exact cell_one_new _ _ _
      case c2 => simp [Value.oneCell']
      case c3 => have := HL.out; unfold maxLen; omega
      case c4 => have := HL.out; omega
      case c5 => simp; omega
      intro v' w1 hown' hgrow _
      have HO2 := Lib.hid (Buf.snoc (b := x) hown')
      have HW := Lib.hid (Buf.below HB.out HO.out _ hgrow)
      clear hown' hgrow
      go_wp2
      go_roundw
      case rel => exact ⟨_, q, by go_num, HO2.out, HDS.out, by omega, HW.out⟩
      case measure => simp [intOf]; omega

theorem specDec (n : Int) (w : World) (h0 : -9223372036854775808 ≤ n) (h1 : n ≤ 9223372036854775807) :
    Calls Tryd.prog 53 #[.int .i64 n] w fun e w' => e = .returned (.string ⟨(itoa n).toArray⟩) ∧ Below w.heap.size w w' := by
  by_cases hn : n < 0
  · exact specDec_neg n w h0 h1 hn
  · by_cases hp : 0 < n
    · exact specDec_pos n w h0 h1 hp
    · obtain rfl : n = 0 := by omega
      have hz : itoa 0 = [48] := by rw [itoa_nn (by omega), decD_small (by decide)]; rfl
      rw [hz]
      go_enter Tryd.func53, Tryd.ntmps53
      go_wp2
      go_ret
      exact ⟨rfl, Below.refl _ _⟩
end Go.Proofs.YtemjohkieehojaaDoor
