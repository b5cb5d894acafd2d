/- How often a wave goes up in windows, one behind the other: the model's side, and the law's walk. -/
import Derived.Test.YtfekdmnhlbjmaaaCWin
import Derived.Test.YtfekdmnhlbjmaaaUpsS
import Derived.Test.YtfekdmnhlbjmaaaFltI
namespace Go.Proofs.Ytfekdmnhlbjmaaa
open Go.RowKit Go.Shelf
set_option linter.unusedVariables false
set_option linter.unusedSimpArgs false

def cwK (s : ByteArray) (T : Nat) : Nat → List Int
  | 0 => []
  | k + 1 => if (k + 1) % T = 0 then cwK s T k ++ [((lastC (upB s) T (k + 1) : Nat) : Int)] else cwK s T k
theorem cwK_eq (s : ByteArray) (T : Nat) (hT : 1 ≤ T) (k : Nat) : cwL T (upsL s T k) = cwK s T k := by
  induction k with
  | zero => rfl
  | succ k ih =>
    rw [cwK]
    by_cases h : T ≤ k + 1
    · rw [upsL_hit s T k h]
      by_cases h0 : (k + 1) % T = 0
      · rw [if_pos h0, cwL_hit T _ _ (by show Int.tmod ((k + 1 : Nat) : Int) (T : Int) = 0; rw [show Int.tmod ((k + 1 : Nat) : Int) (T : Int) = (((k + 1) % T : Nat) : Int) from rfl, h0]; rfl), ih]
      · rw [if_neg h0, cwL_miss T _ _ (by show ¬ Int.tmod ((k + 1 : Nat) : Int) (T : Int) = 0; rw [show Int.tmod ((k + 1 : Nat) : Int) (T : Int) = (((k + 1) % T : Nat) : Int) from rfl]; omega), ih]
    · rw [upsL_miss s T k h, if_neg (by rw [Nat.mod_eq_of_lt (by omega)]; omega), ih]
theorem cwK_gap (s : ByteArray) (T f : Nat) (hf : f % T = 0) : ∀ d, d < T → cwK s T (f + d) = cwK s T f := by
  intro d
  induction d with
  | zero => intro _; rfl
  | succ d ih =>
    intro h
    rw [← Nat.add_assoc, cwK, if_neg (by
      have e : (f + d + 1) % T = (d + 1) % T := by rw [Nat.add_assoc, Nat.add_mod, hf, Nat.zero_add, Nat.mod_mod]
      rw [e, Nat.mod_eq_of_lt h]; omega), ih (by omega)]
theorem cwK_next (s : ByteArray) (T f : Nat) (hT : 1 ≤ T) (hf : f % T = 0) : cwK s T (f + T) = cwK s T f ++ [((lastC (upB s) T (f + T) : Nat) : Int)] := by
  obtain ⟨t, rfl⟩ : ∃ t, T = t + 1 := ⟨T - 1, by omega⟩
  have e : (f + t + 1) % (t + 1) = 0 := by rw [Nat.add_assoc, Nat.add_mod_right, hf]
  rw [← Nat.add_assoc, cwK, if_pos e, cwK_gap s (t + 1) f hf t (by omega)]
theorem cwK_len (s : ByteArray) (T k : Nat) : (cwK s T k).length ≤ k := by
  induction k with
  | zero => simp [cwK]
  | succ k ih => rw [cwK]; split <;> first | (simp; omega) | omega
theorem last_winC (m : Nat → Bool) (T f : Nat) : cntN m f (f + T - f) = lastC m T (f + T) := by
  unfold lastC; rw [show f + T - T = f by omega, Nat.min_eq_right (by omega), show f + T - f = T by omega]
theorem cell_one_atC (W : World) (x : Value) (t : TypeId) (q : Nat) (hq : q = W.heap.size) : ∀ j u, [x][j]? = some u → (W.alloc (.cells #[x] t)).cell? ((⟨q, 0, none⟩ : Addr).add j) = some u := by subst hq; exact cell_one_new _ _ _
theorem ints_belowC {B : Nat} {w wr w1 : World} {v : Value} {l : List Int} (hB : Below B w wr) (hBw : B ≤ w.heap.size) (h : Ints wr B v l) (o : Obj) (hg : (wr.alloc o).grownBy w1 v.ownBlock) : Below B w w1 :=
  (hB.alloc (Nat.le_trans hBw hB.size) o).grown hg (by have := hB.size; simp; omega) (fun k e => ((World.ownsRow.alloc h o).lt k e).1)
set_option maxHeartbeats 2000000 in
set_option maxRecDepth 100000 in
theorem specCW_t (s : ByteArray) (T : Nat) (w : World) (hs : s.size ≤ maxLen) (hc : canB s (T : Int) = true) :
    Calls Try.prog 31 #[.string s, .int .i64 (T : Int)] w fun e W' => ∃ v, e = .returned (.tuple #[v, .bool true]) ∧ Ints W' w.heap.size v (cwL T (upsL s T s.size)) ∧ Below w.heap.size w W' := by
  obtain ⟨hw, hT1, hT2⟩ := canB_t hc
  have hz := wave_le hw
  rw [cwK_eq s T (by omega)]
  have HF := Lib.hid (fun w => l09F_any s (T : Int) w hs)
  rw [hc] at HF
  obtain ⟨i0, hi, hz0, hz1, hz2⟩ := info_parts info_i64
  have HU := Lib.hid (fun f w (h : f + T ≤ s.size) => ups_any s f (f + T) w hw h)
  clear hw hc
  go_enter Try.func31, Try.ntmps31
  go_wp2_with fail
  refine (HF.out _).mono ?_; rintro e w1 ⟨rfl, rfl⟩
  go_wp2
  go_loopw [6, 7] (fun v i wr => ∃ f : Nat, f ≤ s.size ∧ i = .int .i64 f ∧ Hid (f % T = 0) ∧ Hid (Ints wr w.heap.size v (cwK s T f)) ∧ Hid (Below w.heap.size w wr)) (fun _ i _ => s.size - (intOf i).toNat)
  case atStart => exact ⟨0, Nat.zero_le _, rfl, Nat.zero_mod _, Lib.hid (Ints.lit w), Lib.hid ((Below.refl _ _).alloc (Nat.le_refl _) _)⟩
  case round =>
    obtain ⟨f, hf, rfl, HM, HBU, HB⟩ := hrel
    obtain ⟨e, he⟩ : ∃ e, f + T = e := ⟨_, rfl⟩
    have hwe : IntKind.i64.wrap ((f : Int) + (T : Int)) = (e : Int) := by rw [IntWalk.i64_in _ (by omega)]; omega
    have hei : (f : Int) + (T : Int) = (e : Int) := by omega
    have hlen := cwK_len s T f
    by_cases hlt : e ≤ s.size
    · have hltI : (e : Int) ≤ (s.size : Int) := by omega
      have HUU := Lib.hid (fun W => HU.out f W (by omega))
      rw [last_winC, he] at HUU
      have HN := Lib.hid (cwK_next s T f (by omega) HM.out)
      rw [he] at HN
      obtain ⟨c, hcc⟩ : ∃ c, lastC (upB s) T e = c := ⟨_, rfl⟩
      rw [hcc] at HUU HN
      have HM2 : Hid (e % T = 0) := by show _ = _; rw [← he, Nat.add_mod_right]; exact HM.out
      have HE1 : Hid (f < e) := by show _ < _; omega
      clear hcc he
      go_wp2_with fail
      refine (HUU.out _).mono ?_; rintro e' w1 ⟨rfl, b1⟩
      have HB1 : Hid (Below w.heap.size w w1) := HB.out.trans (b1.mono HB.out.size)
      have HI1 := Lib.hid (HBU.out.keep b1 (Nat.le_refl _))
      have hsz := HB1.out.size
      clear b1
      go_wp2_with (at_builtin; refine wpList_append_own _ rfl _ _ 41 rfl w.heap.size 2 i0 (.int .i64 0) 1 8 Try.underlying41 hi hz0 hz1 hz2 rfl (by decide) _ _ _ rfl (HI1.out.alloc _) ⟨w1.heap.size, 0, none⟩ 1 1 [.int .i64 (c : Int)] rfl rfl ?c1 ?c2 ?c3 ?c4 ?c5 ?_)
      case c1 => exact cell_one_atC _ _ _ _ (by first | rfl | simp)
      case c2 => simp [Value.oneCell']
      case c3 => unfold maxLen; omega
      case c4 => omega
      case c5 => first | omega | (simp; omega)
      intro v' w7 hown' hgrow _
      have HO := Lib.hid (Ints.snoc hown')
      have HW7 := Lib.hid (ints_belowC HB1.out (by omega) HI1.out _ hgrow)
      clear hown' hgrow
      go_wp2
      go_roundw
      case rel => exact ⟨e, hlt, by first | rfl | go_num, HM2, by rw [HN.out]; exact HO, HW7⟩
      case measure => have := HE1.out; simp [intOf]; omega
    · have hltI : ¬ (e : Int) ≤ (s.size : Int) := by omega
      have HE : Hid (cwK s T s.size = cwK s T f) := by
        show _ = _
        have := cwK_gap s T f HM.out (s.size - f) (by omega)
        rw [show f + (s.size - f) = s.size by omega] at this
        exact this
      clear he
      go_wp2
      go_ret2
      exact ⟨_, rfl, by rw [HE.out]; exact HBU.out, HB.out⟩
theorem specCW_f (s : ByteArray) (T : Int) (w : World) (hs : s.size ≤ maxLen) (hc : canB s T = false) :
    Calls Try.prog 31 #[.string s, .int .i64 T] w fun e W' => ∃ v, e = .returned (.tuple #[v, .bool false]) ∧ Ints W' w.heap.size v [] ∧ Below w.heap.size w W' := by
  have HF := Lib.hid (fun w => l09F_any s T w hs)
  rw [hc] at HF
  go_enter Try.func31, Try.ntmps31
  go_wp2_with fail
  refine (HF.out _).mono ?_; rintro e w1 ⟨rfl, rfl⟩
  go_wp2
  go_ret2
  exact ⟨_, rfl, Ints.nil _ _, Below.refl _ _⟩
theorem implCW_f (s : ByteArray) (T : Int) (w : World) (hs : s.size ≤ maxLen) (hc : canB s T = false) :
    Calls Try.prog 32 #[.string s, .int .i64 T] w fun e W' => ∃ v, e = .returned (.tuple #[v, .bool false]) ∧ Ints W' w.heap.size v [] ∧ Below w.heap.size w W' := by
  have HC := Lib.hid (fun w => canF_any s T w hs)
  rw [hc] at HC
  go_enter Try.func32, Try.ntmps32
  go_wp2_with fail
  refine (HC.out _).mono ?_; rintro e w1 ⟨rfl, b1⟩
  have HB1 := Lib.hid b1
  clear b1
  go_wp2
  go_ret2
  refine ⟨_, rfl, Ints.nil _ _, ?_⟩
  first | exact HB1.out | exact ((Below.refl w.heap.size w).alloc (Nat.le_refl _) _).trans (HB1.out.mono (by simp))
theorem cw_ex (c : Int) (s : ByteArray) (hs : s.size ≤ maxLen) : ∃ (l : List Int) (b : Bool), l.length ≤ 1048576 ∧
    (∀ w, Calls Try.prog 31 #[.string s, .int .i64 c] w fun e W' => ∃ v, e = .returned (.tuple #[v, .bool b]) ∧ Ints W' w.heap.size v l ∧ Below w.heap.size w W') ∧
    (∀ w, Calls Try.prog 32 #[.string s, .int .i64 c] w fun e W' => ∃ v, e = .returned (.tuple #[v, .bool b]) ∧ Ints W' w.heap.size v l ∧ Below w.heap.size w W') := by
  cases hc : canB s c with
  | false => exact ⟨[], false, Nat.zero_le _, fun w => specCW_f s c w hs hc, fun w => implCW_f s c w hs hc⟩
  | true =>
    obtain ⟨n, rfl⟩ := fraw c (canB_t hc).2
    have hz := wave_le (canB_t hc).1
    exact ⟨_, true, by rw [cwK_eq s n (by have := (canB_t hc).2.1; omega)]; have := cwK_len s n s.size; omega, fun w => specCW_t s n w hs hc, fun w => callsIn_wide (n := 5).1 (implCW_in 5 (Nat.le_refl _) s n w hs hc)⟩
set_option maxHeartbeats 1000000 in
set_option maxRecDepth 100000 in
theorem walk_FnExactCountWindows (s : ByteArray) (c : Int) (w : World) (hs : s.size ≤ maxLen) (_w0 : (Lit.int .i64 c).wf = true) :
    Calls Try.prog 11 #[.string s, .int .i64 c] w fun e w' => e = .returned (.bool true) ∧ Below w.heap.size w w' := by
  by_cases hl : (s.size : Int) ≤ 1048576
  · obtain ⟨l, b, hlen, hS, hI⟩ : ∃ (l : List Int) (b : Bool), l.length ≤ 1048576 ∧ (∀ w, Calls Try.prog 31 #[.string s, .int .i64 c] w fun e W' => ∃ v, e = .returned (.tuple #[v, .bool b]) ∧ Ints W' w.heap.size v l ∧ Below w.heap.size w W') ∧ (∀ w, Calls Try.prog 32 #[.string s, .int .i64 c] w fun e W' => ∃ v, e = .returned (.tuple #[v, .bool b]) ∧ Ints W' w.heap.size v l ∧ Below w.heap.size w W') := by
      obtain ⟨l, b, hl2, h1, h2⟩ := cw_ex c s hs
      exact ⟨l, b, hl2, h1, h2⟩
    have HS := Lib.hid hS
    have HI := Lib.hid hI
    clear hS hI
    go_enter Try.func11, Try.ntmps11
    go_wp2_with fail
    refine (HS.out _).mono ?_; rintro e w1 ⟨v0, rfl, i0, b1⟩
    go_wp2_with fail
    refine (HI.out _).mono ?_; rintro e w2 ⟨v1, rfl, i1, b2⟩
    have HI0 := Lib.hid i0
    have HI1 := Lib.hid i1
    clear i0 i1
    go_wp2_with fail
    refine (eqInts_same _ _ v1 v0 l _ HI1.out (HI0.out.keep b2 (Nat.le_refl _))).mono ?_; rintro e w' ⟨rfl, q, rfl⟩
    go_wp2_with fail
    refine (markInts _ v1 l 1 (w2.drewN q) HI1.out (by omega) (by omega)).mono ?_; rintro e w3 ⟨rfl, i3, b3, z3⟩
    have HI3 := Lib.hid i3
    have HZ := Lib.hid z3
    clear i3 z3
    go_wp2_with fail
    refine (heldInts _ v1 l.length 1 _ HI3.out (by omega) (by omega)).mono ?_; rintro e w' ⟨rfl, rfl⟩
    go_wp2_with fail
    refine (HI.out _).mono ?_; rintro e w4 ⟨v2, rfl, i4, b4⟩
    have HI4 := Lib.hid i4
    have B3 : Below w1.heap.size w2 w3 := ⟨b3.os, b3.tape, b3.output, b3.size, b3.block⟩
    have hs2 := b2.size
    have hs3 := B3.size
    have HI0' := Lib.hid ((HI0.out.keepLt (HI0.out.keep b2 (Nat.le_refl _)) B3 (Nat.le_refl _)).keep b4 (Nat.le_refl _))
    have HI3' := Lib.hid (HI3.out.keep b4 (Nat.le_refl _))
    clear i4 b3
    go_wp2_with fail
    refine (eqInts_same _ _ v2 v0 l _ HI4.out HI0'.out).mono ?_; rintro e w' ⟨rfl, q2, rfl⟩
    go_wp2_with fail
    refine (heldInts _ v1 l.length 1 (w4.drewN q2) HI3'.out (by omega) (by omega)).mono ?_; rintro e w' ⟨rfl, rfl⟩
    go_wp2
    go_ret
    have hs1 := b1.size
    have hfin := (((b1.trans (b2.mono hs1)).trans (B3.mono hs1)).trans (b4.mono (by omega)))
    exact ⟨rfl, ⟨hfin.os, hfin.tape, hfin.output, hfin.size, hfin.block⟩⟩
  · go_enter Try.func11, Try.ntmps11
    go_wp2
    go_ret
    exact ⟨rfl, Below.refl _ _⟩
end Go.Proofs.Ytfekdmnhlbjmaaa
