/- The tightest bounds, on the side of the model: rows of a table, the bounds put into it, and the rounds over its events. -/
import Derived.Test.YtkipgeecibimoaaMat
import Derived.Test.YtkipgeecibimoaaHas
import Derived.Test.YtkipgeecibimoaaDia
import Derived.Test.YtkipgeecibimoaaQuietTail
import Derived.BigQuiet
import Derived.IntWalk
namespace Go.Proofs.Ytkipgeecibimoaa
open Go.RowKit
set_option linter.unusedVariables false

theorem Ints.snocT {w1 : World} {B : Nat} {v : Value} {l : List Int} {x : Int} (h : w1.ownsRow B 2 1 v (l.length + 1) (l.map (Value.int .i64) ++ [.int .i64 x])) : Ints w1 B v (l ++ [x]) := by
  unfold Ints; rw [List.map_append, List.length_append]; exact h
theorem Ints.belowT {w wr w1 : World} {v : Value} {l : List Int} (hB : Below w.heap.size w wr) (hbuf : Ints wr w.heap.size v l) (o : Obj) (hg : (wr.alloc o).grownBy w1 v.ownBlock) : Below w.heap.size w w1 :=
  (hB.alloc hB.size o).grown hg (by have := hB.size; simp; omega) (fun k e => ((World.ownsRow.alloc hbuf o).lt k e).1)
theorem ownSl_below {w wr w1 : World} {v : Value} {r : Nat} {xs : List Value} (hB : Below w.heap.size w wr) (h : wr.ownsRow w.heap.size 30 1 v r xs) (o : Obj) (hg : (wr.alloc o).grownBy w1 v.ownBlock) : Below w.heap.size w w1 :=
  (hB.alloc hB.size o).grown hg (by have := hB.size; simp; omega) (fun k e => ((World.ownsRow.alloc h o).lt k e).1)
theorem RowAt.keep {w w' : World} {a : Option Addr} {l : List Int} (h : RowAt w a l) (hb : Below w.heap.size w w') : RowAt w' a l := fun k hk => by
  obtain ⟨g, e, hc⟩ := h k hk
  exact ⟨g, e, (hb.cell (World.block_lt_of_cell? w _ hc)).trans hc⟩
theorem quiet_eqT {P : Program} {f : FuncId} {args : Array Value} {w : World} {n : Nat} {v : Value}
    (h : Calls P f args (w.drewN n) fun e w' => e = .returned v ∧ w.drewN n = w') : Calls P f args (w.drewN n) fun e w'' => e = .returned v ∧ ∃ m, w'' = w.drewN m :=
  h.mono fun _ _ ⟨he, hm⟩ => ⟨he, n, hm.symm⟩
theorem bwT {B : Nat} {a w : World} (h : Below B a w) (n : Nat) : Below B a (w.drewN n) := ⟨h.os, h.tape, h.output, h.size, h.block⟩
theorem MatW.drewNT {w : World} {B n : Nat} {M : Nat → Nat → Int} {go : Nat} {g c : Nat → Nat} (h : MatW w B n M go g c) (q : Nat) : MatW (w.drewN q) B n M go g c := h.below (N := w.heap.size) ⟨rfl, rfl, rfl, Nat.le_refl _, fun _ _ => rfl⟩ (Nat.le_refl _)
def imin (x y : Int) : Int := if x ≤ y then x else y
theorem l00Min_any (x y : Int) (w : World) :
    Calls Try.prog 155 #[.int .i64 x, .int .i64 y] w fun e w' => e = .returned (.int .i64 (imin x y)) ∧ w = w' := by
  unfold imin
  by_cases h : x < y
  · rw [if_pos (by omega)]
    go_enter Try.func155, Try.ntmps155
    go_wp2
    go_ret
    exact ⟨rfl, rfl⟩
  · have e : (if x ≤ y then x else y) = y := by split <;> omega
    rw [e]
    go_enter Try.func155, Try.ntmps155
    go_wp2
    go_ret
    exact ⟨rfl, rfl⟩
/-- what the rounds tell -/
def TightR (bs : List Bd) (n : Nat) (w : World) (e : Ending) (w' : World) : Prop := ∃ (go cap : Nat) (g c : Nat → Nat) (M : Nat → Nat → Int) (ok : Bool), e = .returned (.tuple #[.slice (some ⟨go, 0, none⟩) n cap, .bool ok]) ∧ n ≤ cap ∧ MatW w' w.heap.size n M go g c ∧
  Sound bs n M ∧ Comp bs n n M ∧ (ok = true ↔ ∀ a, a < n → 0 ≤ M a a) ∧ Below w.heap.size w w'

set_option maxHeartbeats 8000000 in
set_option maxRecDepth 100000 in
theorem tight_any (p B n nb capb wn wcap : Nat) (a wa : Option Addr) (F Wl : List Int) (w : World) (hp : At2 w p (.int .i64 (n : Int)) (.slice a nb capb)) (hr : Recs w B (.slice a nb capb) nb F) (hF : FsIn F n nb) (hn1 : 1 ≤ n) (hn : n ≤ 10) (hnb : nb ≤ 24)
    (hW : RowAt w wa Wl) (hWn : wn = Wl.length) (hWl : Wl.length ≤ 1000) :
    Calls Try.prog 100 #[.pointer (some ⟨p, 0, none⟩), .slice wa wn wcap] w fun e w' => TightR (keptB F Wl nb) n w e w' := by
  obtain ⟨i0, hi, hz0, hz1, hz2⟩ := info_parts info_i64
  obtain ⟨j0, hj, hy0, hy1, hy2⟩ := info_parts info_sl
  have HP := Lib.hid hp
  have HR := Lib.hid hr
  have HF := Lib.hid hF
  have HW := Lib.hid hW
  have HWN := Lib.hid hWn
  have HWL := Lib.hid hWl
  clear hp hr hF hW hWn hWl
  obtain ⟨bs, hbsE⟩ : ∃ bs, keptB F Wl nb = bs := ⟨_, rfl⟩
  rw [hbsE]
  have HBSE := Lib.hid hbsE
  clear hbsE
  go_enter Try.func100, Try.ntmps100
  go_wp2
  go_loopw [6, 7, 8, 9] (fun v i _ _ wr => ∃ (r : Nat) (g c : Nat → Nat), r ≤ n ∧ i = .int .i64 (r : Int) ∧ RowsB wr w.heap.size v n r tab0 g c ∧ Below w.heap.size w wr) (fun _ i _ _ _ => n - (intOf i).toNat)
  case atStart => exact ⟨0, fun _ => 0, fun _ => 0, Nat.zero_le _, rfl, RowsB.start w n tab0, (Below.refl _ _).alloc (Nat.le_refl _) _⟩
  case round =>
    obtain ⟨r, g, c, hrn, rfl, hrows, hB⟩ := hrel
    obtain ⟨p0, p1, p2, p3⟩ := HP.out.below hB HP.out.lt
    have HROWS := Lib.hid hrows
    have HB := Lib.hid hB
    clear hrows hB p2 p3
    by_cases hlt : r < n
    · obtain ⟨W, hWr⟩ : ∃ W, W = wr := ⟨_, rfl⟩
      subst hWr
      go_wp2
      go_loopw [8, 9] (fun u k wr => ∃ j : Nat, j ≤ n ∧ k = .int .i64 (j : Int) ∧ Ints wr W.heap.size u (rowL tab0 j r) ∧ Below W.heap.size W wr) (fun _ k _ => n - (intOf k).toNat)
      case atStart => exact ⟨0, Nat.zero_le _, rfl, Ints.lit W, (Below.refl _ _).alloc (Nat.le_refl _) _⟩
      case round =>
        obtain ⟨j, hjn, rfl, hrow, hB2⟩ := hrel
        have HB2 := Lib.hid hB2
        have HROW := Lib.hid hrow
        obtain ⟨q0, q1, q2, q3⟩ := (HP.out.below HB.out HP.out.lt).below hB2 (Nat.lt_of_lt_of_le HP.out.lt HB.out.size)
        have hszj := hB2.size
        have HLEN := Lib.hid (rowL_len tab0 j r)
        have HSN := Lib.hid (rowL_snoc tab0 j r)
        clear hrow hB2 q1 q2 q3
        by_cases hjl : j < n
        · by_cases hrj : r = j
          · have HE : Hid (tab0 r j = 0) := by rw [Hid, tab0, if_pos hrj]
            have hq1 : ((r : Int) == (j : Int)) = true := by simp [hrj]
            clear hrj
            go_wp2_with (at_builtin; refine wpList_append_own _ rfl _ _ 30 rfl W.heap.size 2 i0 (.int .i64 0) 1 8 Try.underlying30 hi hz0 hz1 hz2 rfl (by decide) _ _ _ rfl (HROW.out.alloc _) ⟨wr.heap.size, 0, none⟩ 1 1 [.int .i64 0] rfl rfl ?c1 ?c2 ?c3 ?c4 ?c5 ?_)
            case c1 => exact cell_one_new _ _ _
            case c2 => simp [Value.oneCell']
            case c3 => rw [HLEN.out]; unfold maxLen; omega
            case c4 => rw [HLEN.out]; omega
            case c5 => simp; omega
            intro v' w1 hown' hgrow _
            have HO := Lib.hid (Ints.snocT (x := 0) hown')
            have HW1 := Lib.hid (Ints.belowT HB2.out HROW.out _ hgrow)
            clear hown' hgrow
            go_wp2
            go_roundw
            case rel => exact ⟨j + 1, by omega, by go_num, by rw [HSN.out, HE.out]; exact HO.out, HW1.out⟩
            case measure => simp [intOf]; omega
          · have HE : Hid (tab0 r j = 1000000) := by rw [Hid, tab0, if_neg hrj]
            have hq1 : ((r : Int) == (j : Int)) = false := by simp; omega
            clear hrj
            go_wp2_with (at_builtin; refine wpList_append_own _ rfl _ _ 30 rfl W.heap.size 2 i0 (.int .i64 0) 1 8 Try.underlying30 hi hz0 hz1 hz2 rfl (by decide) _ _ _ rfl (HROW.out.alloc _) ⟨wr.heap.size, 0, none⟩ 1 1 [.int .i64 1000000] rfl rfl ?c1 ?c2 ?c3 ?c4 ?c5 ?_)
            case c1 => exact cell_one_new _ _ _
            case c2 => simp [Value.oneCell']
            case c3 => rw [HLEN.out]; unfold maxLen; omega
            case c4 => rw [HLEN.out]; omega
            case c5 => simp; omega
            intro v' w1 hown' hgrow _
            have HO := Lib.hid (Ints.snocT (x := 1000000) hown')
            have HW1 := Lib.hid (Ints.belowT HB2.out HROW.out _ hgrow)
            clear hown' hgrow
            go_wp2
            go_roundw
            case rel => exact ⟨j + 1, by omega, by go_num, by rw [HSN.out, HE.out]; exact HO.out, HW1.out⟩
            case measure => simp [intOf]; omega
        · obtain rfl : n = j := by omega
          obtain ⟨ar, cr, hv, _, hk⟩ := HROW.out.form
          obtain ⟨gr, hgr, -⟩ := hk 0 (by rw [HLEN.out]; omega)
          rw [HLEN.out, hgr] at hv
          subst hv
          have HRW := Lib.hid (HROWS.out.keep HB2.out (Nat.le_refl _))
          have HBW := Lib.hid (HB.out.trans (HB2.out.mono HB.out.size))
          have hsz3 := HBW.out.size
          clear hk hgr
          go_wp2_with (at_builtin; refine wpList_append_own _ rfl _ _ 60 rfl w.heap.size 30 j0 (.slice none 0 0) 1 24 Try.underlying60 hj hy0 hy1 hy2 rfl (by decide) _ _ _ rfl (HRW.out.own.alloc _) ⟨wr.heap.size, 0, none⟩ 1 1 [.slice (some ⟨gr, 0, none⟩) n cr] rfl rfl ?c1 ?c2 ?c3 ?c4 ?c5 ?_)
          case c1 => exact cell_one_new _ _ _
          case c2 => simp [Value.oneCell']
          case c3 => unfold maxLen; omega
          case c4 => omega
          case c5 => simp; omega
          intro v' w1 hown' hgrow _
          have HN := Lib.hid (RowsB.push HROWS.out HRW.out HB.out.size HROW.out _ hgrow hown')
          have HW1 := Lib.hid (ownSl_below HBW.out HRW.out.own _ hgrow)
          clear hown' hgrow
          go_wp2
          go_roundw
          case rel => exact ⟨r + 1, _, _, by omega, by go_num, HN.out, HW1.out⟩
          case measure => simp [intOf]; omega
    · obtain rfl : n = r := by omega
      obtain ⟨go, cap, hv, hcap, hmat⟩ := HROWS.out.mat (by omega)
      subst hv
      have HM0 := Lib.hid hmat
      obtain ⟨W, hWr⟩ : ∃ W, W = wr := ⟨_, rfl⟩
      subst hWr
      clear hmat HROWS
      go_wp2
      go_loopw [10, 11] (fun i _ wr => ∃ (k : Nat) (M : Nat → Nat → Int), k ≤ nb ∧ i = .int .i64 (k : Int) ∧ MatW wr w.heap.size n M go g c ∧ Ini (keptB F Wl k) n M ∧ Below w.heap.size w wr) (fun i _ _ => nb - (intOf i).toNat)
      case atStart => exact ⟨0, tab0, Nat.zero_le _, rfl, HM0.out, Ini.start n, HB.out⟩
      case round =>
        obtain ⟨k, M, hkb, rfl, hm, hini, hB2⟩ := hrel
        obtain ⟨q0, q1, q2, q3⟩ := HP.out.below hB2 HP.out.lt
        have HM := Lib.hid hm
        have HI := Lib.hid hini
        have HB2 := Lib.hid hB2
        clear hm hini q2 q3
        by_cases hlt : k < nb
        · obtain ⟨gb, x, y, z, rfl, -, hgl, ⟨e0, e1, e2⟩, x0, x1, x2⟩ := (HR.out.keep hB2 (Nat.le_refl _)).at k hlt
          obtain ⟨r1, r2, r3, r4⟩ := HF.out k hlt
          rw [e0] at r1
          rw [e1] at r2
          rw [e2] at r3 r4
          obtain ⟨f, rfl⟩ := Int.eq_ofNat_of_zero_le r1.1
          obtain ⟨t, rfl⟩ := Int.eq_ofNat_of_zero_le r2.1
          have hfn : f < n := by omega
          have htn : t < n := by omega
          have HBD : Hid (bdAt F k = ⟨f, t, z⟩) := by rw [Hid, bdAt, e0, e1, e2]; rfl
          have HRA := Lib.hid (HW.out.keep (hB2.alloc hB2.size (.cells #[.int .i64 (f : Int), .int .i64 (t : Int), .int .i64 z] 214)))
          have hal : Below wr.heap.size wr (wr.alloc (.cells #[.int .i64 (f : Int), .int .i64 (t : Int), .int .i64 z] 214)) := (Below.refl _ wr).alloc (Nat.le_refl _) _
          have HMA := Lib.hid (HM.out.below hal (Nat.le_refl _))
          have HBA := Lib.hid (hB2.alloc hB2.size (.cells #[.int .i64 (f : Int), .int .i64 (t : Int), .int .i64 z] 214))
          have b0 : (wr.alloc (.cells #[.int .i64 (f : Int), .int .i64 (t : Int), .int .i64 z] 214)).cell? ⟨wr.heap.size, 0, none⟩ = some (.int .i64 (f : Int)) := by simp
          have b1 : (wr.alloc (.cells #[.int .i64 (f : Int), .int .i64 (t : Int), .int .i64 z] 214)).cell? ⟨wr.heap.size, 1, none⟩ = some (.int .i64 (t : Int)) := by simp
          have b2 : (wr.alloc (.cells #[.int .i64 (f : Int), .int .i64 (t : Int), .int .i64 z] 214)).cell? ⟨wr.heap.size, 2, none⟩ = some (.int .i64 z) := by simp
          have C0 := Lib.hid b0
          have C1 := Lib.hid b1
          have C2 := Lib.hid b2
          clear e0 e1 e2 r1 r2 hB2 hal b0 b1 b2
          go_wp2_with fail
          refine (l00Has_any wa Wl wn wcap (k : Int) _ HWN.out HRA.out (by have := HWL.out; unfold maxLen; omega)).mono ?_
          rintro e w' ⟨rfl, rfl⟩
          cases hc : hasB Wl (k : Int) with
          | true =>
            have HK : Hid (keptB F Wl (k + 1) = keptB F Wl k) := by rw [Hid, keptB, if_pos (show Wl.contains (k : Int) = true from hc)]
            clear hc
            go_wp2
            go_roundw
            case rel => exact ⟨k + 1, M, by omega, by go_num, HMA.out, by rw [HK.out]; exact HI.out, HBA.out⟩
            case measure => simp [intOf]; omega
          | false =>
            have HK : Hid (keptB F Wl (k + 1) = keptB F Wl k ++ [⟨f, t, z⟩]) := by rw [Hid, keptB, if_neg (by rw [show Wl.contains (k : Int) = false from hc]; decide), HBD.out]
            obtain ⟨m0, m1⟩ := HMA.out.cell f t hfn htn
            have m2 := HMA.out.row f hfn
            obtain ⟨m3, m4, m5, m6⟩ := HMA.out.hg f hfn
            have c0 := C0.out
            have c1 := C1.out
            have c2 := C2.out
            have hst := Lib.hid (HMA.out.set f t hfn htn (imin (M f t) z))
            have hist := Lib.hid (HI.out.step ⟨f, t, z⟩ hfn htn r3 r4)
            have i1 : (0 : Int) ≤ (f : Int) := by omega
            have i2 : (f : Int) ≤ (n : Int) := by omega
            have i3 : (f : Int) < (n : Int) := by omega
            have i4 : (t : Int) < (n : Int) := by omega
            have i5 : f < cap := by omega
            have i6 : t < c f := by omega
            clear hc
            obtain ⟨W2, hW2⟩ : ∃ W2, wr.alloc (.cells #[.int .i64 (f : Int), .int .i64 (t : Int), .int .i64 z] 214) = W2 := ⟨_, rfl⟩
            rw [hW2] at m0 m1 m2 c0 c1 c2 hst HBA m6 ⊢
            clear hW2 C0 C1 C2 HMA HRA x0 x1 x2 q0 q1
            go_wp2
            refine wp_quiet_tail 20 (by kernel_rfl) (by kernel_rfl) ?_
            simp only [List.take_succ_cons, List.take_zero, List.drop_succ_cons, List.drop_zero]
            repeat go_big_quiet_step ((go_at_call 155; exact quiet_eqT (l00Min_any _ _ _)))
            refine wpQuiet_nil ?_
            rintro _ ⟨nq, rfl⟩
            go_wp2
            go_roundw
            case rel => exact ⟨k + 1, _, by omega, by go_num, hst.out.drewNT nq, by rw [HK.out]; exact hist.out, (bwT HBA.out nq).setCell m3 _⟩
            case measure => simp [intOf]; omega
        · obtain rfl : nb = k := by omega
          rw [HBSE.out] at HI
          have HBS := Lib.hid (show BdsIn bs n by rw [← HBSE.out]; exact keptB_in HF.out)
          go_wp2
          go_loopw [12, 13, 14] (fun m _ _ wr => ∃ (e : Nat) (M : Nat → Nat → Int), e ≤ n ∧ m = .int .i64 (e : Int) ∧ MatW wr w.heap.size n M go g c ∧ Sound bs n M ∧ Comp bs n e M ∧ (∀ a b, a < n → b < n → -(vLow e) ≤ M a b) ∧ Below w.heap.size w wr) (fun m _ _ _ => n - (intOf m).toNat)
          case atStart => exact ⟨0, M, Nat.zero_le _, rfl, HM.out, HI.out.snd, HI.out.comp, fun a b ha hb => by have := HI.out.low a b ha hb; simp only [vLow, Nat.pow_zero]; omega, HB2.out⟩
          case round =>
            obtain ⟨e, M1, hen, rfl, hm1, hs1, hc1, hl1, hB3⟩ := hrel
            obtain ⟨q0, q1, q2, q3⟩ := HP.out.below hB3 HP.out.lt
            have HM1 := Lib.hid hm1
            have HS1 := Lib.hid hs1
            have HC1 := Lib.hid hc1
            have HL1 := Lib.hid hl1
            have HB3 := Lib.hid hB3
            clear hm1 hs1 hc1 hl1 hB3 q2 q3
            by_cases hlt : e < n
            · obtain ⟨V, hV⟩ : ∃ V, vLow e = V := ⟨_, rfl⟩
              have hV1 := vLow_le e (by omega)
              have HV6 := Lib.hid (vLow_succ e)
              rw [hV] at hV1 HL1 HV6
              have HVB := Lib.hid hV1
              clear hV hV1
              go_wp2
              go_loopw [13, 14] (fun i _ wr => ∃ (i' : Nat) (M2 : Nat → Nat → Int), i' ≤ n ∧ i = .int .i64 (i' : Int) ∧ MatW wr w.heap.size n M2 go g c ∧ Rnd bs n e V M1 M2 i' 0 ∧ Below w.heap.size w wr) (fun i _ _ => n - (intOf i).toNat)
              case atStart => exact ⟨0, M1, Nat.zero_le _, rfl, HM1.out, Rnd.start hlt HVB.out.1 HS1.out HL1.out, HB3.out⟩
              case round =>
                obtain ⟨i', M2, hin, rfl, hm2, hr2, hB4⟩ := hrel
                obtain ⟨q0, q1, q2, q3⟩ := HP.out.below hB4 HP.out.lt
                have HM2 := Lib.hid hm2
                have HR2 := Lib.hid hr2
                have HB4 := Lib.hid hB4
                clear hm2 hr2 hB4 q2 q3
                by_cases hlt2 : i' < n
                · go_wp2
                  go_loopw [14] (fun k _wr => ∃ (k' : Nat) (M3 : Nat → Nat → Int), k' ≤ n ∧ k = .int .i64 (k' : Int) ∧ MatW _wr w.heap.size n M3 go g c ∧ Rnd bs n e V M1 M3 i' k' ∧ Below w.heap.size w _wr) (fun k _ => n - (intOf k).toNat)
                  case atStart => exact ⟨0, M2, Nat.zero_le _, rfl, HM2.out, HR2.out, HB4.out⟩
                  case round =>
                    obtain ⟨k', M3, hkn, rfl, hm3, hr3, hB5⟩ := hrel
                    obtain ⟨q0, q1, q2, q3⟩ := HP.out.below hB5 HP.out.lt
                    have HM3 := Lib.hid hm3
                    have HR3 := Lib.hid hr3
                    have HB5 := Lib.hid hB5
                    by_cases hlt3 : k' < n
                    · have c1 := (hm3.cell i' e hlt2 hlt).1
                      have c2 := (hm3.cell e k' hlt hlt3).1
                      obtain ⟨c3, c4⟩ := hm3.cell i' k' hlt2 hlt3
                      have r1 := hm3.row i' hlt2
                      have r2 := hm3.row e hlt
                      obtain ⟨g1, g2, g3, g4⟩ := hm3.hg i' hlt2
                      obtain ⟨f1, f2, f3, f4⟩ := hm3.hg e hlt
                      have z1 := hr3.am i' hlt2
                      have z2 := hr3.mb k' hlt3
                      have u1 := (hr3.snd i' e hlt2 hlt).1
                      have u2 := (hr3.snd e k' hlt hlt3).1
                      have hvb := HVB.out
                      by_cases h1 : M3 i' e < 1000000
                      · by_cases h2 : M3 e k' < 1000000
                        · have hst := Lib.hid (hm3.set i' k' hlt2 hlt3 (imin (M3 i' k') (M3 i' e + M3 e k')))
                          have hrn := Lib.hid (hr3.step hlt2 hlt3 hlt hvb.1 h1 h2)
                          have hrn2 : Hid (Rnd bs n e V M1 (put M3 i' k' (imin (M3 i' k') (M3 i' e + M3 e k'))) i' (k' + 1)) := hrn
                          have w1 : IntKind.i64.wrap (M3 i' e + M3 e k') = M3 i' e + M3 e k' := IntWalk.i64_in _ (by omega)
                          obtain ⟨x, hx⟩ : ∃ x, M3 i' e = x := ⟨_, rfl⟩
                          obtain ⟨y, hy⟩ : ∃ y, M3 e k' = y := ⟨_, rfl⟩
                          obtain ⟨z, hz⟩ : ∃ z, M3 i' k' = z := ⟨_, rfl⟩
                          rw [hx] at c1 h1 w1 hst hrn2
                          rw [hy] at c2 h2 w1 hst hrn2
                          rw [hz] at c3 hst hrn2
                          have d1 : decide (x < 1000000) = true := decide_eq_true h1
                          have d2 : decide (y < 1000000) = true := decide_eq_true h2
                          have s1 : x + y ≤ 9223372036854775807 := by rw [hx] at z1 u1; rw [hy] at z2 u2; omega
                          have s2 : -9223372036854775808 ≤ x + y := by rw [hx] at z1 u1; rw [hy] at z2 u2; omega
                          obtain ⟨sx, hsx⟩ : ∃ sx, x + y = sx := ⟨_, rfl⟩
                          clear hrn hx hy hz z1 z2 u1 u2 hvb hr3 hm3 hsx
                          have i1 : (0 : Int) ≤ (i' : Int) := by omega
                          have i2 : (i' : Int) < (n : Int) := by omega
                          have i3 : (e : Int) < (n : Int) := by omega
                          have i4 : (k' : Int) < (n : Int) := by omega
                          go_wp2
                          refine wp_quiet_tail 29 (by kernel_rfl) (by kernel_rfl) ?_
                          simp only [List.take_succ_cons, List.take_zero, List.drop_succ_cons, List.drop_zero]
                          repeat go_big_quiet_step ((go_at_call 155; exact quiet_eqT (l00Min_any _ _ _)))
                          refine wpQuiet_nil ?_
                          rintro _ ⟨nq, rfl⟩
                          go_wp2
                          go_roundw
                          case rel => exact ⟨k' + 1, _, by omega, by go_num, hst.out.drewNT nq, hrn2.out, (bwT HB5.out nq).setCell g1 _⟩
                          case measure => simp [intOf]; omega
                        · have hrn := Lib.hid (hr3.skip hlt2 hlt3 hlt (fun h => h2 h.2))
                          have d1 : decide (M3 i' e < 1000000) = true := decide_eq_true h1
                          have d2 : decide (M3 e k' < 1000000) = false := decide_eq_false h2
                          clear hr3 hm3 z1 z2 u1 u2 hvb
                          go_wp2
                          go_roundw
                          case rel => exact ⟨k' + 1, M3, by omega, by go_num, HM3.out, hrn.out, HB5.out⟩
                          case measure => simp [intOf]; omega
                      · have hrn := Lib.hid (hr3.skip hlt2 hlt3 hlt (fun h => h1 h.1))
                        have d1 : decide (M3 i' e < 1000000) = false := decide_eq_false h1
                        clear hr3 hm3 z1 z2 u1 u2 hvb
                        go_wp2
                        go_roundw
                        case rel => exact ⟨k' + 1, M3, by omega, by go_num, HM3.out, hrn.out, HB5.out⟩
                        case measure => simp [intOf]; omega
                    · obtain rfl : n = k' := by omega
                      clear hm3 hr3 hB5
                      go_wp2
                      go_roundw
                      case rel => exact ⟨i' + 1, M3, by omega, by go_num, HM3.out, HR3.out.row, HB5.out⟩
                      case measure => simp [intOf]; omega
                · obtain rfl : n = i' := by omega
                  have HC2 := Lib.hid (HR2.out.fin HBS.out hlt HC1.out)
                  have HL2 := Lib.hid HR2.out.ab
                  have HS2 := Lib.hid HR2.out.snd
                  go_wp2
                  go_roundw
                  case rel => exact ⟨e + 1, M2, by omega, by go_num, HM2.out, HS2.out, HC2.out, fun a b ha hb => by have := HL2.out a b ha hb; have := HV6.out; omega, HB4.out⟩
                  case measure => simp [intOf]; omega
            · obtain rfl : n = e := by omega
              go_wp2
              go_loopw [15] (fun i wr => ∃ i' : Nat, i' ≤ n ∧ i = .int .i64 (i' : Int) ∧ MatW wr w.heap.size n M1 go g c ∧ (∀ a, a < i' → 0 ≤ M1 a a) ∧ Below w.heap.size w wr) (fun i _ => n - (intOf i).toNat)
              case atStart => exact ⟨0, Nat.zero_le _, rfl, HM1.out, fun a ha => by omega, HB3.out⟩
              case round =>
                obtain ⟨i', hin, rfl, hm4, hd4, hB6⟩ := hrel
                obtain ⟨q0, q1, q2, q3⟩ := HP.out.below hB6 HP.out.lt
                have HM4 := Lib.hid hm4
                have HD4 := Lib.hid hd4
                have HB6 := Lib.hid hB6
                clear hd4 hB6
                by_cases hlt : i' < n
                · have c1 := (hm4.cell i' i' hlt hlt).1
                  have r1 := hm4.row i' hlt
                  obtain ⟨g1, g2, g3, g4⟩ := hm4.hg i' hlt
                  clear hm4
                  by_cases hneg : M1 i' i' < 0
                  · have d1 : decide (M1 i' i' < 0) = true := decide_eq_true hneg
                    go_wp2
                    go_ret2
                    exact ⟨go, cap, g, c, M1, false, rfl, hcap, HM4.out, HS1.out, HC1.out, ⟨fun h => (by cases h), fun h => by have := h i' hlt; omega⟩, HB6.out⟩
                  · have d1 : decide (M1 i' i' < 0) = false := decide_eq_false hneg
                    go_wp2
                    go_roundw
                    case rel => exact ⟨i' + 1, by omega, by go_num, HM4.out, fun a ha => by
                      by_cases ha2 : a = i'
                      · subst ha2; omega
                      · exact HD4.out a (by omega), HB6.out⟩
                    case measure => simp [intOf]; omega
                · obtain rfl : n = i' := by omega
                  clear hm4
                  go_wp2
                  go_ret2
                  exact ⟨go, cap, g, c, M1, true, rfl, hcap, HM4.out, HS1.out, HC1.out, ⟨fun _ => HD4.out, fun _ => rfl⟩, HB6.out⟩
end Go.Proofs.Ytkipgeecibimoaa
