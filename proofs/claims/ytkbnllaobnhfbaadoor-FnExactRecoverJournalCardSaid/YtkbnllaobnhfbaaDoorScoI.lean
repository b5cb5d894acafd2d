/- A valid scope, on both sides. -/
import Derived.Test.YtkbnllaobnhfbaaDoorSco
import Derived.Test.YtkbnllaobnhfbaaDoorStr
import Derived.Laws.Cover1
namespace Go.Proofs.YtkbnllaobnhfbaaDoor
open Go.RowKit
open Go.Op (bytesLess)
set_option linter.unusedVariables false
set_option linter.unusedSimpArgs false
def lessS (ls : List ByteArray) (k : Nat) : Bool := decide (k = 0) || bytesLess (ls.getD (k - 1) ByteArray.empty).toList (ls.getD k ByteArray.empty).toList
def okS (ls ms : List ByteArray) (k : Nat) : Bool := nameB (ls.getD k ByteArray.empty).data.toList && (lessS ls k && waveB (ms.getD k ByteArray.empty).data.toList)
def scB (ls ms : List ByteArray) : Bool := decide (ls.length ≤ 6 ∧ ms.length = ls.length) && (List.range ls.length).all (okS ls ms)
theorem rngS_step (f : Nat → Bool) (k : Nat) (h0 : (List.range k).all f = true) (h : f k = true) : (List.range (k + 1)).all f = true := by
  rw [List.range_succ, List.all_append, h0]; simp [h]
theorem rngS_bad (f : Nat → Bool) (k n : Nat) (hk : k < n) (h : f k = false) : (List.range n).all f = false := by
  rw [List.all_eq_false]; exact ⟨k, List.mem_range.2 hk, by simp [h]⟩
theorem rngS_at {f : Nat → Bool} {n : Nat} (h : (List.range n).all f = true) (k : Nat) (hk : k < n) : f k = true := List.all_eq_true.1 h k (List.mem_range.2 hk)
theorem getD_s {l : List ByteArray} {k : Nat} (hk : k < l.length) : l[k] = l.getD k ByteArray.empty := by rw [List.getD_eq_getElem?_getD, List.getElem?_eq_getElem hk]; rfl
theorem SRow.get {w : World} {a : Option Addr} {l : List ByteArray} (h : SRow w a l) (k : Nat) (hk : k < l.length) : ∃ b off, a = some ⟨b, off, none⟩ ∧ b < w.heap.size ∧ w.cell? ⟨b, off + k, none⟩ = some (.string (l.getD k ByteArray.empty)) := by
  obtain ⟨b, off, h1, h2, h3⟩ := h.at k hk
  exact ⟨b, off, h1, h2, by rw [h3, getD_s hk]⟩
theorem sc_len {ls ms : List ByteArray} (h : ¬ (ls.length ≤ 6 ∧ ms.length = ls.length)) : scB ls ms = false := by unfold scB; rw [decide_eq_false h]; rfl
theorem sc_bad {ls ms : List ByteArray} (k : Nat) (hk : k < ls.length) (h : okS ls ms k = false) : scB ls ms = false := by unfold scB; rw [rngS_bad _ k _ hk h, Bool.and_false]
theorem sc_end {ls ms : List ByteArray} (h : ls.length ≤ 6 ∧ ms.length = ls.length) (h2 : (List.range ls.length).all (okS ls ms) = true) : scB ls ms = true := by unfold scB; rw [decide_eq_true h, h2]; rfl
theorem geq_str (y x : ByteArray) (b : Bool) (h : bytesLess y.toList x.toList = b) : Go.Op.stringOp BinOp.geq y x = pure (Value.bool (!b)) := by
  rw [← h]; rfl
theorem below_dr {B : Nat} {a w : World} (h : Below B a w) (n : Nat) : Below B a (w.drewN n) := ⟨h.os, h.tape, h.output, h.size, h.block⟩
set_option maxHeartbeats 16000000 in
set_option maxRecDepth 100000 in
theorem specSc (na : Option Addr) (nn nc : Nat) (ls : List ByteArray) (wa : Option Addr) (wn wc : Nat) (ms : List ByteArray) (w : World) (h : Sc w na nn ls wa wn ms) (hnl : nn ≤ 1048576) (hwl : wn ≤ 1048576) (hls : ∀ k (hk : k < ls.length), ls[k].size ≤ maxLen) (hms : ∀ k (hk : k < ms.length), ms[k].size ≤ maxLen) (g : Nat) (hg : At2 w g (.slice na nn nc) (.slice wa wn wc)) :
    Calls Tryd.prog 26 #[.pointer (some ⟨g, 0, none⟩)] w fun e w' => e = .returned (.bool (scB ls ms)) ∧ Below w.heap.size w w' := by
  have HB0 := Lib.hid (Below.refl w.heap.size w)
  obtain ⟨g0, g1, g2, g3⟩ := hg
  have hnl' := h.nl
  have hvl' := h.vl
  have HNL := Lib.hid hnl'
  have HVL := Lib.hid hvl'
  have HA := Lib.hid h
  have HLS := Lib.hid hls
  have HMS := Lib.hid hms
  clear h hls hms
  go_enter Tryd.func26, Tryd.ntmps26
  by_cases hlen : nn ≤ 6 ∧ wn = nn
  · obtain ⟨l6, rfl⟩ := hlen
    have HLN : Hid (ls.length ≤ 6 ∧ ms.length = ls.length) := by rw [Hid]; omega
    clear hnl' hvl' hwl
    have t6 : ¬ (6 : Int) < (wn : Int) := by omega
    have t6d : decide ((6 : Int) < (wn : Int)) = false := decide_eq_false (by omega)
    go_wp2
    go_quiet (fail)
    go_wp2
    go_loopw [3] (fun i wr => ∃ k : Nat, k ≤ wn ∧ i = .int .i64 (k : Int) ∧ (List.range k).all (okS ls ms) = true ∧ ∃ q, wr = w.drewN q) (fun i _ => wn - (intOf i).toNat)
    case atStart => exact ⟨0, Nat.zero_le _, rfl, rfl, _, rfl⟩
    case round =>
      obtain ⟨k, hk, rfl, hall, q, hwr⟩ := hrel
      have HAL := Lib.hid hall
      have HWR := Lib.hid hwr
      have G0 : wr.cell? ⟨g, 0, none⟩ = some (.slice na wn nc) := by rw [hwr]; exact g0
      have G1 : wr.cell? ⟨g, 1, none⟩ = some (.slice wa wn wc) := by rw [hwr]; exact g1
      have HAW := Lib.hid (HA.out.keep (below_dr (Below.refl w.heap.size w) q) (Nat.le_refl _))
      rw [← hwr] at HAW
      clear hall hwr
      by_cases hlt : k < wn
      · have hkl : k < ls.length := by have := HNL.out; omega
        have hkm : k < ms.length := by have := HVL.out; omega
        have HOK : Hid (okS ls ms k = (nameB (ls.getD k ByteArray.empty).data.toList && (lessS ls k && waveB (ms.getD k ByteArray.empty).data.toList))) := rfl
        obtain ⟨b1, o1, rfl, _, c1⟩ := HAW.out.n.get k hkl
        obtain ⟨b2, o2, rfl, _, c2⟩ := HAW.out.v.get k hkm
        have hs1 := HLS.out k hkl
        have hs2 := HMS.out k hkm
        rw [getD_s hkl] at hs1
        rw [getD_s hkm] at hs2
        have hlk : lessS ls k = (decide (k = 0) || bytesLess (ls.getD (k - 1) ByteArray.empty).toList (ls.getD k ByteArray.empty).toList) := rfl
        obtain ⟨x, hx⟩ : ∃ x, ls.getD k ByteArray.empty = x := ⟨_, rfl⟩
        obtain ⟨m, hm⟩ : ∃ x, ms.getD k ByteArray.empty = x := ⟨_, rfl⟩
        rw [hx] at c1 hs1 hlk HOK
        rw [hm] at c2 hs2 HOK
        have HN := Lib.hid (fun w => specIsName x w hs1)
        have HW := Lib.hid (fun w => l01Wave_any m w hs2)
        obtain ⟨bn, hbn⟩ : ∃ b, nameB x.data.toList = b := ⟨_, rfl⟩
        obtain ⟨bw, hbw⟩ : ∃ b, waveB m.data.toList = b := ⟨_, rfl⟩
        rw [hbn] at HN HOK
        rw [hbw] at HW HOK
        obtain ⟨bl, hbl⟩ : ∃ b, lessS ls k = b := ⟨_, rfl⟩
        rw [hbl] at HOK hlk
        clear hbl hbn hbw hs1 hs2 hx hm
        cases bn with
        | false =>
          have HE := Lib.hid (sc_bad k hkl HOK.out)
          clear hlk
          go_wp2
          go_quiet ((first | (go_at_call 49; exact quiet_eqs (HN.out _)) | (go_at_call 50; exact quiet_eqs (HW.out _))))
          go_wp2
          go_ret
          exact ⟨ret_bool HE.out.symm, by rw [HWR.out]; exact below_dr (below_dr HB0.out _) _⟩
        | true =>
          rw [Bool.true_and] at HOK
          by_cases hk0 : k = 0
          · skip
            have hkz2 : decide ((0 : Int) < (k : Int)) = false := decide_eq_false (by omega)
            have hkz4 : ¬ 0 < k := by omega
            have hkz5 : decide (0 < k) = false := decide_eq_false (by omega)
            rw [decide_eq_true hk0, Bool.true_or] at hlk
            subst hlk
            clear hk0
            rw [Bool.true_and] at HOK
            cases bw with
            | false =>
              have HE := Lib.hid (sc_bad k hkl HOK.out)
              go_wp2
              go_quiet ((first | (go_at_call 49; exact quiet_eqs (HN.out _)) | (go_at_call 50; exact quiet_eqs (HW.out _))))
              go_wp2
              go_ret
              exact ⟨ret_bool HE.out.symm, by rw [HWR.out]; exact below_dr (below_dr HB0.out _) _⟩
            | true =>
              have HE := Lib.hid (rngS_step _ k HAL.out HOK.out)
              go_wp2
              go_quiet ((first | (go_at_call 49; exact quiet_eqs (HN.out _)) | (go_at_call 50; exact quiet_eqs (HW.out _))))
              go_wp2
              go_roundw
              case rel => exact ⟨k + 1, by omega, by go_num, HE.out, _, by rw [HWR.out, World.drewN_drewN]⟩
              case measure => simp [intOf]; omega
          · skip
            have hkz2 : decide ((0 : Int) < (k : Int)) = true := decide_eq_true (by omega)
            have hkz4 : 0 < k := by omega
            have hkz5 : decide (0 < k) = true := decide_eq_true (by omega)
            have hk1 : IntKind.i64.wrap ((k : Int) - 1) = ((k - 1 : Nat) : Int) := by rw [IntWalk.i64_in _ (by omega)]; omega
            rw [decide_eq_false hk0, Bool.false_or] at hlk
            obtain ⟨b3, o3, he3, _, c3⟩ := HAW.out.n.get (k - 1) (by omega)
            simp only [Option.some.injEq, Addr.mk.injEq, and_true] at he3
            obtain ⟨rfl, rfl⟩ := he3
            obtain ⟨y, hy⟩ : ∃ y, ls.getD (k - 1) ByteArray.empty = y := ⟨_, rfl⟩
            rw [hy] at c3 hlk
            have hkp : k - 1 < wn := by omega
            obtain ⟨k', hk'⟩ : ∃ k', k - 1 = k' := ⟨_, rfl⟩
            rw [hk'] at c3 hk1 hkp
            clear hy hk' hk0
            cases bl with
            | false =>
              have HE := Lib.hid (sc_bad k hkl HOK.out)
              have tl : bytesLess y.toList x.toList = false := hlk.symm
              clear hlk
              go_wp2
              go_quiet ((first | (go_at_call 49; exact quiet_eqs (HN.out _)) | (go_at_call 50; exact quiet_eqs (HW.out _))))
              go_wp2
              go_ret
              exact ⟨ret_bool HE.out.symm, by rw [HWR.out]; exact below_dr (below_dr HB0.out _) _⟩
            | true =>
              have tl : bytesLess y.toList x.toList = true := hlk.symm
              clear hlk
              rw [Bool.true_and] at HOK
              cases bw with
              | false =>
                have HE := Lib.hid (sc_bad k hkl HOK.out)
                go_wp2
                go_quiet ((first | (go_at_call 49; exact quiet_eqs (HN.out _)) | (go_at_call 50; exact quiet_eqs (HW.out _))))
                go_wp2
                go_ret
                exact ⟨ret_bool HE.out.symm, by rw [HWR.out]; exact below_dr (below_dr HB0.out _) _⟩
              | true =>
                have HE := Lib.hid (rngS_step _ k HAL.out HOK.out)
                go_wp2
                go_quiet ((first | (go_at_call 49; exact quiet_eqs (HN.out _)) | (go_at_call 50; exact quiet_eqs (HW.out _))))
                go_wp2
                go_roundw
                case rel => exact ⟨k + 1, by omega, by go_num, HE.out, _, by rw [HWR.out, World.drewN_drewN]⟩
                case measure => simp [intOf]; omega
      · obtain rfl : k = wn := by omega
        have HE : Hid (scB ls ms = true) := sc_end HLN.out (by rw [← HNL.out]; exact HAL.out)
        go_wp2
        go_ret
        exact ⟨ret_bool HE.out.symm, by rw [HWR.out]; exact below_dr HB0.out _⟩
  · have HE : Hid (scB ls ms = false) := sc_len (by omega)
    clear hnl' hvl'
    by_cases l6 : nn ≤ 6
    · have t6 : ¬ (6 : Int) < (nn : Int) := by omega
      have t6d : decide ((6 : Int) < (nn : Int)) = false := decide_eq_false (by omega)
      have t7 : ¬ wn = nn := fun e => hlen ⟨l6, e⟩
      have t8 : ((wn : Int) != (nn : Int)) = true := by simp; omega
      clear hlen
      go_wp2
      go_quiet (fail)
      go_wp2
      go_ret
      exact ⟨ret_bool HE.out.symm, below_dr HB0.out _⟩
    · have t6 : (6 : Int) < (nn : Int) := by omega
      have t6d : decide ((6 : Int) < (nn : Int)) = true := decide_eq_true (by omega)
      clear hlen
      go_wp2
      go_quiet (fail)
      go_wp2
      go_ret
      exact ⟨ret_bool HE.out.symm, below_dr HB0.out _⟩
def incB (ls : List ByteArray) : Bool := (List.range ls.length).all (lessS ls)
set_option maxHeartbeats 1000000 in
theorem inc_any (a : Option Addr) (n c : Nat) (ls : List ByteArray) (w : World) (hn : n = ls.length) (hnl : n ≤ 1048576) (h : SRow w a ls) :
    Calls Tryd.prog 51 #[.slice a n c] w fun e w' => e = .returned (.bool (incB ls)) ∧ ∃ q, w' = w.drewN q := by
  have HN := Lib.hid hn
  have HA := Lib.hid h
  clear hn h
  go_enter Tryd.func51, Tryd.ntmps51
  go_wp2
  go_loopw [3] (fun i wr => ∃ k : Nat, 1 ≤ k ∧ (k ≤ n ∨ k = 1) ∧ i = .int .i64 (k : Int) ∧ (List.range k).all (lessS ls) = true ∧ ∃ q, wr = w.drewN q) (fun i _ => n + 1 - (intOf i).toNat)
  case atStart => exact ⟨1, Nat.le_refl _, .inr rfl, rfl, rfl, 0, rfl⟩
  case round =>
    obtain ⟨k, hk1, hk, rfl, hall, q, rfl⟩ := hrel
    have HAL := Lib.hid hall
    clear hall
    by_cases hlt : k < n
    · have hkl : k < ls.length := by have := HN.out; omega
      obtain ⟨b1, o1, rfl, _, c1⟩ := HA.out.get k hkl
      obtain ⟨b3, o3, he3, _, c3⟩ := HA.out.get (k - 1) (by omega)
      simp only [Option.some.injEq, Addr.mk.injEq, and_true] at he3
      obtain ⟨rfl, rfl⟩ := he3
      have hlk : lessS ls k = (decide (k = 0) || bytesLess (ls.getD (k - 1) ByteArray.empty).toList (ls.getD k ByteArray.empty).toList) := rfl
      rw [decide_eq_false (by omega), Bool.false_or] at hlk
      obtain ⟨x, hx⟩ : ∃ x, ls.getD k ByteArray.empty = x := ⟨_, rfl⟩
      obtain ⟨y, hy⟩ : ∃ y, ls.getD (k - 1) ByteArray.empty = y := ⟨_, rfl⟩
      rw [hx] at c1 hlk
      rw [hy] at c3 hlk
      have hw1 : IntKind.i64.wrap ((k : Int) - 1) = ((k - 1 : Nat) : Int) := by rw [IntWalk.i64_in _ (by omega)]; omega
      have hkp : k - 1 < n := by omega
      obtain ⟨k', hk'⟩ : ∃ k', k - 1 = k' := ⟨_, rfl⟩
      rw [hk'] at c3 hw1 hkp
      clear hx hy hk'
      cases hb : bytesLess y.toList x.toList with
      | false =>
        rw [hb] at hlk
        have HE : Hid (incB ls = false) := rngS_bad _ k _ hkl hlk
        clear hlk
        go_wp2
        go_quiet (fail)
        go_wp2
        go_ret
        exact ⟨ret_bool HE.out.symm, _, by rw [World.drewN_drewN]⟩
      | true =>
        rw [hb] at hlk
        have HE := Lib.hid (rngS_step _ k HAL.out hlk)
        clear hlk
        go_wp2
        go_quiet (fail)
        go_wp2
        go_roundw
        case rel => exact ⟨k + 1, by omega, by omega, by go_num, HE.out, _, rfl⟩
        case measure => simp [intOf]; omega
    · have HE : Hid (incB ls = true) := by
        rw [Hid]
        have hh := HN.out
        have ha := HAL.out
        unfold incB
        rw [List.all_eq_true]
        intro j hj
        rw [List.mem_range] at hj
        exact rngS_at ha j (by omega)
      go_wp2
      go_ret
      exact ⟨ret_bool HE.out.symm, q, rfl⟩
def nwS (ls ms : List ByteArray) (k : Nat) : Bool := nameB (ls.getD k ByteArray.empty).data.toList && waveB (ms.getD k ByteArray.empty).data.toList
theorem sc_inc {ls ms : List ByteArray} (h : incB ls = false) : scB ls ms = false := by
  unfold incB at h
  rw [List.all_eq_false] at h
  obtain ⟨k, hk, h1⟩ := h
  refine sc_bad k (List.mem_range.1 hk) ?_
  have : lessS ls k = false := by simpa using h1
  unfold okS; rw [this]; simp
theorem sc_nw {ls ms : List ByteArray} (k : Nat) (hk : k < ls.length) (h : nwS ls ms k = false) : scB ls ms = false := by
  refine sc_bad k hk ?_
  unfold nwS at h
  unfold okS
  cases h1 : nameB (ls.getD k ByteArray.empty).data.toList with
  | false => rfl
  | true => rw [h1, Bool.true_and] at h; rw [h]; simp
theorem sc_all {ls ms : List ByteArray} (h : ls.length ≤ 6 ∧ ms.length = ls.length) (hi : incB ls = true) (h2 : (List.range ls.length).all (nwS ls ms) = true) : scB ls ms = true := by
  refine sc_end h ?_
  rw [List.all_eq_true]
  intro k hk
  have h1 := List.all_eq_true.1 hi k hk
  have h3 := List.all_eq_true.1 h2 k hk
  unfold nwS at h3
  unfold okS
  rw [h1, Bool.true_and]; exact h3
set_option maxHeartbeats 16000000 in
set_option maxRecDepth 100000 in
theorem implScope (na : Option Addr) (nn nc : Nat) (ls : List ByteArray) (wa : Option Addr) (wn wc : Nat) (ms : List ByteArray) (w : World) (h : Sc w na nn ls wa wn ms) (hnl : nn ≤ 1048576) (hwl : wn ≤ 1048576) (hls : ∀ k (hk : k < ls.length), ls[k].size ≤ maxLen) (hms : ∀ k (hk : k < ms.length), ms[k].size ≤ maxLen) :
    Calls Tryd.prog 28 #[.agg #[.slice na nn nc, .slice wa wn wc]] w fun e w' => e = .returned (.bool (scB ls ms)) ∧ Below w.heap.size w w' := by
  have hb0 : Below w.heap.size w (w.alloc (.cells #[.slice na nn nc, .slice wa wn wc] 28)) := (Below.refl _ _).alloc (Nat.le_refl _) _
  have HA := Lib.hid (h.keep hb0 (Nat.le_refl _))
  obtain ⟨g0, g1, g2, g3⟩ := At2.new w (.slice na nn nc) (.slice wa wn wc) 28
  have hsz : w.heap.size < (w.alloc (.cells #[.slice na nn nc, .slice wa wn wc] 28)).heap.size := by simp
  obtain ⟨w1, hw1⟩ : ∃ w1, w.alloc (.cells #[.slice na nn nc, .slice wa wn wc] 28) = w1 := ⟨_, rfl⟩
  rw [hw1] at HA g0 g1 g2 g3 hb0 hsz
  have hnl' := h.nl
  have hvl' := h.vl
  have HNL := Lib.hid hnl'
  have HVL := Lib.hid hvl'
  have HB0 := Lib.hid hb0
  have HLS := Lib.hid hls
  have HMS := Lib.hid hms
  clear h hls hms hb0
  go_enter Tryd.func28, Tryd.ntmps28
  by_cases hlen : wn ≤ 6 ∧ nn = wn
  · obtain ⟨l6, rfl⟩ := hlen
    have HLN : Hid (ls.length ≤ 6 ∧ ms.length = ls.length) := by rw [Hid]; omega
    clear hnl' hvl' hwl
    have t6 : ¬ 6 < nn := by omega
    have HI := Lib.hid (inc_any na nn nc ls w1 HNL.out hnl HA.out.n)
    cases hbi : incB ls with
    | false =>
      rw [hbi] at HI
      have HE : Hid (scB ls ms = false) := sc_inc hbi
      clear hbi
      go_wp2_with fail
      refine HI.out.mono ?_; rintro e w' ⟨rfl, q, rfl⟩
      go_wp2
      go_ret
      exact ⟨ret_bool HE.out.symm, below_dr HB0.out _⟩
    | true =>
      rw [hbi] at HI
      have HBI := Lib.hid hbi
      clear hbi
      go_wp2_with fail
      refine HI.out.mono ?_; rintro e w' ⟨rfl, q, rfl⟩
      have e0 : (w1.drewN q).cell? ⟨w.heap.size, 0, none⟩ = some (.slice na nn nc) := g0
      go_wp2
      go_loopw [27] (fun i wr => ∃ k : Nat, k ≤ nn ∧ i = .int .i64 (k : Int) ∧ (List.range k).all (nwS ls ms) = true ∧ Below w1.heap.size w1 wr) (fun i _ => nn - (intOf i).toNat)
      case atStart => exact ⟨0, Nat.zero_le _, rfl, rfl, below_dr (Below.refl _ _) _⟩
      case round =>
        obtain ⟨k, hk, rfl, hall, hB⟩ := hrel
        have HAL := Lib.hid hall
        have HBB := Lib.hid (HB0.out.trans (hB.mono HB0.out.size))
        have G1 := (hB.cell (p := ⟨w.heap.size, 1, none⟩) hsz).trans g1
        clear hall
        by_cases hlt : k < nn
        · have hkl : k < ls.length := by have := HNL.out; omega
          have hkm : k < ms.length := by have := HVL.out; omega
          have HOK : Hid (nwS ls ms k = (nameB (ls.getD k ByteArray.empty).data.toList && waveB (ms.getD k ByteArray.empty).data.toList)) := rfl
          obtain ⟨b1, o1, rfl, l1, c1⟩ := HA.out.n.get k hkl
          obtain ⟨b2, o2, rfl, l2, c2⟩ := HA.out.v.get k hkm
          have d1 := (hB.cell (p := ⟨b1, o1 + k, none⟩) l1).trans c1
          have d2 := (hB.cell (p := ⟨b2, o2 + k, none⟩) l2).trans c2
          have HB1 := Lib.hid hB
          have hs1 := HLS.out k hkl
          have hs2 := HMS.out k hkm
          rw [getD_s hkl] at hs1
          rw [getD_s hkm] at hs2
          obtain ⟨x, hx⟩ : ∃ x, ls.getD k ByteArray.empty = x := ⟨_, rfl⟩
          obtain ⟨m, hm⟩ : ∃ x, ms.getD k ByteArray.empty = x := ⟨_, rfl⟩
          rw [hx] at c1 d1 hs1 HOK
          rw [hm] at c2 d2 hs2 HOK
          have HN := Lib.hid (fun w => implIsName x w hs1)
          have HW := Lib.hid (fun w => implIsWave m w hs2)
          obtain ⟨bn, hbn⟩ : ∃ b, nameB x.data.toList = b := ⟨_, rfl⟩
          obtain ⟨bw, hbw⟩ : ∃ b, waveB m.data.toList = b := ⟨_, rfl⟩
          rw [hbn] at HN HOK
          rw [hbw] at HW HOK
          clear hbn hbw hs1 hs2 hx hm c1 hB
          cases bn with
          | false =>
            have HE := Lib.hid (sc_nw k hkl HOK.out)
            go_wp2_with fail
            refine (HN.out _).mono ?_; rintro e w' ⟨rfl, hb2⟩
            have HB2 := Lib.hid (HB1.out.trans (hb2.mono HB1.out.size))
            have HBB2 := Lib.hid (HB0.out.trans (HB2.out.mono HB0.out.size))
            clear hb2
            go_wp2
            go_ret
            exact ⟨ret_bool HE.out.symm, HBB2.out⟩
          | true =>
            rw [Bool.true_and] at HOK
            go_wp2_with fail
            refine (HN.out _).mono ?_; rintro e w4 ⟨rfl, hb4⟩
            have HB4 := Lib.hid (HB1.out.trans (hb4.mono HB1.out.size))
            have G14 := (HB4.out.cell (p := ⟨w.heap.size, 1, none⟩) hsz).trans g1
            have d24 := (HB4.out.cell (p := ⟨b2, o2 + k, none⟩) l2).trans c2
            clear hb4 G1 d1 d2
            go_wp2_with fail
            refine (HW.out _).mono ?_; rintro e w' ⟨rfl, hb2⟩
            have HB2 := Lib.hid (HB4.out.trans (hb2.mono HB4.out.size))
            have HBB2 := Lib.hid (HB0.out.trans (HB2.out.mono HB0.out.size))
            clear hb2
            cases bw with
            | false =>
              have HE := Lib.hid (sc_nw k hkl HOK.out)
              go_wp2
              go_ret
              exact ⟨ret_bool HE.out.symm, HBB2.out⟩
            | true =>
              have HE := Lib.hid (rngS_step _ k HAL.out HOK.out)
              go_wp2
              go_roundw
              case rel => exact ⟨k + 1, by omega, by go_num, HE.out, HB2.out⟩
              case measure => simp [intOf]; omega
        · obtain rfl : k = nn := by omega
          have HE : Hid (scB ls ms = true) := sc_all HLN.out HBI.out (by rw [← HNL.out]; exact HAL.out)
          go_wp2
          go_ret
          exact ⟨ret_bool HE.out.symm, HBB.out⟩
  · have HE : Hid (scB ls ms = false) := sc_len (by omega)
    clear hnl' hvl'
    by_cases l6 : wn ≤ 6
    · have t6 : ¬ 6 < wn := by omega
      have t7 : ¬ nn = wn := fun e => hlen ⟨l6, e⟩
      have t8 : ((nn : Int) != (wn : Int)) = true := by simp; omega
      clear hlen
      go_wp2
      go_ret
      exact ⟨ret_bool HE.out.symm, HB0.out⟩
    · have t6 : 6 < wn := by omega
      clear hlen
      go_wp2
      go_ret
      exact ⟨ret_bool HE.out.symm, HB0.out⟩
end Go.Proofs.YtkbnllaobnhfbaaDoor
