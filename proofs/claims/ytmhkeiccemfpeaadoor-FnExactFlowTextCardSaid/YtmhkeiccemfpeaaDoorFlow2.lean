/- Contracts: how great a flow is, and that two are the same. -/
import Derived.Test.YtmhkeiccemfpeaaDoorFlow
namespace Go.Proofs.YtmhkeiccemfpeaaDoor
open Go.RowKit
set_option linter.unusedVariables false
set_option linter.unusedSimpArgs false

theorem szInt64S_any (a : Option Addr) (n cap : Nat) (c : Int) (w : World) (hc : 0 ≤ c) (hc2 : c ≤ 1048576) (hn : n ≤ 9223372036854775807) :
    Calls Tryd.prog 9 #[.slice a n cap, .int .i64 c] w fun e w' => e = .returned (.int .i64 (if (n : Int) ≤ c then c - n else -1)) ∧ w = w' := by
  have wr : IntKind.i64.wrap (c - (n : Int)) = c - (n : Int) := IntWalk.i64_in _ (by omega)
  by_cases h : (n : Int) ≤ c
  · rw [if_pos h]
    go_enter Tryd.func9, Tryd.ntmps9
    go_wp2
    go_ret
    exact ⟨by simp, rfl⟩
  · rw [if_neg h]
    go_enter Tryd.func9, Tryd.ntmps9
    go_wp2
    go_ret
    exact ⟨by simp, rfl⟩
theorem szWireS_any (a : Option Addr) (n cap : Nat) (c : Int) (w : World) (hc : 0 ≤ c) (hc2 : c ≤ 1048576) (hn : n ≤ 9223372036854775807) :
    Calls Tryd.prog 10 #[.slice a n cap, .int .i64 c] w fun e w' => e = .returned (.int .i64 (if (n : Int) ≤ c then c - n else -1)) ∧ w = w' := by
  have wr : IntKind.i64.wrap (c - (n : Int)) = c - (n : Int) := IntWalk.i64_in _ (by omega)
  by_cases h : (n : Int) ≤ c
  · rw [if_pos h]
    go_enter Tryd.func10, Tryd.ntmps10
    go_wp2
    go_ret
    exact ⟨by simp, rfl⟩
  · rw [if_neg h]
    go_enter Tryd.func10, Tryd.ntmps10
    go_wp2
    go_ret
    exact ⟨by simp, rfl⟩
def szF (dn wn : Nat) : Int := if ((dn + wn : Nat) : Int) ≤ 1048576 then 1048576 - ((dn + wn : Nat) : Int) else -1
set_option maxRecDepth 100000 in
theorem szFlow_any (da : Option Addr) (dn dc : Nat) (wa : Option Addr) (wn wc : Nat) (w : World) (hn : dn ≤ 9223372036854775807) (hw : wn ≤ 9223372036854775807) :
    Calls Tryd.prog 4 #[.agg #[.slice da dn dc, .slice wa wn wc], .int .i64 1048576] w fun e w' => e = .returned (.int .i64 (szF dn wn)) ∧ Below w.heap.size w w' := by
  have hb0 : Below w.heap.size w (w.alloc (.cells #[.slice da dn dc, .slice wa wn wc] 25)) := (Below.refl _ _).alloc (Nat.le_refl _) _
  have HS := Lib.hid (szInt64S_any da dn dc 1048576 (w.alloc (.cells #[.slice da dn dc, .slice wa wn wc] 25)) (by omega) (by omega) hn)
  by_cases h1 : dn ≤ 1048576
  · have e1 : (if (dn : Int) ≤ 1048576 then (1048576 : Int) - dn else -1) = 1048576 - (dn : Int) := if_pos (by omega)
    rw [e1] at HS
    obtain ⟨c, hc⟩ : ∃ c : Int, 1048576 - (dn : Int) = c := ⟨_, rfl⟩
    rw [hc] at HS
    have hc1 : 0 ≤ c := by omega
    have hc2 : c ≤ 1048576 := by omega
    have HS2 := Lib.hid (szWireS_any wa wn wc c (w.alloc (.cells #[.slice da dn dc, .slice wa wn wc] 25)) hc1 hc2 hw)
    have hr : szF dn wn = (if (wn : Int) ≤ c then c - wn else -1) := by
      unfold szF
      by_cases h2 : (wn : Int) ≤ c
      · rw [if_pos h2, if_pos (by omega)]; omega
      · rw [if_neg h2, if_neg (by omega)]
    have hrr : szF dn wn = -1 ∨ 0 ≤ szF dn wn := by unfold szF; split <;> omega
    rw [← hr] at HS2
    obtain ⟨r, hr2⟩ : ∃ r, szF dn wn = r := ⟨_, rfl⟩
    rw [hr2] at HS2 hrr ⊢
    clear e1 hc hr hr2 h1
    have hcn : ¬ c < 0 := by omega
    go_enter Tryd.func4, Tryd.ntmps4
    go_wp2_with fail
    refine HS.out.mono ?_
    rintro e w1 ⟨rfl, rfl⟩
    go_wp2_with fail
    refine HS2.out.mono ?_
    rintro e w1 ⟨rfl, rfl⟩
    rcases hrr with rfl | h0
    · go_wp2
      go_ret
      exact ⟨rfl, hb0⟩
    · have h00 : ¬ r < 0 := by omega
      go_wp2
      go_ret
      exact ⟨rfl, hb0⟩
  · have e1 : (if (dn : Int) ≤ 1048576 then (1048576 : Int) - dn else -1) = -1 := if_neg (by omega)
    rw [e1] at HS
    have hr : szF dn wn = -1 := by unfold szF; rw [if_neg (by omega)]
    rw [hr]
    clear e1 hr
    go_enter Tryd.func4, Tryd.ntmps4
    go_wp2_with fail
    refine HS.out.mono ?_
    rintro e w1 ⟨rfl, rfl⟩
    go_wp2
    go_ret
    exact ⟨rfl, hb0⟩
set_option maxRecDepth 100000 in
theorem eqFlow_same (B1 B2 : Nat) (da1 da2 : Option Addr) (dn1 dc1 dn2 dc2 : Nat) (ds : List Int) (wa1 wa2 : Option Addr) (wn wc1 wc2 : Nat) (F : List Int) (w : World) (h1 : Fl w B1 da1 dn1 dc1 ds wa1 wn wc1 F) (h2 : Fl w B2 da2 dn2 dc2 ds wa2 wn wc2 F) :
    Calls Tryd.prog 8 #[.agg #[.slice da1 dn1 dc1, .slice wa1 wn wc1], .agg #[.slice da2 dn2 dc2, .slice wa2 wn wc2]] w fun e w' => e = .returned (.bool true) ∧ Below w.heap.size w w' := by
  obtain ⟨w0, hw0⟩ : ∃ w0, (w.alloc (.cells #[.slice da1 dn1 dc1, .slice wa1 wn wc1] 31)).alloc (.cells #[.slice da2 dn2 dc2, .slice wa2 wn wc2] 31) = w0 := ⟨_, rfl⟩
  have hb0 : Below w.heap.size w w0 := by rw [← hw0]; exact ((Below.refl _ _).alloc (Nat.le_refl _) _).alloc (by simp) _
  have c0 : w0.cell? ⟨w.heap.size, 0, none⟩ = some (.slice da1 dn1 dc1) := by rw [← hw0]; simp [go_sem]
  have c1 : w0.cell? ⟨w.heap.size, 1, none⟩ = some (.slice wa1 wn wc1) := by rw [← hw0]; simp [go_sem]
  have c2 : w0.cell? ⟨w.heap.size + 1, 0, none⟩ = some (.slice da2 dn2 dc2) := by rw [← hw0]; simp [go_sem]
  have c3 : w0.cell? ⟨w.heap.size + 1, 1, none⟩ = some (.slice wa2 wn wc2) := by rw [← hw0]; simp [go_sem]
  have H1 := Lib.hid (h1.keep hb0 (Nat.le_refl _))
  have H2 := Lib.hid (h2.keep hb0 (Nat.le_refl _))
  have HB0 := Lib.hid hb0
  clear h1 h2 hb0
  go_enter Tryd.func8, Tryd.ntmps8
  go_wp2_with fail
  refine (eqInts_same _ _ _ _ ds w0 H1.out.d H2.out.d).mono ?_; rintro e w' ⟨rfl, q, rfl⟩
  obtain ⟨w1, hw1⟩ : ∃ w1, w0.drewN q = w1 := ⟨_, rfl⟩
  have hb1 : Below w0.heap.size w0 w1 := by rw [← hw1]; exact ⟨rfl, rfl, rfl, Nat.le_refl _, fun _ _ => rfl⟩
  have d1 : w1.cell? ⟨w.heap.size, 1, none⟩ = some (.slice wa1 wn wc1) := by rw [← hw1]; exact c1
  have d3 : w1.cell? ⟨w.heap.size + 1, 1, none⟩ = some (.slice wa2 wn wc2) := by rw [← hw1]; exact c3
  have HB1 := Lib.hid hb1
  rw [hw1]
  clear hw1 c0 c1 c2 c3 hb1 hw0
  go_wp2_with fail
  refine (eqWireS_same _ _ wn _ _ F w1 (H1.out.r.keep HB1.out (Nat.le_refl _)) (H2.out.r.keep HB1.out (Nat.le_refl _))).mono ?_; rintro e w' ⟨rfl, hb⟩
  have HB2 := Lib.hid hb
  clear hb d1 d3
  go_wp2
  go_ret
  exact ⟨rfl, HB0.out.trans ((HB1.out.trans (HB2.out.mono HB1.out.size)).mono HB0.out.size)⟩
end Go.Proofs.YtmhkeiccemfpeaaDoor
