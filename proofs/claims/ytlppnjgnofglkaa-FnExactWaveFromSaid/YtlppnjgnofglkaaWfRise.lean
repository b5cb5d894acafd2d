/- A list that rises within bounds, on both sides. -/
import Derived.Test.YtlppnjgnofglkaaLst
import Derived.Test.YtlppnjgnofglkaaIn64
import Derived.BigQuiet
import Derived.Deep.QuietTactic
import Derived.IntWalk
namespace Go.Proofs.Ytlppnjgnofglkaa
open Go.RowKit
set_option linter.unusedVariables false

theorem quiet_eqL {P : Program} {f : FuncId} {args : Array Value} {w : World} {n : Nat} {v : Value}
    (h : Calls P f args (w.drewN n) fun e w' => e = .returned v ∧ w.drewN n = w') : Calls P f args (w.drewN n) fun e w'' => e = .returned v ∧ ∃ m, w'' = w.drewN m :=
  h.mono fun _ _ ⟨he, hm⟩ => ⟨he, n, hm.symm⟩
theorem ret_boolL {b c : Bool} (h : b = c) : Ending.returned (.bool b) = Ending.returned (.bool c) := by rw [h]

set_option maxHeartbeats 2000000 in
set_option maxRecDepth 100000 in
theorem l00Rises_any (B : Nat) (a : Option Addr) (cap : Nat) (T : List Int) (hi : Int) (w : World) (h : Ints w B (.slice a T.length cap) T) (hl : T.length ≤ 1048576) :
    Calls Try.prog 9 #[.slice a T.length cap, .int .i64 0, .int .i64 hi] w fun e w' => e = .returned (.bool (risesB T hi)) ∧ ∃ q, w' = w.drewN q := by
  have HT := Lib.hid h
  clear h
  go_enter Try.func9, Try.ntmps9
  go_wp2
  go_loopw [7] (fun i wr => ∃ k q : Nat, k ≤ T.length ∧ i = .int .i64 (k : Int) ∧ (List.range k).all (rsK T hi) = true ∧ wr = w.drewN q) (fun i _ => T.length - (intOf i).toNat)
  case atStart => exact ⟨0, 0, Nat.zero_le _, rfl, rfl, rfl⟩
  case round =>
    obtain ⟨k, q, hk, rfl, h0, hq⟩ := hrel
    have H0 := Lib.hid h0
    have HQ := Lib.hid hq
    have hcw : ∀ g o, wr.cell? ⟨g, o, none⟩ = w.cell? ⟨g, o, none⟩ := fun g o => by rw [hq]; rfl
    clear h0 hq
    by_cases hlt : k < T.length
    · obtain ⟨g, rfl, c0⟩ := HT.out.at k hlt
      obtain ⟨x, hx⟩ : ∃ x, T.getD k 0 = x := ⟨_, rfl⟩
      rw [hx] at c0
      have c0 := (hcw g k).trans c0
      by_cases hr : 0 ≤ x ∧ x ≤ hi
      · obtain ⟨hr1, hr2⟩ := hr
        by_cases hz : k = 0
        · have HE := Lib.hid (rngL_step (rsK T hi) k H0.out (by unfold rsK; rw [hx]; exact decide_eq_true ⟨hr1, hr2, .inl hz⟩))
          have g1 : decide ((0 : Int) < (k : Int)) = false := by simp; omega
          have g2 : ¬ (0 : Int) < (k : Int) := by omega
          have g5 : decide (0 < k) = false := by simp; omega
          have g6 : ¬ 0 < k := by omega
          clear hz hx
          go_wp2
          go_quiet ((go_at_call 8; exact quiet_eqL (l00In_t _ _ _ _ hr1 hr2)))
          go_wp2
          go_roundw
          case rel => exact ⟨k + 1, _, by omega, by go_num, HE.out, by rw [HQ.out, World.drewN_drewN]⟩
          case measure => simp [intOf]; omega
        · obtain ⟨j, hj⟩ : ∃ j, k = j + 1 := ⟨k - 1, by omega⟩
          have hjl : j < T.length := by omega
          obtain ⟨g', hg', c1⟩ := HT.out.at j hjl
          simp only [Option.some.injEq, Addr.mk.injEq, and_true] at hg'
          subst hg'
          obtain ⟨y, hy⟩ : ∃ y, T.getD j 0 = y := ⟨_, rfl⟩
          rw [hy] at c1
          have c1 := (hcw g j).trans c1
          have hy2 : T.getD (k - 1) 0 = y := by rw [show k - 1 = j by omega]; exact hy
          have g1 : decide ((0 : Int) < (k : Int)) = true := by simp; omega
          have g2 : (0 : Int) < (k : Int) := by omega
          have g5 : decide (0 < k) = true := by simp; omega
          have g6 : 0 < k := by omega
          have wj : IntKind.i64.wrap ((k : Int) - 1) = (j : Int) := by rw [IntWalk.i64_in _ (by omega)]; omega
          have wj2 : (k : Int) - 1 = (j : Int) := by omega
          by_cases hyx : y < x
          · have HE := Lib.hid (rngL_step (rsK T hi) k H0.out (by unfold rsK; rw [hx, hy2]; exact decide_eq_true ⟨hr1, hr2, .inr hyx⟩))
            have g3 : decide (x ≤ y) = false := by simp; omega
            have g4 : ¬ x ≤ y := by omega
            clear hz hx hy hy2 hj
            go_wp2
            go_quiet ((go_at_call 8; exact quiet_eqL (l00In_t _ _ _ _ hr1 hr2)))
            go_wp2
            go_roundw
            case rel => exact ⟨k + 1, _, by omega, by go_num, HE.out, by rw [HQ.out, World.drewN_drewN]⟩
            case measure => simp [intOf]; omega
          · have HE := Lib.hid (rngL_bad (rsK T hi) k T.length hlt (by unfold rsK; rw [hx, hy2]; exact decide_eq_false (fun h => h.2.2.elim hz hyx)))
            have g3 : decide (x ≤ y) = true := by simp; omega
            have g4 : x ≤ y := by omega
            clear hz hx hy hy2 hj
            go_wp2
            go_quiet ((go_at_call 8; exact quiet_eqL (l00In_t _ _ _ _ hr1 hr2)))
            go_wp2
            go_ret
            exact ⟨ret_boolL HE.out.symm, _, by rw [HQ.out, World.drewN_drewN]⟩
      · have HE := Lib.hid (rngL_bad (rsK T hi) k T.length hlt (by unfold rsK; rw [hx]; exact decide_eq_false (fun h => hr ⟨h.1, h.2.1⟩)))
        have hr' : x < 0 ∨ hi < x := by omega
        clear hx hr
        go_wp2
        go_quiet ((go_at_call 8; exact quiet_eqL (l00In_f _ _ _ _ hr')))
        go_wp2
        go_ret
        exact ⟨ret_boolL HE.out.symm, _, by rw [HQ.out, World.drewN_drewN]⟩
    · obtain rfl : k = T.length := by omega
      go_wp2
      go_ret
      exact ⟨ret_boolL H0.out.symm, _, HQ.out⟩

def incK (T : List Int) (k : Nat) : Bool := decide (k = 0 ∨ T.getD (k - 1) 0 < T.getD k 0)
def incB (T : List Int) : Bool := (List.range T.length).all (incK T)
theorem inc_at {T : List Int} (h : incB T = true) (k : Nat) (hk : k < T.length) : k = 0 ∨ T.getD (k - 1) 0 < T.getD k 0 := by
  have := List.all_eq_true.1 h k (List.mem_range.2 hk); unfold incK at this; simpa using this
theorem rises_no {T : List Int} {hi : Int} (h : risesB T hi = true → False) : risesB T hi = false := by
  cases hb : risesB T hi with
  | false => rfl
  | true => exact (h hb).elim
theorem rises_inc {T : List Int} {hi : Int} (h : risesB T hi = true) : incB T = true := by
  unfold incB; rw [List.all_eq_true]; intro k hk
  exact decide_eq_true (rises_at h k (List.mem_range.1 hk)).2.2

set_option maxHeartbeats 2000000 in
set_option maxRecDepth 100000 in
theorem implInc (B : Nat) (a : Option Addr) (cap : Nat) (T : List Int) (w : World) (h : Ints w B (.slice a T.length cap) T) (h1 : 1 ≤ T.length) (hl : T.length ≤ 1048576) :
    Calls Try.prog 18 #[.slice a T.length cap] w fun e w' => e = .returned (.bool (incB T)) ∧ ∃ q, w' = w.drewN q := by
  have HT := Lib.hid h
  clear h
  go_enter Try.func18, Try.ntmps18
  go_wp2
  go_loopw [3] (fun i wr => ∃ k q : Nat, 1 ≤ k ∧ k ≤ T.length ∧ i = .int .i64 (k : Int) ∧ (List.range k).all (incK T) = true ∧ wr = w.drewN q) (fun i _ => T.length - (intOf i).toNat)
  case atStart => exact ⟨1, 0, Nat.le_refl _, h1, rfl, rfl, rfl⟩
  case round =>
    obtain ⟨k, q, hk1, hk, rfl, h0, rfl⟩ := hrel
    have H0 := Lib.hid h0
    clear h0
    by_cases hlt : k < T.length
    · obtain ⟨g, rfl, c0⟩ := HT.out.at k hlt
      obtain ⟨x, hx⟩ : ∃ x, T.getD k 0 = x := ⟨_, rfl⟩
      rw [hx] at c0
      obtain ⟨j, hj⟩ : ∃ j, k = j + 1 := ⟨k - 1, by omega⟩
      have hjl : j < T.length := by omega
      obtain ⟨g', hg', c1⟩ := HT.out.at j hjl
      simp only [Option.some.injEq, Addr.mk.injEq, and_true] at hg'
      subst hg'
      obtain ⟨y, hy⟩ : ∃ y, T.getD j 0 = y := ⟨_, rfl⟩
      rw [hy] at c1
      have hy2 : T.getD (k - 1) 0 = y := by rw [show k - 1 = j by omega]; exact hy
      have wj : IntKind.i64.wrap ((k : Int) - 1) = (j : Int) := by rw [IntWalk.i64_in _ (by omega)]; omega
      have wj2 : (k : Int) - 1 = (j : Int) := by omega
      by_cases hyx : y < x
      · have HE := Lib.hid (rngL_step (incK T) k H0.out (by unfold incK; rw [hx, hy2]; exact decide_eq_true (.inr hyx)))
        have g3 : decide (x ≤ y) = false := by simp; omega
        have g4 : ¬ x ≤ y := by omega
        clear hx hy hy2 hj
        go_wp2
        go_quiet (fail)
        go_wp2
        go_roundw
        case rel => exact ⟨k + 1, _, by omega, by omega, by go_num, HE.out, by first | rfl | rw [World.drewN_drewN]⟩
        case measure => simp [intOf]; omega
      · have HE := Lib.hid (rngL_bad (incK T) k T.length hlt (by unfold incK; rw [hx, hy2]; exact decide_eq_false (fun h => h.elim (by omega) hyx)))
        have g3 : decide (x ≤ y) = true := by simp; omega
        have g4 : x ≤ y := by omega
        clear hx hy hy2 hj
        go_wp2
        go_quiet (fail)
        go_wp2
        go_ret
        exact ⟨ret_boolL HE.out.symm, _, by first | rfl | rw [World.drewN_drewN]⟩
    · obtain rfl : k = T.length := by omega
      go_wp2
      go_ret
      exact ⟨ret_boolL H0.out.symm, _, rfl⟩

set_option maxHeartbeats 2000000 in
set_option maxRecDepth 100000 in
theorem implSet (B : Nat) (a : Option Addr) (cap : Nat) (T : List Int) (hi : Int) (w : World) (h : Ints w B (.slice a T.length cap) T) (hl : T.length ≤ 1048576) :
    Calls Try.prog 12 #[.slice a T.length cap, .int .i64 0, .int .i64 hi] w fun e w' => e = .returned (.bool (risesB T hi)) ∧ ∃ q, w' = w.drewN q := by
  by_cases hz : T.length = 0
  · have hT : T = [] := List.length_eq_zero_iff.1 hz
    subst hT
    go_enter Try.func12, Try.ntmps12
    go_wp2
    go_ret
    exact ⟨rfl, 0, rfl⟩
  · have h1 : 1 ≤ T.length := by omega
    have hne : ((T.length : Int) == 0) = false := beq_eq_false_iff_ne.2 (by omega)
    obtain ⟨P, hP⟩ : ∃ P, T.length = P + 1 := ⟨T.length - 1, by omega⟩
    obtain ⟨g, rfl, c0⟩ := h.at 0 (by omega)
    obtain ⟨g', hg', c1⟩ := h.at P (by omega)
    simp only [Option.some.injEq, Addr.mk.injEq, and_true] at hg'
    subst hg'
    have HI := Lib.hid (fun w h => implInc B (some ⟨g, 0, none⟩) cap T w h h1 hl)
    have HT := Lib.hid h
    obtain ⟨x, hx⟩ : ∃ x, T.getD 0 0 = x := ⟨_, rfl⟩
    obtain ⟨y, hy⟩ : ∃ y, T.getD P 0 = y := ⟨_, rfl⟩
    rw [hx] at c0
    rw [hy] at c1
    have wP : IntKind.i64.wrap ((T.length : Int) - 1) = (P : Int) := by rw [IntWalk.i64_in _ (by omega)]; omega
    have wP2 : (T.length : Int) - 1 = (P : Int) := by omega
    have hPl : P < T.length := by omega
    have h0l : 0 < T.length := by omega
    cases hb : incB T with
    | false =>
      have HE := Lib.hid (rises_no (T := T) (hi := hi) (fun h => by rw [rises_inc h] at hb; cases hb))
      have HB := Lib.hid hb
      clear hb hz h hP hx hy
      go_enter Try.func12, Try.ntmps12
      go_wp2_with fail
      refine (HI.out _ HT.out).mono ?_
      rw [HB.out]
      rintro e w' ⟨rfl, q, rfl⟩
      go_wp2
      go_ret
      exact ⟨ret_boolL HE.out.symm, _, by first | rfl | rw [World.drewN_drewN]⟩
    | true =>
      have HB := Lib.hid hb
      by_cases hx0 : 0 ≤ x
      · have g1 : decide ((0 : Int) ≤ x) = true := by simp; omega
        by_cases hyh : y ≤ hi
        · have g2 : decide (y ≤ hi) = true := by simp; omega
          have HE := Lib.hid (rises_of (hi := hi) (inc_at hb) (by rw [hx]; exact hx0) (by rw [show T.length - 1 = P by omega, hy]; exact hyh))
          clear hb hz h hP hx hy
          go_enter Try.func12, Try.ntmps12
          go_wp2_with fail
          refine (HI.out _ HT.out).mono ?_
          rw [HB.out]
          rintro e w' ⟨rfl, q, rfl⟩
          have d0 : (w.drewN q).cell? ⟨g, 0, none⟩ = some (.int .i64 x) := c0
          have d1 : (w.drewN q).cell? ⟨g, P, none⟩ = some (.int .i64 y) := c1
          go_wp2
          go_ret
          exact ⟨ret_boolL HE.out.symm, _, by first | rfl | rw [World.drewN_drewN]⟩
        · have g2 : decide (y ≤ hi) = false := by simp; omega
          have HE := Lib.hid (rises_no (T := T) (hi := hi) (fun h => hyh (by have := (rises_at h P (by omega)).2.1; rw [hy] at this; exact this)))
          clear hb hz h hP hx hy
          go_enter Try.func12, Try.ntmps12
          go_wp2_with fail
          refine (HI.out _ HT.out).mono ?_
          rw [HB.out]
          rintro e w' ⟨rfl, q, rfl⟩
          have d0 : (w.drewN q).cell? ⟨g, 0, none⟩ = some (.int .i64 x) := c0
          have d1 : (w.drewN q).cell? ⟨g, P, none⟩ = some (.int .i64 y) := c1
          go_wp2
          go_ret
          exact ⟨ret_boolL HE.out.symm, _, by first | rfl | rw [World.drewN_drewN]⟩
      · have g1 : decide ((0 : Int) ≤ x) = false := by simp; omega
        have HE := Lib.hid (rises_no (T := T) (hi := hi) (fun h => hx0 (by have := (rises_at h 0 (by omega)).1; rw [hx] at this; exact this)))
        clear hb hz h hP hx hy
        go_enter Try.func12, Try.ntmps12
        go_wp2_with fail
        refine (HI.out _ HT.out).mono ?_
        rw [HB.out]
        rintro e w' ⟨rfl, q, rfl⟩
        have d0 : (w.drewN q).cell? ⟨g, 0, none⟩ = some (.int .i64 x) := c0
        go_wp2
        go_ret
        exact ⟨ret_boolL HE.out.symm, _, by first | rfl | rw [World.drewN_drewN]⟩
end Go.Proofs.Ytlppnjgnofglkaa
