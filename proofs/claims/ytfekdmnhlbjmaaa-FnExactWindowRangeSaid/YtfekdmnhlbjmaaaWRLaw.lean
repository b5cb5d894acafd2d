/- The least and the greatest number of ups in windows of a wave: the model's side, both sides, and the law's walk. -/
import Derived.Test.YtfekdmnhlbjmaaaWRange
import Derived.Test.YtfekdmnhlbjmaaaUpsS
import Derived.Test.YtfekdmnhlbjmaaaFltI
namespace Go.Proofs.Ytfekdmnhlbjmaaa
open Go.RowKit Go.Shelf
set_option linter.unusedVariables false
set_option linter.unusedSimpArgs false

theorem l00Min_v (x y : Int) (w : World) : Calls Try.prog 56 #[.int .i64 x, .int .i64 y] w fun e w' => e = .returned (.int .i64 (min x y)) ∧ w = w' := by
  by_cases h : x < y
  · have h1 := decide_eq_true h
    rw [show min x y = x by omega]
    go_enter Try.func56, Try.ntmps56
    go_wp2
    go_ret
    exact ⟨rfl, rfl⟩
  · have h1 := decide_eq_false h
    rw [show min x y = y by omega]
    go_enter Try.func56, Try.ntmps56
    go_wp2
    go_ret
    exact ⟨rfl, rfl⟩
theorem l00Max_v (x y : Int) (w : World) : Calls Try.prog 54 #[.int .i64 x, .int .i64 y] w fun e w' => e = .returned (.int .i64 (max x y)) ∧ w = w' := by
  by_cases h : y < x
  · have h1 := decide_eq_true h
    have h2 : x > y := h
    have h3 := decide_eq_true h2
    rw [show max x y = x by omega]
    go_enter Try.func54, Try.ntmps54
    go_wp2
    go_ret
    exact ⟨rfl, rfl⟩
  · have h1 := decide_eq_false h
    have h2 : ¬ x > y := h
    have h3 := decide_eq_false h2
    rw [show max x y = y by omega]
    go_enter Try.func54, Try.ntmps54
    go_wp2
    go_ret
    exact ⟨rfl, rfl⟩
theorem upsL_none (s : ByteArray) (T k : Nat) (h : k < T) : upsL s T k = [] := by
  induction k with
  | zero => rfl
  | succ k ih => rw [upsL_miss s T k (by omega), ih (by omega)]
theorem last_win (m : Nat → Bool) (T f : Nat) : lastC m T (f + T) = cntN m f T := by
  unfold lastC; rw [show f + T - T = f by omega, Nat.min_eq_right (by omega)]
set_option maxHeartbeats 2000000 in
set_option maxRecDepth 100000 in
theorem specWR_t (s : ByteArray) (T : Nat) (w : World) (hs : s.size ≤ maxLen) (hc : canB s (T : Int) = true) (hTs : T ≤ s.size) :
    Calls Try.prog 29 #[.string s, .int .i64 (T : Int)] w fun e w' => e = .returned (.tuple #[.int .i64 (loL T (upsL s T s.size)), .int .i64 (hiL (upsL s T s.size)), .bool true]) ∧ Below w.heap.size w w' := by
  obtain ⟨hw, hT1, hT2⟩ := canB_t hc
  have hz := wave_le hw
  have HF := Lib.hid (fun w => l09F_any s (T : Int) w hs)
  rw [hc] at HF
  have HU := Lib.hid (fun f w (h : f + T ≤ s.size) => ups_any s f (f + T) w hw h)
  have hltf : ¬ (s.size : Int) < (T : Int) := by omega
  have hltd := decide_eq_false hltf
  have hltn : ¬ s.size < T := by omega
  have hltm := decide_eq_false hltn
  have H0 := Lib.hid (upsL_none s T (T - 1) (by omega))
  clear hw hc
  go_enter Try.func29, Try.ntmps29
  go_wp2_with fail
  refine (HF.out _).mono ?_; rintro e w1 ⟨rfl, rfl⟩
  go_wp2
  go_loopw [7, 8, 9, 10] (fun lo hi i _n wr => ∃ f : Nat, f + T ≤ s.size + 1 ∧ i = .int .i64 f ∧ lo = .int .i64 (loL T (upsL s T (f + T - 1))) ∧ hi = .int .i64 (hiL (upsL s T (f + T - 1))) ∧ Hid (Below w.heap.size w wr)) (fun _ _ i _ _ => s.size - (intOf i).toNat)
  case atStart => exact ⟨0, by omega, rfl, by rw [show 0 + T - 1 = T - 1 by omega, H0.out]; rfl, by rw [show 0 + T - 1 = T - 1 by omega, H0.out]; rfl, Below.refl _ _⟩
  case round =>
    obtain ⟨f, hf, rfl, rfl, rfl, HB⟩ := hrel
    obtain ⟨e, he⟩ : ∃ e, f + T = e := ⟨_, rfl⟩
    have hwe : IntKind.i64.wrap ((f : Int) + (T : Int)) = (e : Int) := by rw [IntWalk.i64_in _ (by omega)]; omega
    have hei : (f : Int) + (T : Int) = (e : Int) := by omega
    by_cases hlt : e ≤ s.size
    · have hltI : (e : Int) ≤ (s.size : Int) := by omega
      have HH : Hid (upsL s T e = upsL s T (e - 1) ++ [((e : Int), ((lastC (upB s) T e : Nat) : Int))]) := by
        show _ = _
        have := upsL_hit s T (e - 1) (by omega)
        rw [show e - 1 + 1 = e by omega] at this
        exact this
      have HV : Hid (cntN (upB s) f (e - f) = lastC (upB s) T e) := by show _ = _; rw [← he, last_win, show f + T - f = T by omega]
      have HUU := Lib.hid (fun W => HU.out f W (by omega))
      rw [he] at HUU hf ⊢
      rw [HV.out] at HUU
      obtain ⟨c, hcc⟩ : ∃ c, lastC (upB s) T e = c := ⟨_, rfl⟩
      rw [hcc] at HUU HH
      have HLO : Hid (loL T (upsL s T e) = min (loL T (upsL s T (e - 1))) (c : Int)) := by show _ = _; rw [HH.out, loL_snoc]
      have HHI : Hid (hiL (upsL s T e) = max (hiL (upsL s T (e - 1))) (c : Int)) := by show _ = _; rw [HH.out, hiL_snoc]
      obtain ⟨a, ha⟩ : ∃ a, loL T (upsL s T (e - 1)) = a := ⟨_, rfl⟩
      obtain ⟨b, hb⟩ : ∃ a, hiL (upsL s T (e - 1)) = a := ⟨_, rfl⟩
      rw [ha] at HLO ⊢
      rw [hb] at HHI ⊢
      have HE : Hid (f + 1 + T - 1 = e) := by show _ = _; omega
      have HE1 : Hid (e + 1 ≤ s.size + 1 ∧ f + T = e) := ⟨by omega, he⟩
      clear hcc ha hb HV HH he
      go_wp2_with fail
      refine (HUU.out _).mono ?_; rintro e' w1 ⟨rfl, b1⟩
      have HB1 : Hid (Below w.heap.size w w1) := HB.out.trans (b1.mono HB.out.size)
      clear b1
      go_wp2_with fail
      refine (l00Min_v a (c : Int) _).mono ?_; rintro e' w' ⟨rfl, rfl⟩
      go_wp2_with fail
      refine (l00Max_v b (c : Int) _).mono ?_; rintro e' w' ⟨rfl, rfl⟩
      go_wp2
      go_roundw
      case rel => exact ⟨f + 1, by have := HE1.out; omega, by go_num, by rw [HE.out, HLO.out], by rw [HE.out, HHI.out], HB1⟩
      case measure => have := HE1.out; simp [intOf]; omega
    · have hltI : ¬ (e : Int) ≤ (s.size : Int) := by omega
      have HE : Hid (f + T - 1 = s.size) := by show _ = _; omega
      rw [HE.out]
      clear he
      go_wp2
      go_ret3
      exact ⟨rfl, HB.out⟩
theorem specWR_f (s : ByteArray) (T : Int) (w : World) (hs : s.size ≤ maxLen) (h : ¬ (canB s T = true ∧ T ≤ (s.size : Int))) :
    Calls Try.prog 29 #[.string s, .int .i64 T] w fun e w' => e = .returned (.tuple #[.int .i64 0, .int .i64 0, .bool false]) ∧ Below w.heap.size w w' := by
  have HF := Lib.hid (fun w => l09F_any s T w hs)
  cases hc : canB s T with
  | false =>
    rw [hc] at HF
    go_enter Try.func29, Try.ntmps29
    go_wp2_with fail
    refine (HF.out _).mono ?_; rintro e w1 ⟨rfl, rfl⟩
    go_wp2
    go_ret3
    exact ⟨rfl, Below.refl _ _⟩
  | true =>
    rw [hc] at HF
    have hlt : (s.size : Int) < T := by
      rcases Decidable.em (T ≤ (s.size : Int)) with q | q
      · exact absurd ⟨hc, q⟩ h
      · omega
    have hd := decide_eq_true hlt
    go_enter Try.func29, Try.ntmps29
    go_wp2_with fail
    refine (HF.out _).mono ?_; rintro e w1 ⟨rfl, rfl⟩
    go_wp2
    go_ret3
    exact ⟨rfl, Below.refl _ _⟩
theorem implWR_f (s : ByteArray) (T : Int) (w : World) (hs : s.size ≤ maxLen) (h : ¬ (canB s T = true ∧ T ≤ (s.size : Int))) :
    Calls Try.prog 30 #[.string s, .int .i64 T] w fun e w' => e = .returned (.tuple #[.int .i64 0, .int .i64 0, .bool false]) ∧ Below w.heap.size w w' := by
  have HC := Lib.hid (fun w => canF_any s T w hs)
  cases hc : canB s T with
  | false =>
    rw [hc] at HC
    go_enter Try.func30, Try.ntmps30
    go_wp2_with fail
    refine (HC.out _).mono ?_; rintro e w1 ⟨rfl, b1⟩
    go_wp2
    go_ret3
    exact ⟨rfl, b1⟩
  | true =>
    rw [hc] at HC
    have hlt : (s.size : Int) < T := by
      rcases Decidable.em (T ≤ (s.size : Int)) with q | q
      · exact absurd ⟨hc, q⟩ h
      · omega
    have hd := decide_eq_true hlt
    go_enter Try.func30, Try.ntmps30
    go_wp2_with fail
    refine (HC.out _).mono ?_; rintro e w1 ⟨rfl, b1⟩
    go_wp2
    go_ret3
    exact ⟨rfl, b1⟩
theorem implWR_t (s : ByteArray) (T : Nat) (w : World) (hs : s.size ≤ maxLen) (hc : canB s (T : Int) = true) (hTs : T ≤ s.size) :
    Calls Try.prog 30 #[.string s, .int .i64 (T : Int)] w fun e w' => e = .returned (.tuple #[.int .i64 (loL T (upsL s T s.size)), .int .i64 (hiL (upsL s T s.size)), .bool true]) ∧ Below w.heap.size w w' :=
  callsIn_wide (n := 5).1 (implWR_in 5 (Nat.le_refl _) s T w hs hc hTs)
theorem wr_both (s : ByteArray) (T : Int) (hs : s.size ≤ maxLen) : ∃ (a b : Int) (c : Bool), (∀ w, Calls Try.prog 29 #[.string s, .int .i64 T] w fun e w' => e = .returned (.tuple #[.int .i64 a, .int .i64 b, .bool c]) ∧ Below w.heap.size w w') ∧ (∀ w, Calls Try.prog 30 #[.string s, .int .i64 T] w fun e w' => e = .returned (.tuple #[.int .i64 a, .int .i64 b, .bool c]) ∧ Below w.heap.size w w') := by
  by_cases h : canB s T = true ∧ T ≤ (s.size : Int)
  · obtain ⟨hc, hT⟩ := h
    obtain ⟨n, rfl⟩ := fraw T (canB_t hc).2
    exact ⟨_, _, _, fun w => specWR_t s n w hs hc (by omega), fun w => implWR_t s n w hs hc (by omega)⟩
  · exact ⟨_, _, _, fun w => specWR_f s T w hs h, fun w => implWR_f s T w hs h⟩
set_option maxHeartbeats 1000000 in
set_option maxRecDepth 100000 in
theorem walk_FnExactWindowRange (s : ByteArray) (T : Int) (w : World) (hs : s.size ≤ maxLen) (_wT : (Lit.int .i64 T).wf = true) :
    Calls Try.prog 10 #[.string s, .int .i64 T] w fun e w' => e = .returned (.bool true) ∧ Below w.heap.size w w' := by
  by_cases l_s : (s.size : Int) ≤ 1048576
  case neg =>
    go_enter Try.func10, Try.ntmps10
    go_wp2
    go_ret
    exact ⟨rfl, Below.refl _ _⟩
  obtain ⟨a, b, c, hS, hI⟩ := wr_both s T hs
  have HS := Lib.hid hS
  have HI := Lib.hid hI
  clear hS hI
  go_enter Try.func10, Try.ntmps10
  go_wp2_with fail
  refine (HS.out _).mono ?_; rintro e w1 ⟨rfl, b1⟩
  go_wp2_with fail
  refine (HI.out _).mono ?_; rintro e w2 ⟨rfl, b2⟩
  go_wp2
  go_ret
  exact ⟨rfl, b1.trans (b2.mono b1.size)⟩
end Go.Proofs.Ytfekdmnhlbjmaaa
