/- The model's GapOf. -/
import Derived.Test.YthigopehalkoaabTight
import Derived.Test.YthigopehalkoaabDiaIs
import Derived.Test.YthigopehalkoaabIniMath
namespace Go.Proofs.Ythigopehalkoaab
open Go.RowKit
set_option linter.unusedVariables false

theorem diaB_okG {e : Int} {n : Nat} {F : List Int} (h : diaB e n F = true) : 1 ≤ e ∧ e ≤ 10 ∧ n ≤ 24 ∧ ∀ k, k < n → BOk e (F.getD (k * 3) 0) (F.getD (k * 3 + 1) 0) (F.getD (k * 3 + 2) 0) := by
  unfold diaB at h
  simp only [Bool.and_eq_true, decide_eq_true_eq] at h
  exact ⟨h.1.1.1, h.1.1.2, h.1.2, fun k hk => by have := List.all_eq_true.1 h.2 k (List.mem_range.2 hk); unfold bokK at this; simpa using this⟩
theorem dia_fs {n nb : Nat} {F : List Int} (h : diaB (n : Int) nb F = true) : FsIn F n nb := fun k hk => by
  obtain ⟨_, q1, q2, q3, q4, q5, q6⟩ := (diaB_okG h).2.2.2 k hk
  omega
/-- the two events have a least and a greatest difference -/
def GapP (e : Int) (nb : Nat) (F : List Int) (M : Nat → Nat → Int) (f t : Int) : Prop :=
  diaB e nb F = true ∧ (0 ≤ f ∧ f ≤ e - 1) ∧ (0 ≤ t ∧ t ≤ e - 1) ∧ (∀ a, a < e.toNat → 0 ≤ M a a) ∧ M f.toNat t.toNat ≠ 1000000 ∧ M t.toNat f.toNat ≠ 1000000
def GapIs (e : Int) (nb : Nat) (F : List Int) (M : Nat → Nat → Int) (f t x y : Int) (ok : Bool) : Prop :=
  (GapP e nb F M f t → x = wrap64 (-(M t.toNat f.toNat)) ∧ y = M f.toNat t.toNat ∧ ok = true) ∧ (¬ GapP e nb F M f t → x = 0 ∧ y = 0 ∧ ok = false)
theorem GapIs.one {e : Int} {nb : Nat} {F : List Int} {M : Nat → Nat → Int} {f t x y x' y' : Int} {ok ok' : Bool} (h : GapIs e nb F M f t x y ok) (h' : GapIs e nb F M f t x' y' ok') : x' = x ∧ y' = y ∧ ok' = ok := by
  by_cases hp : GapP e nb F M f t
  · obtain ⟨rfl, rfl, rfl⟩ := h.1 hp
    exact h'.1 hp
  · obtain ⟨rfl, rfl, rfl⟩ := h.2 hp
    exact h'.2 hp
/-- the matrix is the one of the bounds -/
def GapM (e : Int) (nb : Nat) (F : List Int) (f t : Int) (M : Nat → Nat → Int) : Prop :=
  diaB e nb F = true → (0 ≤ f ∧ f ≤ e - 1) → (0 ≤ t ∧ t ≤ e - 1) → Sound (keptB F [] nb) e.toNat M ∧ Comp (keptB F [] nb) e.toNat e.toNat M
def GapR (e : Int) (nb : Nat) (F : List Int) (f t : Int) (w : World) (r : Ending) (w' : World) : Prop :=
  Below w.heap.size w w' ∧ ∃ (M : Nat → Nat → Int) (x y : Int) (ok : Bool), r = .returned (.tuple #[.int .i64 x, .int .i64 y, .bool ok]) ∧ GapM e nb F f t M ∧ GapIs e nb F M f t x y ok

set_option maxRecDepth 100000 in
theorem event_any (p B : Nat) (e : Int) (a : Option Addr) (n cap : Nat) (F : List Int) (x : Int) (w : World) (hp : At2 w p (.int .i64 e) (.slice a n cap)) (hr : Recs w B (.slice a n cap) n F) (hl : n ≤ 1048576) :
    Calls Try.prog 52 #[.pointer (some ⟨p, 0, none⟩), .int .i64 x] w fun r w' => r = .returned (.bool (diaB e n F && decide (0 ≤ x ∧ x ≤ e - 1))) ∧ Below w.heap.size w w' := by
  have HI := Lib.hid (l04Is_any p B e a n cap F w hp hr hl)
  have HP := Lib.hid hp
  clear hr hp
  cases hd : diaB e n F with
  | false =>
    rw [hd] at HI
    clear hd
    go_enter Try.func52, Try.ntmps52
    go_wp2_with fail
    refine HI.out.mono ?_; rintro r w1 ⟨rfl, b1⟩
    have HB := Lib.hid b1
    clear b1
    go_wp2
    go_ret
    exact ⟨rfl, HB.out⟩
  | true =>
    obtain ⟨he1, he2, -⟩ := diaB_okG hd
    have wr1 : IntKind.i64.wrap (e - 1) = e - 1 := IntWalk.i64_in _ (by omega)
    rw [hd] at HI
    clear hd
    go_enter Try.func52, Try.ntmps52
    go_wp2_with fail
    refine HI.out.mono ?_; rintro r w1 ⟨rfl, b1⟩
    obtain ⟨c0, c1, -, -⟩ := HP.out.below b1 HP.out.lt
    have HB := Lib.hid b1
    clear b1
    by_cases hx : 0 ≤ x ∧ x ≤ e - 1
    · go_wp2_with fail
      refine (l00In_t _ _ _ _ hx.1 hx.2).mono ?_; rintro r w' ⟨rfl, rfl⟩
      have HX : Hid (decide (0 ≤ x ∧ x ≤ e - 1) = true) := decide_eq_true hx
      clear hx
      go_wp2
      go_ret
      exact ⟨by rw [HX.out]; rfl, HB.out⟩
    · go_wp2_with fail
      refine (l00In_f _ _ _ _ (by omega)).mono ?_; rintro r w' ⟨rfl, rfl⟩
      have HX : Hid (decide (0 ≤ x ∧ x ≤ e - 1) = false) := decide_eq_false hx
      clear hx
      go_wp2
      go_ret
      exact ⟨by rw [HX.out]; rfl, HB.out⟩

set_option maxHeartbeats 2000000 in
set_option maxRecDepth 100000 in
theorem specGap (B : Nat) (e : Int) (a : Option Addr) (nb cap : Nat) (F : List Int) (f t : Int) (w : World) (hr : Recs w B (.slice a nb cap) nb F) (hl : nb ≤ 1048576) :
    Calls Try.prog 21 #[.agg #[.int .i64 e, .slice a nb cap], .int .i64 f, .int .i64 t] w fun r w' => GapR e nb F f t w r w' := by
  have hb0 : Below w.heap.size w (w.alloc (.cells #[.int .i64 e, .slice a nb cap] 31)) := (Below.refl _ _).alloc (Nat.le_refl _) _
  obtain ⟨w0, hw0⟩ : ∃ w0, w.alloc (.cells #[.int .i64 e, .slice a nb cap] 31) = w0 := ⟨_, rfl⟩
  have HP : Hid (At2 w0 w.heap.size (.int .i64 e) (.slice a nb cap)) := by rw [← hw0]; exact At2.new w _ _ _
  have HR : Hid (Recs w0 B (.slice a nb cap) nb F) := by rw [← hw0]; exact hr.keep hb0 (Nat.le_refl _)
  rw [hw0] at hb0
  have HB0 := Lib.hid hb0
  have HE1 := Lib.hid (event_any w.heap.size B e a nb cap F f w0 HP.out HR.out hl)
  clear hr hb0
  cases h1 : (diaB e nb F && decide (0 ≤ f ∧ f ≤ e - 1)) with
  | false =>
    have HNO : Hid (∀ M, ¬ GapP e nb F M f t) := fun M h => by
      rw [h.1, decide_eq_true h.2.1] at h1; cases h1
    have HMO : Hid (∀ M, GapM e nb F f t M) := fun M q1 q2 q3 => by
      rw [q1, decide_eq_true q2] at h1; cases h1
    rw [h1] at HE1
    clear h1
    go_enter Try.func21, Try.ntmps21
    go_wp2_with fail
    refine HE1.out.mono ?_; rintro r w1 ⟨rfl, b1⟩
    have HB1 := Lib.hid (HB0.out.trans (b1.mono HB0.out.size))
    clear b1
    go_wp2
    go_ret3
    exact ⟨HB1.out, fun _ _ => 0, 0, 0, false, rfl, HMO.out _, ⟨fun h => absurd h (HNO.out _), fun _ => ⟨rfl, rfl, rfl⟩⟩⟩
  | true =>
    rw [h1] at HE1
    have HE2 := Lib.hid (fun w1 (b1 : Below w0.heap.size w0 w1) => event_any w.heap.size B e a nb cap F t w1 (HP.out.below b1 HP.out.lt) (HR.out.keep b1 (Nat.le_refl _)) hl)
    cases h2 : (diaB e nb F && decide (0 ≤ t ∧ t ≤ e - 1)) with
    | false =>
      have HNO : Hid (∀ M, ¬ GapP e nb F M f t) := fun M h => by
        rw [h.1, decide_eq_true h.2.2.1] at h2; cases h2
      have HMO : Hid (∀ M, GapM e nb F f t M) := fun M q1 q2 q3 => by
        rw [q1, decide_eq_true q3] at h2; cases h2
      rw [h2] at HE2
      clear h1 h2
      go_enter Try.func21, Try.ntmps21
      go_wp2_with fail
      refine HE1.out.mono ?_; rintro r w1 ⟨rfl, b1⟩
      have HE3 := Lib.hid (HE2.out w1 b1)
      have HB1 := Lib.hid (HB0.out.trans (b1.mono HB0.out.size))
      clear b1
      go_wp2_with fail
      refine HE3.out.mono ?_; rintro r w2 ⟨rfl, b2⟩
      have HB2 := Lib.hid (HB1.out.trans (b2.mono HB1.out.size))
      clear b2
      go_wp2
      go_ret3
      exact ⟨HB2.out, fun _ _ => 0, 0, 0, false, rfl, HMO.out _, ⟨fun h => absurd h (HNO.out _), fun _ => ⟨rfl, rfl, rfl⟩⟩⟩
    | true =>
      rw [h2] at HE2
      simp only [Bool.and_eq_true, decide_eq_true_eq] at h1 h2
      obtain ⟨hd, hf1, hf2⟩ := h1
      obtain ⟨-, ht1, ht2⟩ := h2
      obtain ⟨he1, he2, hnb, -⟩ := diaB_okG hd
      obtain ⟨n, rfl⟩ : ∃ n : Nat, e = (n : Int) := ⟨e.toNat, by omega⟩
      obtain ⟨i, rfl⟩ : ∃ i : Nat, f = (i : Int) := ⟨f.toNat, by omega⟩
      obtain ⟨k, rfl⟩ : ∃ k : Nat, t = (k : Int) := ⟨t.toNat, by omega⟩
      have HFS := Lib.hid (dia_fs hd)
      have HD := Lib.hid hd
      have hin : i < n := by omega
      have hkn : k < n := by omega
      clear hd
      go_enter Try.func21, Try.ntmps21
      go_wp2_with fail
      refine HE1.out.mono ?_; rintro r w1 ⟨rfl, b1⟩
      have HE3 := Lib.hid (HE2.out w1 b1)
      have HB1 := Lib.hid b1
      clear b1
      go_wp2_with fail
      refine HE3.out.mono ?_; rintro r w2 ⟨rfl, b2⟩
      have HB2 := Lib.hid (HB1.out.trans (b2.mono HB1.out.size))
      clear b2
      go_wp2_with fail
      have hb2' : Below w0.heap.size w0 (w2.alloc (.cells #[] 2)) := HB2.out.alloc HB2.out.size _
      have HB2a := Lib.hid hb2'
      have HTG := Lib.hid (tight_any w.heap.size B n nb cap 0 0 a (some ⟨w2.heap.size, 0, none⟩) F [] (w2.alloc (.cells #[] 2)) (HP.out.below hb2' HP.out.lt) (HR.out.keep hb2' (Nat.le_refl _)) HFS.out (by omega) (by omega) hnb (fun k hk => by simp at hk) rfl (by simp))
      clear hb2'
      refine HTG.out.mono ?_; rintro r w3 ⟨go, cap2, g, c, M, ok, rfl, hcap, hmat, hsd, hcp, hok, hb3⟩
      have HB3 := Lib.hid (HB0.out.trans ((HB2a.out.trans (hb3.mono HB2a.out.size)).mono HB0.out.size))
      have HGM : Hid (GapM (n : Int) nb F (i : Int) (k : Int) M) := fun _ _ _ => ⟨hsd, hcp⟩
      cases ok with
      | false =>
        have HNO : Hid (¬ GapP (n : Int) nb F M (i : Int) (k : Int)) := fun h => by have := hok.2 h.2.2.2.1; cases this
        clear hmat hsd hcp hok hb3
        go_wp2
        go_ret3
        exact ⟨HB3.out, M, 0, 0, false, rfl, HGM.out, ⟨fun h => absurd h HNO.out, fun _ => ⟨rfl, rfl, rfl⟩⟩⟩
      | true =>
        have HOK := Lib.hid (hok.1 rfl)
        have r0 := hmat.row i hin
        have r1 := hmat.row k hkn
        obtain ⟨z0, -⟩ := hmat.cell i k hin hkn
        obtain ⟨z1, -⟩ := hmat.cell k i hkn hin
        have g0 := (hmat.hg i hin).2.2.1
        have g1 := (hmat.hg k hkn).2.2.1
        obtain ⟨x, hx⟩ : ∃ x, M i k = x := ⟨_, rfl⟩
        obtain ⟨y, hy⟩ : ∃ y, M k i = y := ⟨_, rfl⟩
        rw [hx] at z0
        rw [hy] at z1
        have HX := Lib.hid hx
        have HY := Lib.hid hy
        clear hmat hsd hcp hok hb3 hx hy
        by_cases hx0 : x = 1000000
        · have HNO : Hid (¬ GapP (n : Int) nb F M (i : Int) (k : Int)) := fun h => h.2.2.2.2.1 (by simpa using HX.out.trans hx0)
          have q0 : (x == 1000000) = true := by simp [hx0]
          clear hx0
          go_wp2
          go_ret3
          exact ⟨HB3.out, M, 0, 0, false, rfl, HGM.out, ⟨fun h => absurd h HNO.out, fun _ => ⟨rfl, rfl, rfl⟩⟩⟩
        · have q0 : (x == 1000000) = false := by simp [hx0]
          by_cases hy0 : y = 1000000
          · have HNO : Hid (¬ GapP (n : Int) nb F M (i : Int) (k : Int)) := fun h => h.2.2.2.2.2 (by simpa using HY.out.trans hy0)
            have q1 : (y == 1000000) = true := by simp [hy0]
            clear hx0 hy0
            go_wp2
            go_ret3
            exact ⟨HB3.out, M, 0, 0, false, rfl, HGM.out, ⟨fun h => absurd h HNO.out, fun _ => ⟨rfl, rfl, rfl⟩⟩⟩
          · have q1 : (y == 1000000) = false := by simp [hy0]
            have HYE : Hid (GapP (n : Int) nb F M (i : Int) (k : Int)) := ⟨HD.out, ⟨hf1, hf2⟩, ⟨ht1, ht2⟩, fun a ha => HOK.out a (by simpa using ha), by simpa [HX.out] using hx0, by simpa [HY.out] using hy0⟩
            clear hx0 hy0
            go_wp2
            go_region
            go_wp2
            go_ret3
            exact ⟨HB3.out.drew, M, _, _, true, rfl, HGM.out, ⟨fun _ => ⟨by simp [HY.out], by simp [HX.out], rfl⟩, fun h => absurd HYE.out h⟩⟩
end Go.Proofs.Ythigopehalkoaab
