/- LatestTimes on both sides. -/
import Derived.Test.YtmhbgpappjfolabGapI
namespace Go.Proofs.Ytmhbgpappjfolab
open Go.RowKit
set_option linter.unusedVariables false
set_option linter.unusedSimpArgs false

theorem ints_base {w : World} {B B' : Nat} {v : Value} {l : List Int} (h : Ints w B v l) (hB : B' ≤ B) : Ints w B' v l := by
  obtain ⟨h1, h⟩ := h
  refine ⟨h1, ?_⟩
  rcases h with h | ⟨g, cap, cur, e, hg, r⟩
  · exact .inl h
  · exact .inr ⟨g, cap, cur, e, by omega, r⟩
def tmCL (M : Nat → Nat → Int) (f ev : Nat) : Int := M f ev
def tmVL (M : Nat → Nat → Int) (f ev : Nat) : Int := M f ev
def tmLL (M : Nat → Nat → Int) (f n : Nat) : List Int := (List.range n).map (tmVL M f)
theorem tmLL_snoc (M : Nat → Nat → Int) (f n : Nat) : tmLL M f (n + 1) = tmLL M f n ++ [tmVL M f n] := by simp [tmLL, List.range_succ]
theorem tmLL_len (M : Nat → Nat → Int) (f n : Nat) : (tmLL M f n).length = n := by simp [tmLL]
def TmPL (e : Int) (nb : Nat) (F : List Int) (M : Nat → Nat → Int) (f : Int) : Prop :=
  diaB e nb F = true ∧ (0 ≤ f ∧ f ≤ e - 1) ∧ (∀ a, a < e.toNat → 0 ≤ M a a) ∧ ∀ ev, ev < e.toNat → tmCL M f.toNat ev ≠ 1000000
def TmML (e : Int) (nb : Nat) (F : List Int) (f : Int) (M : Nat → Nat → Int) : Prop :=
  diaB e nb F = true → (0 ≤ f ∧ f ≤ e - 1) → Sound (keptB F [] nb) e.toNat M ∧ Comp (keptB F [] nb) e.toNat e.toNat M
def TmIsL (e : Int) (nb : Nat) (F : List Int) (M : Nat → Nat → Int) (f : Int) (l : List Int) (ok : Bool) : Prop :=
  (TmPL e nb F M f → l = tmLL M f.toNat e.toNat ∧ ok = true) ∧ (¬ TmPL e nb F M f → l = [] ∧ ok = false)
theorem TmIsL.one {e : Int} {nb : Nat} {F : List Int} {M : Nat → Nat → Int} {f : Int} {l l' : List Int} {ok ok' : Bool} (h : TmIsL e nb F M f l ok) (h' : TmIsL e nb F M f l' ok') : l' = l ∧ ok' = ok := by
  by_cases hp : TmPL e nb F M f
  · obtain ⟨rfl, rfl⟩ := h.1 hp
    exact h'.1 hp
  · obtain ⟨rfl, rfl⟩ := h.2 hp
    exact h'.2 hp
def TmRL (e : Int) (nb : Nat) (F : List Int) (f : Int) (w : World) (r : Ending) (w' : World) : Prop :=
  Below w.heap.size w w' ∧ ∃ (M : Nat → Nat → Int) (v : Value) (l : List Int) (ok : Bool), r = .returned (.tuple #[v, .bool ok]) ∧ Ints w' w.heap.size v l ∧ l.length ≤ 10 ∧ TmML e nb F f M ∧ TmIsL e nb F M f l ok
theorem TmIsL.no {e : Int} {nb : Nat} {F : List Int} {M : Nat → Nat → Int} {f : Int} (h : ¬ TmPL e nb F M f) : TmIsL e nb F M f [] false := ⟨fun q => absurd q h, fun _ => ⟨rfl, rfl⟩⟩
theorem TmIsL.yes {e : Int} {nb : Nat} {F : List Int} {M : Nat → Nat → Int} {f : Int} (h : TmPL e nb F M f) : TmIsL e nb F M f (tmLL M f.toNat e.toNat) true := ⟨fun _ => ⟨rfl, rfl⟩, fun q => absurd h q⟩
set_option maxHeartbeats 4000000 in
set_option maxRecDepth 100000 in
theorem specTm (B : Nat) (e : Int) (a : Option Addr) (nb cap : Nat) (F : List Int) (f : Int) (w : World) (hr : Recs w B (.slice a nb cap) nb F) (hl : nb ≤ 1048576) :
    Calls Try.prog 22 #[.agg #[.int .i64 e, .slice a nb cap], .int .i64 f] w fun r w' => TmRL e nb F f w r w' := by
  obtain ⟨i0, hi, hz0, hz1, hz2⟩ := info_parts info_i64
  have hb0 : Below w.heap.size w (w.alloc (.cells #[.int .i64 e, .slice a nb cap] 31)) := (Below.refl _ _).alloc (Nat.le_refl _) _
  obtain ⟨w0, hw0⟩ : ∃ w0, w.alloc (.cells #[.int .i64 e, .slice a nb cap] 31) = w0 := ⟨_, rfl⟩
  have HP : Hid (At2 w0 w.heap.size (.int .i64 e) (.slice a nb cap)) := by rw [← hw0]; exact At2.new w _ _ _
  have HR : Hid (Recs w0 B (.slice a nb cap) nb F) := by rw [← hw0]; exact hr.keep hb0 (Nat.le_refl _)
  rw [hw0] at hb0
  have HB0 := Lib.hid hb0
  have HE1 := Lib.hid (event_any w.heap.size B e a nb cap F f w0 HP.out HR.out hl)
  clear hr hb0
  cases h1 : (diaB e nb F && decide (0 ≤ f ∧ f ≤ e - 1)) with
  | false =>
    have HNO : Hid (∀ M, ¬ TmPL e nb F M f) := fun M h => by
      rw [h.1, decide_eq_true h.2.1] at h1; cases h1
    have HMO : Hid (∀ M, TmML e nb F f M) := fun M q1 q2 => by
      rw [q1, decide_eq_true q2] at h1; cases h1
    rw [h1] at HE1
    clear h1
    go_enter Try.func22, Try.ntmps22
    go_wp2_with fail
    refine HE1.out.mono ?_; rintro r w1 ⟨rfl, b1⟩
    have HB1 := Lib.hid (HB0.out.trans (b1.mono HB0.out.size))
    clear b1
    go_wp2
    go_ret2
    exact ⟨HB1.out, fun _ _ => 0, _, [], false, rfl, Ints.nil _ _, Nat.zero_le _, HMO.out _, TmIsL.no (HNO.out _)⟩
  | true =>
    rw [h1] at HE1
    simp only [Bool.and_eq_true, decide_eq_true_eq] at h1
    obtain ⟨hd, hf1, hf2⟩ := h1
    obtain ⟨he1, he2, hnb, -⟩ := diaB_okG hd
    obtain ⟨n, rfl⟩ : ∃ n : Nat, e = (n : Int) := ⟨e.toNat, by omega⟩
    obtain ⟨i, rfl⟩ : ∃ i : Nat, f = (i : Int) := ⟨f.toNat, by omega⟩
    have HFS := Lib.hid (dia_fs hd)
    have HD := Lib.hid hd
    have hin : i < n := by omega
    have hin2 : (i : Int) < (n : Int) := by omega
    have hfr : Hid (0 ≤ (i : Int) ∧ (i : Int) ≤ (n : Int) - 1) := ⟨hf1, hf2⟩
    clear hd hf1 hf2
    go_enter Try.func22, Try.ntmps22
    go_wp2_with fail
    refine HE1.out.mono ?_; rintro r w1 ⟨rfl, b1⟩
    have HB1 := Lib.hid b1
    obtain ⟨w2, hw2⟩ : ∃ w2, w1.alloc (.cells #[] 2) = w2 := ⟨_, rfl⟩
    have hb2 : Below w0.heap.size w0 w2 := by rw [← hw2]; exact b1.alloc b1.size _
    have HB2 := Lib.hid hb2
    have HTI := Lib.hid (tight_any w.heap.size B n nb cap 0 0 a (some ⟨w1.heap.size, 0, none⟩) F [] w2 (HP.out.below hb2 HP.out.lt) (HR.out.keep hb2 (Nat.le_refl _)) HFS.out (by omega) (by omega) hnb (fun k hk => by simp at hk) rfl (by simp))
    clear b1 hb2
    go_wp2_with fail
    refine HTI.out.mono ?_; rintro r w3 ⟨go, cap2, g, c, M, ok, rfl, hcap, hmat, hsd, hcp, hok, hb3⟩
    clear hw2
    have hb03 := HB2.out.trans (hb3.mono HB2.out.size)
    have HM : Hid (TmML (n : Int) nb F (i : Int) M) := fun _ _ => ⟨hsd, hcp⟩
    have HOK := Lib.hid hok
    obtain ⟨w4, hw4⟩ : ∃ w4, w3.alloc (.cells #[] 2) = w4 := ⟨_, rfl⟩
    have hb4 : Below w3.heap.size w3 w4 := by rw [← hw4]; exact (Below.refl _ _).alloc (Nat.le_refl _) _
    have HB03 := Lib.hid hb03
    have HB34 := Lib.hid hb4
    have HMAT := Lib.hid hmat
    have HI4 : Hid (Ints w4 w3.heap.size (.slice (some ⟨w3.heap.size, 0, none⟩) 0 0) []) := by
      rw [← hw4]; exact World.ownsRow_lit w3 #[] 0 (Nat.le_refl _) (Nat.zero_le _) rfl
    have HB04 := Lib.hid (hb03.trans (hb4.mono hb03.size))
    have hz3 : w.heap.size ≤ w3.heap.size := Nat.le_trans HB0.out.size hb03.size
    have hn1 : 1 ≤ n := by omega
    clear hb03 hb3 hb4 hmat hsd hcp hok
    cases ok with
    | false =>
      have HNO : Hid (¬ TmPL (n : Int) nb F M (i : Int)) := fun h => by
        have := HOK.out.2 (fun a ha => h.2.2.1 a (by simpa using ha))
        cases this
      go_wp2
      clear hw4
      go_loopw [8, 9] (fun v j wr => v = .slice (some ⟨w3.heap.size, 0, none⟩) 0 0 ∧ j = .int .i64 0 ∧ wr = w4) (fun _ _ _ => 0)
      case atStart => exact ⟨rfl, rfl, rfl⟩
      case round =>
        obtain ⟨rfl, rfl, rfl⟩ := hrel
        obtain ⟨q0, -, -, -⟩ := HP.out.below HB04.out HP.out.lt
        have hn0 : (0 : Int) < (n : Int) := by omega
        have hn0' : 0 < n := hn1
        go_wp2
        go_ret2
        exact ⟨HB0.out.trans (HB04.out.mono HB0.out.size), M, _, [], false, rfl, Ints.nil _ _, Nat.zero_le _, HM.out, TmIsL.no HNO.out⟩
    | true =>
      have HPOS : Hid (∀ a, a < n → 0 ≤ M a a) := HOK.out.1 rfl
      go_wp2
      clear hw4
      go_loopw [8, 9] (fun v j wr => ∃ k : Nat, k ≤ n ∧ j = .int .i64 k ∧ Hid (Ints wr w3.heap.size v (tmLL M i k)) ∧ Hid (Below w3.heap.size w3 wr) ∧ Hid (∀ ev, ev < k → tmCL M i ev ≠ 1000000)) (fun _ j _ => n - (intOf j).toNat)
      case atStart => exact ⟨0, Nat.zero_le _, rfl, HI4, HB34, fun ev h => absurd h (Nat.not_lt_zero _)⟩
      case round =>
        obtain ⟨k, hk, rfl, HBU, HBW, HALL⟩ := hrel
        have hb0r := HB03.out.trans (HBW.out.mono HB03.out.size)
        obtain ⟨q0, -, -, -⟩ := HP.out.below hb0r HP.out.lt
        have HBR := Lib.hid (HB0.out.trans (hb0r.mono HB0.out.size))
        clear hb0r
        by_cases hlt : k < n
        · have hlt2 : (k : Int) < (n : Int) := by omega
          have hm := HMAT.out.below HBW.out (Nat.le_refl _)
          have r0 := hm.row i (by omega)
          obtain ⟨z0, -⟩ := hm.cell i k (by omega) (by omega)
          have g0 := (hm.hg i (by omega)).2.2.1
          have hlen := tmLL_len M i k
          have HLN := Lib.hid hlen
          have hszr := HBR.out.size
          have hszr3 := HBW.out.size
          obtain ⟨v, hv⟩ : ∃ v, M i k = v := ⟨_, rfl⟩
          rw [hv] at z0
          have HV : Hid (tmCL M i k = v) := hv
          have HTV : Hid (tmVL M i k = v) := by show _ = _; rw [← hv]; rfl
          have HS := Lib.hid (tmLL_snoc M i k)
          clear hm hv hlen
          by_cases hv9 : v = 1000000
          · have HNO : Hid (¬ TmPL (n : Int) nb F M (i : Int)) := fun h => h.2.2.2 k (by simpa using hlt) (by simpa [hv9] using HV.out)
            have t9 : (v == 1000000) = true := by simp [hv9]
            clear hv9
            go_wp2
            go_ret2
            exact ⟨HBR.out, M, _, [], false, rfl, Ints.nil _ _, Nat.zero_le _, HM.out, TmIsL.no HNO.out⟩
          · have t9 : (v == 1000000) = false := by simp [hv9]
            have HALL2 : Hid (∀ ev, ev < k + 1 → tmCL M i ev ≠ 1000000) := fun ev h => by
              rcases Nat.lt_or_ge ev k with h2 | h2
              · exact HALL.out ev h2
              · obtain rfl : ev = k := by omega
                rw [HV.out]; exact hv9
            clear hv9 HALL
            go_wp2_with (at_builtin; refine wpList_append_own _ rfl _ _ 38 rfl w3.heap.size 2 i0 (.int .i64 0) 1 8 Try.underlying38 hi hz0 hz1 hz2 rfl (by decide) _ _ _ rfl (HBU.out.alloc _) ⟨wr.heap.size, 0, none⟩ 1 1 [.int .i64 (v)] rfl rfl ?c1 ?c2 ?c3 ?c4 ?c5 ?_)
            case c1 => exact cell_one_new _ _ _
            case c2 => simp [Value.oneCell']
            case c3 => rw [HLN.out]; unfold maxLen; omega
            case c4 => rw [HLN.out]; omega
            case c5 => first | omega | (simp; omega)
            intro v' w7 hown' hgrow _
            have HO : Hid (Ints w7 w3.heap.size v' (tmLL M i k ++ [v])) := Ints.snocT hown'
            have HW7 := Lib.hid (Ints.belowT HBW.out HBU.out _ hgrow)
            clear hown' hgrow
            go_wp2
            go_roundw
            case rel => exact ⟨k + 1, by omega, by go_num, by rw [HS.out, HTV.out]; exact HO, HW7, HALL2⟩
            case measure => simp [intOf]; omega
        · obtain rfl : k = n := by omega
          have HYES : Hid (TmPL (k : Int) nb F M (i : Int)) := ⟨HD.out, hfr.out, fun a ha => HPOS.out a (by simpa using ha), fun ev h => by simpa using HALL.out ev (by simpa using h)⟩
          go_wp2
          go_ret2
          refine ⟨HBR.out, M, _, _, true, rfl, ints_base HBU.out hz3, by rw [tmLL_len]; omega, HM.out, ?_⟩
          have := TmIsL.yes HYES.out
          simpa using this
end Go.Proofs.Ytmhbgpappjfolab
