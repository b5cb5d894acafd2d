/- The program's differences of a diagram, and its GapOf. -/
import Derived.Test.YtkipgeecibimoaaUnlim
import Derived.Test.YtkipgeecibimoaaGapS
import Derived.Maps.OwnSet
namespace Go.Proofs.Ytkipgeecibimoaa
open Go.RowKit
set_option linter.unusedVariables false

theorem nil_look (i v : Int) (w : World) (wi : (Lit.int .i64 i).wf = true) (wv : (Lit.int .i64 v).wf = true) :
    (Instr.lookup 150 (.map none) (.agg #[.int .i64 i, .int .i64 v]) true).run Try.prog w = .ok (.tuple #[.agg #[.int .i64 0, .int .i64 0], .bool false]) w := by
  obtain ⟨l, hl⟩ := pr_of i v wi wv
  exact Maps.look_nil true pr_key Try.underlying150 (tr_zero w) hl
set_option maxRecDepth 100000 in
theorem most_nil (i v : Int) (w : World) (wi : (Lit.int .i64 i).wf = true) (wv : (Lit.int .i64 v).wf = true) :
    Calls Try.prog 103 #[.map none, .int .i64 i, .int .i64 v] w fun e w' => e = .returned (.tuple #[.int .i64 0, .bool false]) ∧ Below w.heap.size w w' := by
  have hl := nil_look i v w wi wv
  go_enter Try.func103, Try.ntmps103
  go_wp2
  go_ret2
  exact ⟨rfl, (Below.refl _ _).alloc (Nat.le_refl _) _⟩
/-- what differences tells -/
def DifR (e : Int) (nb : Nat) (F : List Int) (w : World) (r : Ending) (w' : World) : Prop :=
  Below w.heap.size w w' ∧ ((diaB e nb F = true ∧ ∃ (b m : Nat) (D : Nat → Trails), r = .returned (.tuple #[.map (some b), .bool true]) ∧ w.heap.size ≤ b ∧ TM w' b m D ∧ Least (keptB F [] nb) e.toNat D ∧ ∀ i, e.toNat ≤ i → D i = fun _ => none) ∨
    ((diaB e nb F = true → NegRing (keptB F [] nb) e.toNat) ∧ r = .returned (.tuple #[.map none, .bool false])))
theorem kept_all (F : List Int) (nb : Nat) : (∀ k, k < nb → bdAt F k ∈ keptB F [] nb) ∧ ∀ x ∈ keptB F [] nb, ∃ j, j < nb ∧ bdAt F j = x :=
  ⟨fun k hk => (keptB_mem F [] _ nb).2 ⟨k, hk, rfl, rfl⟩, fun x hx => by
    obtain ⟨j, h1, _, h2⟩ := (keptB_mem F [] x nb).1 hx
    exact ⟨j, h1, h2⟩⟩
theorem bdsS_of {bs : List Bd} {n : Nat} (h : BdsIn bs n) : BdsS bs n 1000 := fun b hb => by
  obtain ⟨h1, h2, h3, h4⟩ := h b hb
  exact ⟨h1, h2, by omega⟩
set_option maxHeartbeats 1000000 in
set_option maxRecDepth 100000 in
theorem difs_any (B : Nat) (e : Int) (a : Option Addr) (nb cap : Nat) (F : List Int) (w : World) (hr : Recs w B (.slice a nb cap) nb F) (hl : nb ≤ 1048576) :
    Calls Try.prog 102 #[.agg #[.int .i64 e, .slice a nb cap]] w fun r w' => DifR e nb F w r w' := by
  have hb0 : Below w.heap.size w (w.alloc (.cells #[.int .i64 e, .slice a nb cap] 65)) := (Below.refl _ _).alloc (Nat.le_refl _) _
  obtain ⟨w0, hw0⟩ : ∃ w0, w.alloc (.cells #[.int .i64 e, .slice a nb cap] 65) = w0 := ⟨_, rfl⟩
  have HP : Hid (At2 w0 w.heap.size (.int .i64 e) (.slice a nb cap)) := by rw [← hw0]; exact At2.new w _ _ _
  have HR : Hid (Recs w0 B (.slice a nb cap) nb F) := by rw [← hw0]; exact hr.keep hb0 (Nat.le_refl _)
  rw [hw0] at hb0
  have HB0 := Lib.hid hb0
  have HV := Lib.hid (implDiaIs B e a nb cap F w0 HR.out hl)
  obtain ⟨c0, c1, -, -⟩ := HP.out
  clear hr hb0
  cases hd : diaB e nb F with
  | false =>
    rw [hd] at HV
    have HNO : Hid (diaB e nb F = true → NegRing (keptB F [] nb) e.toNat) := fun h => by rw [hd] at h; cases h
    clear hd
    go_enter Try.func102, Try.ntmps102
    go_wp2_with fail
    refine HV.out.mono ?_; rintro r w1 ⟨rfl, b1⟩
    have HB1 := Lib.hid (HB0.out.trans (b1.mono HB0.out.size))
    clear b1
    go_wp2
    go_ret2
    exact ⟨HB1.out, .inr ⟨HNO.out, rfl⟩⟩
  | true =>
    rw [hd] at HV
    obtain ⟨he1, he2, hnb, -⟩ := diaB_okG hd
    obtain ⟨n, rfl⟩ : ∃ n : Nat, e = (n : Int) := ⟨e.toNat, by omega⟩
    have hfs := dia_fs hd
    have HD := Lib.hid hd
    have HU : Hid (∀ w1, Below w0.heap.size w0 w1 → Calls Try.prog 158 #[.agg #[.int .i64 (n : Int), .slice a nb cap]] w1 fun e w' => UnlR (keptB F [] nb) n w1 e w') := fun w1 b1 =>
      unlim_any B n nb cap 1000 10000 a F (keptB F [] nb) w1 (HR.out.keep b1 (Nat.le_refl _)) (bdsS_of (keptB_in hfs)) (fun k hk => ⟨(hfs k hk).1.1, (hfs k hk).2.1.1⟩) (kept_all F nb).1 (kept_all F nb).2 (by omega) (by omega) (by omega) (by
        have h1 : n * (1 + n * (2 * 10000 + 1)) ≤ 10 * (1 + 10 * (2 * 10000 + 1)) := Nat.mul_le_mul (by omega) (Nat.add_le_add_left (Nat.mul_le_mul_right _ (by omega)) 1)
        unfold maxLen; omega) (by omega)
    clear hd hfs
    go_enter Try.func102, Try.ntmps102
    go_wp2_with fail
    refine HV.out.mono ?_; rintro r w1 ⟨rfl, b1⟩
    have HU1 := Lib.hid (HU.out w1 b1)
    have HB1 := Lib.hid (HB0.out.trans (b1.mono HB0.out.size))
    obtain ⟨d0, d1, -, -⟩ := HP.out.below b1 HP.out.lt
    clear b1 c0 c1
    go_wp2_with fail
    refine HU1.out.mono ?_; rintro r w2 ⟨b2, ⟨b, m, D, rfl, hb, ht, hls, hout⟩ | ⟨rfl, hneg⟩⟩
    · have HB2 := Lib.hid (HB1.out.trans (b2.mono HB1.out.size))
      have HX := Lib.hid (And.intro hb (And.intro ht (And.intro hls hout)))
      clear b2 hb ht hls hout
      go_wp2
      go_ret2
      exact ⟨HB2.out, .inl ⟨HD.out, b, m, D, rfl, Nat.le_trans HB1.out.size HX.out.1, HX.out.2.1, by simpa using HX.out.2.2.1, by simpa using HX.out.2.2.2⟩⟩
    · have HB2 := Lib.hid (HB1.out.trans (b2.mono HB1.out.size))
      have HX := Lib.hid hneg
      clear b2 hneg
      go_wp2
      go_ret2
      exact ⟨HB2.out, .inr ⟨fun _ => by simpa using HX.out, rfl⟩⟩
theorem gap_key {e : Int} {nb : Nat} {F : List Int} {M : Nat → Nat → Int} {f t : Int} {D : Nat → Trails} (hd : diaB e nb F = true) (hL : Least (keptB F [] nb) e.toNat D) (hout : ∀ i, e.toNat ≤ i → D i = fun _ => none) (hM : GapM e nb F f t M) :
    (∀ p q, GI D f t = some p → GI D t f = some q → GapP e nb F M f t ∧ p.2 = M f.toNat t.toNat ∧ q.2 = M t.toNat f.toNat) ∧ (GapP e nb F M f t → (GI D f t).isSome = true ∧ (GI D t f).isSome = true) := by
  obtain ⟨he1, he2, hnb, -⟩ := diaB_okG hd
  obtain ⟨n, rfl⟩ : ∃ n : Nat, e = (n : Int) := ⟨e.toNat, by omega⟩
  have hfs := keptB_in (W := []) (dia_fs hd)
  have en : ((n : Int)).toNat = n := by simp
  rw [en] at hL hout
  have rng : ∀ f t : Int, (∃ p, GI D f t = some p) → (0 ≤ f ∧ f ≤ (n : Int) - 1) ∧ (0 ≤ t ∧ t ≤ (n : Int) - 1) := by
    intro f t ⟨p, hp⟩
    unfold GI at hp
    by_cases h0 : 0 ≤ f ∧ 0 ≤ t
    · rw [if_pos h0] at hp
      obtain ⟨c, hc, -⟩ := Option.map_eq_some_iff.1 hp
      have hf : f.toNat < n := by
        rcases Nat.lt_or_ge f.toNat n with h | h
        · exact h
        · rw [hout _ h] at hc; cases hc
      have := (hL.ok f.toNat t.toNat c.1 c.2 hf hc).1
      omega
    · rw [if_neg h0] at hp; cases hp
  have tab : (0 ≤ f ∧ f ≤ (n : Int) - 1) → (0 ≤ t ∧ t ≤ (n : Int) - 1) → (∀ a, a < n → 0 ≤ M a a) ∧ ∀ a b, a < n → b < n → (∀ c s, D a b = some (c, s) → M a b = s ∧ s ≤ 10000 ∧ -10000 ≤ s) ∧ (D a b = none → M a b = 1000000) := fun h1 h2 => by
    obtain ⟨q1, q2⟩ := hM hd h1 h2
    rw [en] at q1 q2
    exact least_table hfs (by omega) hL q1 q2
  refine ⟨fun p q hp hq => ?_, fun hp => ?_⟩
  · obtain ⟨h1, h2⟩ := rng f t ⟨p, hp⟩
    obtain ⟨d0, tb⟩ := tab h1 h2
    obtain ⟨i, rfl⟩ : ∃ i : Nat, f = (i : Int) := ⟨f.toNat, by omega⟩
    obtain ⟨k, rfl⟩ : ∃ k : Nat, t = (k : Int) := ⟨t.toNat, by omega⟩
    rw [GI_nat] at hp hq
    obtain ⟨x, hx, rfl⟩ := Option.map_eq_some_iff.1 hp
    obtain ⟨y, hy, rfl⟩ := Option.map_eq_some_iff.1 hq
    obtain ⟨x1, x2, x3⟩ := (tb i k (by omega) (by omega)).1 x.1 x.2 hx
    obtain ⟨y1, y2, y3⟩ := (tb k i (by omega) (by omega)).1 y.1 y.2 hy
    have e1 : ((i : Int)).toNat = i := by simp
    have e2 : ((k : Int)).toNat = k := by simp
    refine ⟨⟨hd, h1, h2, fun a ha => d0 a (by omega), ?_, ?_⟩, ?_, ?_⟩
    · rw [e1, e2]; omega
    · rw [e1, e2]; omega
    · rw [e1, e2]; exact x1.symm
    · rw [e1, e2]; exact y1.symm
  · obtain ⟨-, h1, h2, -, h3, h4⟩ := hp
    obtain ⟨d0, tb⟩ := tab h1 h2
    obtain ⟨i, rfl⟩ : ∃ i : Nat, f = (i : Int) := ⟨f.toNat, by omega⟩
    obtain ⟨k, rfl⟩ : ∃ k : Nat, t = (k : Int) := ⟨t.toNat, by omega⟩
    have e1 : ((i : Int)).toNat = i := by simp
    have e2 : ((k : Int)).toNat = k := by simp
    rw [e1, e2] at h3 h4
    rw [GI_nat, GI_nat]
    constructor
    · cases hx : D i k with
      | none => exact absurd ((tb i k (by omega) (by omega)).2 hx) h3
      | some x => rfl
    · cases hx : D k i with
      | none => exact absurd ((tb k i (by omega) (by omega)).2 hx) h4
      | some x => rfl
theorem gap_nil {e : Int} {nb : Nat} {F : List Int} {M : Nat → Nat → Int} {f t : Int} (hn : diaB e nb F = true → NegRing (keptB F [] nb) e.toNat) (hM : GapM e nb F f t M) : ¬ GapP e nb F M f t := by
  rintro ⟨hd, h1, h2, h3, -⟩
  obtain ⟨n, rfl⟩ : ∃ n : Nat, e = (n : Int) := ⟨e.toNat, by have := (diaB_okG hd).1; omega⟩
  have hfs := keptB_in (W := []) (dia_fs hd)
  obtain ⟨q1, q2⟩ := hM hd h1 h2
  have hr := hn hd
  rw [show ((n : Int)).toNat = n by simp] at q1 q2 hr h3
  obtain ⟨a, ha, hlt⟩ := ring_table hfs hr q2
  have := h3 a ha
  omega

end Go.Proofs.Ytkipgeecibimoaa
