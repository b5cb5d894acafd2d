/- The walk of a law: where two clocks meet. -/
import Derived.Test.YtafecdmcbpnniaaMtM
import Derived.Test.YtafecdmcbpnniaaFm3
import Derived.Test.YtafecdmcbpnniaaR8c
import Derived.Test.YtafecdmcbpnniaaByteR
namespace Go.Proofs.Ytafecdmcbpnniaa
open Go.RowKit
set_option linter.unusedVariables false
theorem com2 (A ao B bo t : Int) : comE [A, ao, B, bo] 2 t ↔ edgeP A ao t ∧ edgeP B bo t := by
  constructor
  · intro h; exact ⟨h 0 (by omega), h 1 (by omega)⟩
  · rintro ⟨h1, h2⟩ k hk
    rcases k with _ | _ | k
    · exact h1
    · exact h2
    · omega
theorem allC2 (A ao B bo : Int) (h1 : clkB A ao = true) (h2 : clkB B bo = true) : allC [A, ao, B, bo] 2 = true := by
  refine allC_ok (by omega) ?_
  have e1 : ckK [A, ao, B, bo] 0 = true := h1
  have e2 : ckK [A, ao, B, bo] 1 = true := h2
  exact allK_step (allK_step rfl e1) e2
theorem comR2 (A ao B bo : Int) (hA : 1 ≤ A ∧ A ≤ 20) (hB : 1 ≤ B ∧ B ≤ 20) : comR [A, ao, B, bo] 2 = some (A / (Int.gcd A B : Int) * B) := by
  have h0 : comR [A, ao, B, bo] 0 = some 1 := rfl
  have h1 := comR_step [A, ao, B, bo] 0 1 A h0 rfl
  have e1 : (1 : Int) / (Int.gcd 1 A : Int) * A = A := by rw [Int.gcd_one_left]; simp
  rw [e1, if_pos (by omega)] at h1
  have h2 := comR_step [A, ao, B, bo] 1 A B h1 rfl
  obtain ⟨l1, l2, l3, l4, l5, l6, l7, l8⟩ := lcm_bd A B hA.1 (by omega) hB.1 (by omega)
  have l9 : A / (Int.gcd A B : Int) * B ≤ A * B := Int.mul_le_mul_of_nonneg_right l2 (by omega)
  have l10 : A * B ≤ 20 * 20 := Int.mul_le_mul hA.2 hB.2 (by omega) (by omega)
  rw [if_pos (by omega)] at h2
  exact h2
/-- what the law asks of both clocks -/
structure MtT (A ao B bo r L gp : Int) (c : Bool) : Prop where
  l1 : 1 ≤ L
  l2 : L ≤ A * B
  l3 : L % A = 0
  l4 : L % B = 0
  gz : c = decide (gp = 0)
  g0 : 0 ≤ gp
  g1 : gp ≤ 20
  r0 : 0 ≤ r
  r1 : r ≤ 1000000000000
  both : ∀ t : Int, 0 ≤ t → edgeP A ao t → edgeP B bo t → c = true ∧ r ≤ t ∧ (t - r) % L = 0
  back : ∀ t : Int, c = true → r ≤ t → (t - r) % L = 0 → edgeP A ao t ∧ edgeP B bo t
  nx : ∀ t : Int, 0 ≤ t → edgeP A ao t → gp ≤ bo + befZ B bo t * B - t
  ny : ∀ t : Int, 0 ≤ t → edgeP B bo t → gp ≤ ao + befZ A ao t * A - t
  at_ : ∃ t : Int, 0 ≤ t ∧ t < 900 ∧ ((edgeP A ao t ∧ bo + befZ B bo t * B - t = gp) ∨ (edgeP B bo t ∧ ao + befZ A ao t * A - t = gp))
theorem mt_facts (A ao B bo r : Int) (c : Bool) (hA : 1 ≤ A ∧ A ≤ 20) (hB : 1 ≤ B ∧ B ≤ 20) (ha : 0 ≤ ao ∧ ao ≤ 29) (hb : 0 ≤ bo ∧ bo ≤ 29) (hM : MeetR [A, ao, B, bo] 2 r c) :
    MtT A ao B bo r (A / (Int.gcd A B : Int) * B) (gapZ A ao B bo) c := by
  obtain ⟨l1, l2, l3, l4, l5, l6, l7, l8⟩ := lcm_bd A B hA.1 (by omega) hB.1 (by omega)
  obtain ⟨g0, g1, g2⟩ := gap_bd A ao B bo hA.1 hB.1
  have hAB : A * B ≤ 20 * 20 := Int.mul_le_mul hA.2 hB.2 (by omega) (by omega)
  have hlm : lastM = 1000000000000 := rfl
  have hcd : c = decide (gapZ A ao B bo = 0) := by
    rcases hM with ⟨rfl, h1, h2, h3, h4⟩ | ⟨rfl, h1, h2⟩
    · symm; rw [decide_eq_true_eq, g2]
      apply Decidable.byContradiction
      intro hn
      exact meet_none A ao B bo r hA.1 hB.1 hn ((com2 A ao B bo r).1 h3)
    · symm; rw [decide_eq_false_iff_not, g2]
      intro hz
      obtain ⟨t, t1, t2, t3, t4⟩ := meet_soon A ao B bo hA.1 hB.1 ha.1 hb.1 hz
      exact h2 t t3 (by omega) ((com2 A ao B bo t).2 ⟨t1, t2⟩)
  refine { l1 := l7, l2 := Int.mul_le_mul_of_nonneg_right l2 (by omega), l3 := ?_, l4 := Int.mul_emod_left _ _, gz := hcd, g0 := g0, g1 := by omega, r0 := ?_, r1 := ?_, both := ?_, back := ?_, nx := ?_, ny := ?_, at_ := ?_ }
  · rw [l5]; exact Int.mul_emod_right _ _
  · rcases hM with ⟨-, h1, h2, -, -⟩ | ⟨-, h1, -⟩ <;> omega
  · rcases hM with ⟨-, h1, h2, -, -⟩ | ⟨-, h1, -⟩ <;> omega
  · intro t h0 ha' hb'
    have hcom := (com2 A ao B bo t).2 ⟨ha', hb'⟩
    have hz : (bo - ao) % (Int.gcd A B : Int) = 0 := by
      apply Decidable.byContradiction
      intro hn
      exact meet_none A ao B bo t hA.1 hB.1 hn ⟨ha', hb'⟩
    rcases hM with ⟨h5, h1, h2, h3, h4⟩ | ⟨h5, h1, h2⟩
    · have hr := h4 t h0 hcom
      exact ⟨h5, hr, ((com_apart A ao B bo r t _ hA.1 hB.1 rfl ((com2 A ao B bo r).1 h3)).1 ⟨ha', hb', hr⟩).2⟩
    · obtain ⟨u, u1, u2, u3, u4⟩ := meet_soon A ao B bo hA.1 hB.1 ha.1 hb.1 hz
      exact absurd ((com2 A ao B bo u).2 ⟨u1, u2⟩) (h2 u u3 (by omega))
  · intro t hc hr hz
    rcases hM with ⟨h5, h1, h2, h3, h4⟩ | ⟨h5, h1, h2⟩
    · have := (com_apart A ao B bo r t _ hA.1 hB.1 rfl ((com2 A ao B bo r).1 h3)).2 ⟨hr, hz⟩
      exact ⟨this.1, this.2.1⟩
    · rw [h5] at hc; cases hc
  · intro t h0 h; exact gap_le_x A ao B bo t hA.1 hB.1 ha.1 hb.1 h
  · intro t h0 h; exact gap_le_y A ao B bo t hA.1 hB.1 ha.1 hb.1 h
  · obtain ⟨t, t1, t2, t3⟩ := gap_at A ao B bo hA.1 hB.1 ha.1 hb.1
    exact ⟨t, t1, by omega, t3⟩
/-- what the walk knows of the least candidate so far -/
def NearI (A ao B bo gp : Int) (t : Nat) (v : Int) : Prop := gp ≤ v ∧ v ≤ 1000 ∧ ∀ s : Int, 0 ≤ s → s < (t : Int) → (edgeP A ao s → v ≤ bo + befZ B bo s * B - s) ∧ (edgeP B bo s → v ≤ ao + befZ A ao s * A - s)
theorem near_end {A ao B bo r L gp : Int} {c : Bool} (h : MtT A ao B bo r L gp c) {v : Int} (hv : NearI A ao B bo gp 900 v) : v = gp := by
  obtain ⟨t, t0, t1, t2⟩ := h.at_
  have := hv.2.2 t t0 (by omega)
  have := hv.1
  rcases t2 with ⟨h1, h2⟩ | ⟨h1, h2⟩
  · have := (hv.2.2 t t0 (by omega)).1 h1; omega
  · have := (hv.2.2 t t0 (by omega)).2 h1; omega
/-- one candidate more -/
def candX (B bo t v : Int) (x : Bool) : Int := if x = true ∧ bo + befZ B bo t * B - t < v then bo + befZ B bo t * B - t else v
theorem near_step {A ao B bo r L gp : Int} {c : Bool} (h : MtT A ao B bo r L gp c) {t : Nat} {v : Int} (hv : NearI A ao B bo gp t v) (x y : Bool) (hx : x = true ↔ edgeP A ao (t : Int)) (hy : y = true ↔ edgeP B bo (t : Int)) :
    NearI A ao B bo gp (t + 1) (candX A ao (t : Int) (candX B bo (t : Int) v x) y) := by
  obtain ⟨h1, h2, h3⟩ := hv
  have n1 := h.nx (t : Int) (by omega)
  have n2 := h.ny (t : Int) (by omega)
  have hle : candX A ao (t : Int) (candX B bo (t : Int) v x) y ≤ candX B bo (t : Int) v x ∧ candX B bo (t : Int) v x ≤ v := by
    unfold candX
    constructor
    · split <;> omega
    · split <;> omega
  have hge : gp ≤ candX B bo (t : Int) v x := by
    unfold candX
    split
    · rename_i hh; exact n1 (hx.1 hh.1)
    · exact h1
  have hge2 : gp ≤ candX A ao (t : Int) (candX B bo (t : Int) v x) y := by
    rw [candX]
    split
    · rename_i hh; exact n2 (hy.1 hh.1)
    · exact hge
  refine ⟨hge2, by omega, fun s s0 s1 => ?_⟩
  by_cases e : s = (t : Int)
  · subst e
    constructor
    · intro he
      have hxx := hx.2 he
      have : candX B bo (t : Int) v x ≤ bo + befZ B bo (t : Int) * B - (t : Int) := by
        unfold candX; rw [hxx]; split
        · omega
        · rename_i hh; simp only [true_and] at hh; omega
      omega
    · intro he
      have hyy := hy.2 he
      have : candX A ao (t : Int) (candX B bo (t : Int) v x) y ≤ ao + befZ A ao (t : Int) * A - (t : Int) := by
        rw [candX, hyy]; split
        · omega
        · rename_i hh; simp only [true_and] at hh; omega
      omega
  · obtain ⟨q1, q2⟩ := h3 s s0 (by omega)
    exact ⟨fun he => by have := q1 he; omega, fun he => by have := q2 he; omega⟩
end Go.Proofs.Ytafecdmcbpnniaa
