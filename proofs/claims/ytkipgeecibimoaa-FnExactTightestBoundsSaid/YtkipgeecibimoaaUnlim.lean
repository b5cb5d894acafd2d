/- The differences of all events: unlimited. -/
import Derived.Test.YtkipgeecibimoaaAddFrom
import Derived.Test.YtkipgeecibimoaaRecsB
namespace Go.Proofs.Ytkipgeecibimoaa
open Go.RowKit
set_option linter.unusedVariables false

theorem BdAt.of {w wr : World} {B b nb capb : Nat} {a : Option Addr} {F : List Int} (h : Recs w B (.slice a nb capb) nb F) (hb : Below w.heap.size w wr) (hB : w.heap.size ≤ b) : BdAt wr b a nb F := fun k hk => by
  obtain ⟨g, x, y, z, ha, _, hg, ⟨rfl, rfl, rfl⟩, c0, c1, c2⟩ := h.at k hk
  exact ⟨g, ha, by omega, (hb.cell (p := ⟨g, k * 3, none⟩) hg).trans c0, (hb.cell (p := ⟨g, k * 3 + 1, none⟩) hg).trans c1, (hb.cell (p := ⟨g, k * 3 + 2, none⟩) hg).trans c2⟩
/-- the tables so far -/
def UnlK (bs : List Bd) (n C b : Nat) (w0 : World) (k : Nat) (wr : World) : Prop :=
  w0.grownBy wr (some b) ∧ ∃ (m : Nat) (D : Nat → Trails), TM wr b m D ∧ m ≤ k * C ∧ (∀ i, i < k → Fin1 bs n i (D i)) ∧ ∀ i, k ≤ i → D i = fun _ => none
def UnlR (bs : List Bd) (n : Nat) (w : World) (e : Ending) (w' : World) : Prop :=
  Below w.heap.size w w' ∧ ((∃ (b m : Nat) (D : Nat → Trails), e = .returned (.tuple #[.map (some b), .bool true]) ∧ w.heap.size ≤ b ∧ TM w' b m D ∧ Least bs n D ∧ ∀ i, n ≤ i → D i = fun _ => none) ∨ (e = .returned (.tuple #[.map none, .bool false]) ∧ NegRing bs n))
theorem UnlK.step {bs : List Bd} {n C b k : Nat} {w0 wr : World} (h : UnlK bs n C b w0 k wr) : ∃ (m : Nat) (D : Nat → Trails), TM wr b m (rowD D k fun _ => none) ∧ m ≤ k * C ∧
    ∀ (e : Ending) (w' : World) (K : Nat), AddR bs n k K b D wr e w' → K ≤ (k + 1) * C → (e = .returned (.bool true) ∧ UnlK bs n C b w0 (k + 1) w') ∨ (e = .returned (.bool false) ∧ NegRing bs n ∧ w0.grownBy w' (some b)) := by
  obtain ⟨hg, m, D, ht, hm, hf, hn⟩ := h
  refine ⟨m, D, by rw [row_none D k (hn k (Nat.le_refl _))]; exact ht, hm, fun e w' K hr hK => ?_⟩
  obtain ⟨hg2, ⟨rfl, m', gt, ht2, hm2, hfin⟩ | ⟨rfl, hneg⟩⟩ := hr
  · refine .inl ⟨rfl, grown_trans hg hg2, m', _, ht2, by omega, fun i hi => ?_, fun i hi => ?_⟩
    · by_cases hik : i = k
      · subst hik; rw [row_same]; exact hfin
      · unfold rowD; rw [if_neg hik]; exact hf i (by omega)
    · unfold rowD; rw [if_neg (by omega)]; exact hn i (by omega)
  · exact .inr ⟨rfl, hneg, grown_trans hg hg2⟩
theorem UnlK.fin {bs : List Bd} {n C b : Nat} {w0 wr : World} (h : UnlK bs n C b w0 n wr) : ∃ (m : Nat) (D : Nat → Trails), TM wr b m D ∧ Least bs n D ∧ ∀ i, n ≤ i → D i = fun _ => none := by
  obtain ⟨hg, m, D, ht, hm, hf, hn⟩ := h
  refine ⟨m, D, ht, ⟨fun i v c s hi hd => ?_, fun i hi => (hf i hi).self, fun i u hi => ?_⟩, hn⟩
  · obtain ⟨q1, q2, p, h1, h2, _⟩ := (hf i hi).ok v c s hd
    have := (h1.way v s p rfl).1
    rw [h2] at this
    exact ⟨q1, q2, this⟩
  · by_cases hu : u < n
    · exact (hf i hi).done u hu
    · intro c s hd
      have := ((hf i hi).ok u c s hd).1
      omega

set_option maxHeartbeats 4000000 in
set_option maxRecDepth 100000 in
theorem unlim_any (B n nb capb S T : Nat) (a : Option Addr) (F : List Int) (bs : List Bd) (w : World) (hr : Recs w B (.slice a nb capb) nb F) (hbs : BdsS bs n S) (hF : FsN F n nb)
    (hbm : ∀ k, k < nb → bdAt F k ∈ bs) (hL : ∀ x ∈ bs, ∃ j, j < nb ∧ bdAt F j = x) (hn : n ≤ 100) (hS : S ≤ 1000000) (hT : S * n ≤ T) (hK2 : n * (1 + n * (2 * T + 1)) < maxLen) (hnb : nb ≤ 1000000) :
    Calls Try.prog 158 #[.agg #[.int .i64 (n : Int), .slice a nb capb]] w fun e w' => UnlR bs n w e w' := by
  have HALL := Lib.hid (And.intro hr (And.intro hbs (And.intro hF (And.intro hbm (And.intro hL (And.intro hT hK2))))))
  clear hr hbs hF hbm hL hT hK2
  obtain ⟨w0, hw0⟩ : ∃ w0, w.alloc (.cells #[.int .i64 (n : Int), .slice a nb capb] 65) = w0 := ⟨_, rfl⟩
  have d0 : w0.cell? ⟨w.heap.size, 0, none⟩ = some (.int .i64 (n : Int)) := by rw [← hw0]; simp [go_sem]
  have d1 : w0.cell? ⟨w.heap.size, 1, none⟩ = some (.slice a nb capb) := by rw [← hw0]; simp [go_sem]
  have hs0 : w.heap.size < w0.heap.size := by rw [← hw0]; simp
  have HB0 : Hid (Below w.heap.size w w0) := by rw [Hid, ← hw0]; exact (Below.refl _ _).alloc (Nat.le_refl _) _
  have HST : Hid (UnlK bs n (1 + n * (2 * T + 1)) w0.heap.size w0 0 (w0.alloc (.map #[] 0))) := ⟨grown_below ((Below.refl _ _).alloc (Nat.le_refl _) _), 0, _, TM.made w0, by omega, fun i hi => by omega, fun i _ => rfl⟩
  have hmm : (Instr.makeMap 150 none).run Try.prog w0 = .ok (.map (some w0.heap.size)) (w0.alloc (.map #[] 0)) := rfl
  obtain ⟨w1, hw1⟩ : ∃ w1, w0.alloc (.map #[] 0) = w1 := ⟨_, rfl⟩
  rw [hw1] at hmm HST
  have e0 : w1.cell? ⟨w.heap.size, 0, none⟩ = some (.int .i64 (n : Int)) := by rw [← hw1]; exact cell_alloc_kept d0
  clear hw1
  go_enter Try.func158, Try.ntmps158
  go_wp2
  clear hw0
  go_loopw [9] (fun kv wr => ∃ k : Nat, k ≤ n ∧ kv = .int .i64 (k : Int) ∧ UnlK bs n (1 + n * (2 * T + 1)) w0.heap.size w0 k wr) (fun kv _ => n - (intOf kv).toNat)
  case atStart => exact ⟨0, Nat.zero_le _, rfl, HST.out⟩
  case round =>
    obtain ⟨k, hk, rfl, hin⟩ := hrel
    by_cases hlk : k < n
    · have hg := hin.1
      have f0 : wr.cell? ⟨w.heap.size, 0, none⟩ = some (.int .i64 (n : Int)) := (hg.cell_far ⟨w.heap.size, 0, none⟩ hs0 (fun e => by injection e with e; dsimp only at e; omega)).trans d0
      have f1 : wr.cell? ⟨w.heap.size, 1, none⟩ = some (.slice a nb capb) := (hg.cell_far ⟨w.heap.size, 1, none⟩ hs0 (fun e => by injection e with e; dsimp only at e; omega)).trans d1
      obtain ⟨hr, hbs, hF, hbm, hL, hT, hK2⟩ := HALL.out
      have hB : Below w.heap.size w wr := HB0.out.trans (below_of_grown hg (by omega) (by omega))
      obtain ⟨m, D, ht, hm, hnx⟩ := hin.step
      have hmul : k * (1 + n * (2 * T + 1)) + (1 + n * (2 * T + 1)) ≤ n * (1 + n * (2 * T + 1)) := by rw [← Nat.succ_mul]; exact Nat.mul_le_mul_right _ hlk
      have hCA := Lib.hid (addFrom_any w0.heap.size m n nb capb S T (m + 1 + n * (2 * T + 1)) k a F bs D wr ht (BdAt.of hr hB (by omega)) hbs hF hbm hL hlk hn hS hT (Nat.le_refl _) (by omega) hnb)
      have HNX := Lib.hid (fun e w' h => hnx e w' (m + 1 + n * (2 * T + 1)) h (by
        have e := Nat.succ_mul k (1 + n * (2 * T + 1))
        rw [Nat.succ_eq_add_one] at e
        omega))
      have HBW : Hid (∀ w', w0.grownBy w' (some w0.heap.size) → Below w.heap.size w w') := fun w' h => HB0.out.trans (below_of_grown h (by omega) (by omega))
      clear hr hbs hF hbm hL hT hK2 hB ht hm hnx hmul hg hin
      go_wp2_with fail
      refine hCA.out.mono ?_; intro e w5 hpost
      rcases HNX.out e w5 hpost with ⟨rfl, hk5⟩ | ⟨rfl, hneg, hg5⟩
      · have HK5 := Lib.hid hk5
        clear hk5 hpost
        go_wp2
        go_roundw
        case rel => exact ⟨k + 1, by omega, by go_num, HK5.out⟩
        case measure => simp [intOf]; omega
      · have HN5 := Lib.hid (And.intro hneg hg5)
        clear hneg hg5 hpost
        go_wp2
        go_ret2
        exact ⟨HBW.out _ HN5.out.2, .inr ⟨rfl, HN5.out.1⟩⟩
    · obtain rfl : n = k := by omega
      have HFN := Lib.hid hin.fin
      have HB : Hid (Below w.heap.size w wr) := HB0.out.trans (below_of_grown hin.1 (by omega) (by omega))
      clear hin
      go_wp2
      go_ret2
      obtain ⟨m, D, h1, h2, h3⟩ := HFN.out
      exact ⟨HB.out, .inl ⟨_, m, D, rfl, by omega, h1, h2, h3⟩⟩
end Go.Proofs.Ytkipgeecibimoaa
