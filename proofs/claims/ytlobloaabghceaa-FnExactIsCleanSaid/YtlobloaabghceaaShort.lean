/- The ticks at which pulses begin that are too short: both sides. -/
import Derived.Test.YtlobloaabghceaaPulS
namespace Go.Proofs.Ytlobloaabghceaa
open Go.RowKit Go.Shelf
set_option linter.unusedVariables false
set_option linter.unusedSimpArgs false

theorem PulR.at {w : World} {B n cap : Nat} {a : Option Addr} {N : Int} {us ds : List Int} (h : PulR w B (.slice a n cap) N us ds) (k : Nat) (hk : k < us.length) :
    ∃ g, a = some ⟨g, 0, none⟩ ∧ B ≤ g ∧ g < w.heap.size ∧ (w.cell? ⟨g, k * 3, none⟩ = some (.int .i64 (us.getD k 0)) ∧ w.cell? ⟨g, k * 3 + 1, none⟩ = some (.int .i64 (if k < ds.length then ds.getD k 0 else N)) ∧ w.cell? ⟨g, k * 3 + 2, none⟩ = some (.bool (decide (ds.length ≤ k)))) := by
  unfold PulR at h
  rcases h.2 with ⟨h0, h1⟩ | ⟨g, cap', cur, hv, hg, hh, hx1, hx2, hx3, hx4⟩
  · omega
  · simp only [Value.slice.injEq] at hv
    obtain ⟨rfl, rfl, rfl⟩ := hv
    obtain ⟨c0, c1, c2⟩ := pulV_get N us ds k hk
    refine ⟨g, rfl, hg, (Array.getElem?_eq_some_iff.1 hh).1, ?_, ?_, ?_⟩
    · rw [World.ownsRow.cellAt h (k * 3) (by omega)]; exact c0
    · rw [World.ownsRow.cellAt h (k * 3 + 1) (by omega)]; exact c1
    · rw [World.ownsRow.cellAt h (k * 3 + 2) (by omega)]; exact c2
theorem PulR.keep {w w' : World} {B : Nat} {v : Value} {n : Int} {us ds : List Int} (h : PulR w B v n us ds) {N : Nat} (hb : Below N w w') (hN : w.heap.size ≤ N) : PulR w' B v n us ds := by
  obtain ⟨h1, ⟨rfl, hn⟩ | ⟨g, cap, cur, rfl, hg, hh, hc, hm, hs, ht⟩⟩ := h
  · exact ⟨h1, .inl ⟨rfl, hn⟩⟩
  · exact ⟨h1, .inr ⟨g, cap, cur, rfl, hg, (hb.block g (by have := (Array.getElem?_eq_some_iff.1 hh).1; omega)).trans hh, hc, hm, hs, ht⟩⟩
theorem PulR.form {w : World} {B : Nat} {v : Value} {n : Int} {us ds : List Int} (h : PulR w B v n us ds) : ∃ a cap, v = .slice a us.length cap := by
  obtain ⟨h1, ⟨rfl, hn⟩ | ⟨g, cap, cur, rfl, hg, hh, hc, hm, hs, ht⟩⟩ := h
  · exact ⟨none, 0, by rw [hn]⟩
  · exact ⟨_, cap, rfl⟩
theorem ints_drewN {w : World} {B : Nat} {v : Value} {l : List Int} (n : Nat) (h : Ints w B v l) : Ints (w.drewN n) B v l := h
theorem below_drewN {B : Nat} {w w' : World} (n : Nat) (h : Below B w w') : Below B w (w'.drewN n) := ⟨h.os, h.tape, h.output, h.size, h.block⟩
theorem cell_one_at (W : World) (x : Value) (t : TypeId) (q : Nat) (hq : q = W.heap.size) : ∀ j u, [x][j]? = some u → (W.alloc (.cells #[x] t)).cell? ((⟨q, 0, none⟩ : Addr).add j) = some u := by subst hq; exact cell_one_new _ _ _
theorem wave_all {s : ByteArray} (hw : waveB s.data.toList = true) : s.data.toList.all lvlB = true := by
  unfold waveB at hw; simp only [Bool.and_eq_true] at hw; exact hw.1

end Go.Proofs.Ytlobloaabghceaa
