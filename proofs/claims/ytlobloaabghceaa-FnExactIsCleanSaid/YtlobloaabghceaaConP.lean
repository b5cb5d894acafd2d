/- Is there a pulse in a row of which a function says so: slices.ContainsFunc over rows of pulses, for any function value that answers by the pulse alone. -/
import Derived.Test.YtlobloaabghceaaMatch
import Derived.Test.YtlobloaabghceaaAre
import Derived.Shelf.Abstract
namespace Go.Proofs.Ytlobloaabghceaa
open Go.RowKit Go.Shelf
set_option linter.unusedVariables false
set_option linter.unusedSimpArgs false

abbrev Pul := Int × Int × Bool
def pulX (x : Pul) : Value := .agg #[.int .i64 x.1, .int .i64 x.2.1, .bool x.2.2]
/-- the row at a holds the pulses L -/
def PulAt (w : World) (a : Option Addr) (L : List Pul) : Prop := ∀ j (h : j < L.length), ∃ g, a = some ⟨g, 0, none⟩ ∧ g < w.heap.size ∧ w.cell? ⟨g, j * 3, none⟩ = some (.int .i64 L[j].1) ∧ w.cell? ⟨g, j * 3 + 1, none⟩ = some (.int .i64 L[j].2.1) ∧ w.cell? ⟨g, j * 3 + 2, none⟩ = some (.bool L[j].2.2)
theorem PulAt.keep {w W : World} {a : Option Addr} {L : List Pul} (h : PulAt w a L) (hb : Below w.heap.size w W) : PulAt W a L := fun j hj => by
  obtain ⟨g, h1, h2, h3, h4, h5⟩ := h j hj
  exact ⟨g, h1, Nat.lt_of_lt_of_le h2 hb.size, (hb.cell (p := ⟨g, j * 3, none⟩) h2).trans h3, (hb.cell (p := ⟨g, j * 3 + 1, none⟩) h2).trans h4, (hb.cell (p := ⟨g, j * 3 + 2, none⟩) h2).trans h5⟩

theorem anyP_hit (p : Pul → Bool) (L : List Pul) (k : Nat) (h : k < L.length) (hp : p L[k] = true) : L.any p = true := List.any_eq_true.2 ⟨_, List.getElem_mem h, hp⟩
theorem anyP_miss (p : Pul → Bool) (L : List Pul) (h : ∀ j (h : j < L.length), p L[j] = false) : L.any p = false := by
  rw [List.any_eq_false]
  intro x hx
  obtain ⟨j, hj, rfl⟩ := List.getElem_of_mem hx
  simp [h j hj]
set_option maxHeartbeats 2000000 in
set_option maxRecDepth 100000 in
theorem idxPul (g : Nat) (fs lb : Array Value) (p : Pul → Bool) (eg : ∀ args w, (callFunc g args).run Try.prog w = .ok (.enter g args) w) (a : Option Addr) (n c : Nat) (L : List Pul) (w : World)
    (hp : ∀ (W : World) (x : Pul), Below w.heap.size w W → Calls Try.prog g (fs.push (pulX x) ++ lb) W fun e w' => e = .returned (.bool (p x)) ∧ Below w.heap.size w w')
    (hn : n = L.length) (hbig : n ≤ 1000000) (hc : PulAt w a L) :
    Calls Try.prog 55 #[.slice a n c, .func (.func g) fs lb] w fun e w' => (∃ r : Int, e = .returned (.int .i64 r) ∧ decide (0 ≤ r) = L.any p) ∧ Below w.heap.size w w' := by
  have HC := Lib.hid hc
  have HN := Lib.hid hn
  clear hc hn
  go_enter Try.func55, Try.ntmps55
  go_wp2
  go_loopw [5, 8] (fun _ s8 wr => ∃ kk : Nat, kk ≤ n ∧ s8 = .int .i64 kk ∧ Hid (Below w.heap.size w wr) ∧ Hid (∀ j (h : j < L.length), j < kk → p L[j] = false)) (fun _ s8 _ => n - (intOf s8).toNat)
  case atStart => exact ⟨0, Nat.zero_le _, rfl, Lib.hid (Below.refl _ w), Lib.hid (fun j _ hj => absurd hj (Nat.not_lt_zero _))⟩
  case round =>
    obtain ⟨kk, hkk, rfl, BW, A⟩ := hrel
    by_cases hlt : kk < n
    · have hltz : (kk : Int) < (n : Int) := by omega
      have hkl : kk < L.length := by rw [← HN.out]; exact hlt
      obtain ⟨y, hy⟩ : ∃ y, L[kk] = y := ⟨_, rfl⟩
      obtain ⟨gg, rfl, hgs, l1, l2, l3⟩ := (HC.out.keep BW.out) kk hkl
      rw [hy] at l1 l2 l3
      have HY := Lib.hid hy
      clear hy
      obtain ⟨y1, y2, y3⟩ := y
      have hcall := hp wr (y1, y2, y3) BW.out
      dsimp only [pulX] at hcall l1 l2 l3
      cases hq : p (y1, y2, y3) with
      | true =>
        rw [hq] at hcall
        have HQ := Lib.hid hq
        clear hq
        go_wp2_with (go_at_fn g; refine hcall.mono ?_; rintro e w' ⟨rfl, hb'⟩)
        go_ret
        exact ⟨⟨_, rfl, by rw [anyP_hit p L kk hkl (by rw [HY.out]; exact HQ.out)]; simp⟩, hb'⟩
      | false =>
        rw [hq] at hcall
        have HQ := Lib.hid hq
        clear hq
        go_wp2_with (go_at_fn g; refine hcall.mono ?_; rintro e w' ⟨rfl, hb'⟩)
        have HB' := Lib.hid hb'
        go_roundw
        case measure => simp [intOf]; omega
        case rel =>
          refine ⟨kk + 1, by omega, by go_num, HB', Lib.hid (fun j h hj => ?_)⟩
          by_cases e : j = kk
          · subst e; rw [HY.out]; exact HQ.out
          · exact A.out j h (by omega)
    · have hltz : ¬ (kk : Int) < (n : Int) := by omega
      have HM := Lib.hid (anyP_miss p L (fun j h => A.out j h (by have := HN.out; omega)))
      go_wp2
      go_ret
      exact ⟨⟨_, rfl, by rw [HM.out]; decide⟩, BW.out⟩
theorem conPul (g : Nat) (fs lb : Array Value) (p : Pul → Bool) (eg : ∀ args w, (callFunc g args).run Try.prog w = .ok (.enter g args) w) (a : Option Addr) (n c : Nat) (L : List Pul) (w : World)
    (hp : ∀ (W : World) (x : Pul), Below w.heap.size w W → Calls Try.prog g (fs.push (pulX x) ++ lb) W fun e w' => e = .returned (.bool (p x)) ∧ Below w.heap.size w w')
    (hn : n = L.length) (hbig : n ≤ 1000000) (hc : PulAt w a L) :
    Calls Try.prog 28 #[.slice a n c, .func (.func g) fs lb] w fun e w' => e = .returned (.bool (L.any p)) ∧ Below w.heap.size w w' := by
  have HI := Lib.hid (idxPul g fs lb p eg a n c L w hp hn hbig hc)
  clear hp hn hc
  go_enter Try.func28, Try.ntmps28
  go_wp2_with fail
  refine HI.out.mono ?_
  rintro e w' ⟨⟨r, rfl, hr⟩, hb'⟩
  have HR := Lib.hid hr
  clear hr
  go_wp2
  go_ret
  exact ⟨ret_bool (by rw [← HR.out]), hb'⟩
end Go.Proofs.Ytlobloaabghceaa
