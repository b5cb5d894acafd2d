/- Is there a number in a row of which a function says so: slices.ContainsFunc over []int64, for any function value that answers by the number alone. -/
import Derived.Test.YtlobloaabghceaaHas
import Derived.Laws.EntriesVeiled
import Derived.Shelf.Abstract
namespace Go.Proofs.Ytlobloaabghceaa
open Go.RowKit Go.Shelf
set_option linter.unusedVariables false
set_option linter.unusedSimpArgs false

theorem anyI_hit (p : Int → Bool) (L : List Int) (k : Nat) (h : k < L.length) (hp : p L[k] = true) : L.any p = true := List.any_eq_true.2 ⟨_, List.getElem_mem h, hp⟩
theorem anyI_miss (p : Int → Bool) (L : List Int) (h : ∀ j (h : j < L.length), p L[j] = false) : L.any p = false := by
  rw [List.any_eq_false]
  intro x hx
  obtain ⟨j, hj, rfl⟩ := List.getElem_of_mem hx
  simp [h j hj]
set_option maxHeartbeats 2000000 in
set_option maxRecDepth 100000 in
theorem idxInt (g : Nat) (fs lb : Array Value) (p : Int → Bool) (eg : ∀ args w, (callFunc g args).run Try.prog w = .ok (.enter g args) w) (a : Option Addr) (n c : Nat) (L : List Int) (w : World)
    (hp : ∀ (W : World) (x : Int), Below w.heap.size w W → x ∈ L → Calls Try.prog g (fs.push (.int .i64 x) ++ lb) W fun e w' => e = .returned (.bool (p x)) ∧ Below w.heap.size w w')
    (hn : n = L.length) (hbig : n ≤ 2000000) (hc : ∀ W, Below w.heap.size w W → RowAt W a L) :
    Calls Try.prog 84 #[.slice a n c, .func (.func g) fs lb] w fun e w' => (∃ r : Int, e = .returned (.int .i64 r) ∧ decide (0 ≤ r) = L.any p) ∧ Below w.heap.size w w' := by
  have HC := Lib.hid hc
  have HN := Lib.hid hn
  clear hc hn
  go_enter Try.func84, Try.ntmps84
  go_wp2
  go_loopw [5, 8] (fun _ s8 wr => ∃ kk : Nat, kk ≤ n ∧ s8 = .int .i64 kk ∧ Hid (Below w.heap.size w wr) ∧ Hid (∀ j (h : j < L.length), j < kk → p L[j] = false)) (fun _ s8 _ => n - (intOf s8).toNat)
  case atStart => exact ⟨0, Nat.zero_le _, rfl, Lib.hid (Below.refl _ w), Lib.hid (fun j _ hj => absurd hj (Nat.not_lt_zero _))⟩
  case round =>
    obtain ⟨kk, hkk, rfl, BW, A⟩ := hrel
    by_cases hlt : kk < n
    · have hltz : (kk : Int) < (n : Int) := by omega
      have hkl : kk < L.length := by rw [← HN.out]; exact hlt
      obtain ⟨y, hy⟩ : ∃ y, L[kk] = y := ⟨_, rfl⟩
      obtain ⟨gg, rfl, l1⟩ := HC.out wr BW.out kk hkl
      rw [hy] at l1
      have hcall := hp wr y BW.out (by rw [← hy]; exact List.getElem_mem hkl)
      have HY := Lib.hid hy
      clear hy
      cases hq : p y with
      | true =>
        rw [hq] at hcall
        have HQ := Lib.hid hq
        clear hq
        go_wp2_with (go_at_fn g; refine hcall.mono ?_; rintro e w' ⟨rfl, hb'⟩)
        go_ret
        exact ⟨⟨_, rfl, by rw [anyI_hit p L kk hkl (by rw [HY.out]; exact HQ.out)]; simp⟩, hb'⟩
      | false =>
        rw [hq] at hcall
        have HQ := Lib.hid hq
        clear hq
        go_wp2_with (go_at_fn g; refine hcall.mono ?_; rintro e w' ⟨rfl, hb'⟩)
        have HB' := Lib.hid hb'
        go_roundw
        case measure => simp [intOf]; omega
        case rel =>
          refine ⟨kk + 1, by omega, by go_num, HB', Lib.hid (fun j h hj => ?_)⟩
          by_cases e : j = kk
          · subst e; rw [HY.out]; exact HQ.out
          · exact A.out j h (by omega)
    · have hltz : ¬ (kk : Int) < (n : Int) := by omega
      have HM := Lib.hid (anyI_miss p L (fun j h => A.out j h (by have := HN.out; omega)))
      go_wp2
      go_ret
      exact ⟨⟨_, rfl, by rw [HM.out]; decide⟩, BW.out⟩
theorem conInt (g : Nat) (fs lb : Array Value) (p : Int → Bool) (eg : ∀ args w, (callFunc g args).run Try.prog w = .ok (.enter g args) w) (a : Option Addr) (n c : Nat) (L : List Int) (w : World)
    (hp : ∀ (W : World) (x : Int), Below w.heap.size w W → x ∈ L → Calls Try.prog g (fs.push (.int .i64 x) ++ lb) W fun e w' => e = .returned (.bool (p x)) ∧ Below w.heap.size w w')
    (hn : n = L.length) (hbig : n ≤ 2000000) (hc : ∀ W, Below w.heap.size w W → RowAt W a L) :
    Calls Try.prog 64 #[.slice a n c, .func (.func g) fs lb] w fun e w' => e = .returned (.bool (L.any p)) ∧ Below w.heap.size w w' := by
  have HI := Lib.hid (idxInt g fs lb p eg a n c L w hp hn hbig hc)
  clear hp hn hc
  go_enter Try.func64, Try.ntmps64
  go_wp2_with fail
  refine HI.out.mono ?_
  rintro e w' ⟨⟨r, rfl, hr⟩, hb'⟩
  have HR := Lib.hid hr
  clear hr
  go_wp2
  go_ret
  exact ⟨ret_bool (by rw [← HR.out]), hb'⟩
end Go.Proofs.Ytlobloaabghceaa
