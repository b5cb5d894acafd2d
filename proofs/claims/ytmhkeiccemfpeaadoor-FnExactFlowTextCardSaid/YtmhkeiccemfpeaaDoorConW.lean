/- Is there a wire in a row of which a function says so: slices.ContainsFunc over []Wire, for any function value that answers by the wire alone. -/
import Derived.Test.YtmhkeiccemfpeaaDoorFlow
import Derived.Test.YtmhkeiccemfpeaaDoorFlowM
import Derived.Laws.EntriesVeiled
import Derived.Shelf.Abstract
namespace Go.Proofs.YtmhkeiccemfpeaaDoor
open Go.RowKit Go.Shelf
set_option linter.unusedVariables false
set_option linter.unusedSimpArgs false

def wK (p : Int → Int → Int → Bool) (F : List Int) (k : Nat) : Bool := p (F.getD (k * 3) 0) (F.getD (k * 3 + 1) 0) (F.getD (k * 3 + 2) 0)
def anyW (p : Int → Int → Int → Bool) (F : List Int) (n : Nat) : Bool := (List.range n).any (wK p F)
theorem anyW_hit {p : Int → Int → Int → Bool} {F : List Int} {n : Nat} (k : Nat) (h : k < n) (hp : wK p F k = true) : anyW p F n = true := List.any_eq_true.2 ⟨k, List.mem_range.2 h, hp⟩
theorem anyW_miss {p : Int → Int → Int → Bool} {F : List Int} {n : Nat} (h : ∀ j, j < n → wK p F j = false) : anyW p F n = false := by
  unfold anyW
  rw [List.any_eq_false]
  intro j hj
  simp [h j (List.mem_range.1 hj)]
set_option maxHeartbeats 2000000 in
set_option maxRecDepth 100000 in
theorem idxWire (g : Nat) (fs lb : Array Value) (p : Int → Int → Int → Bool) (eg : ∀ args w, (callFunc g args).run Tryd.prog w = .ok (.enter g args) w) (B : Nat) (a : Option Addr) (n c : Nat) (F : List Int) (w : World)
    (hp : ∀ (W : World) (x y z : Int), Below w.heap.size w W → Calls Tryd.prog g (fs.push (.agg #[.int .i64 x, .int .i64 y, .int .i64 z]) ++ lb) W fun e w' => e = .returned (.bool (p x y z)) ∧ Below w.heap.size w w')
    (hbig : n ≤ 2000000) (hc : Recs w B (.slice a n c) n F) :
    Calls Tryd.prog 46 #[.slice a n c, .func (.func g) fs lb] w fun e w' => (∃ r : Int, e = .returned (.int .i64 r) ∧ decide (0 ≤ r) = anyW p F n) ∧ Below w.heap.size w w' := by
  have HC := Lib.hid hc
  clear hc
  go_enter Tryd.func46, Tryd.ntmps46
  go_wp2
  go_loopw [5, 8] (fun _ s8 wr => ∃ kk : Nat, kk ≤ n ∧ s8 = .int .i64 kk ∧ Hid (Below w.heap.size w wr) ∧ Hid (∀ j, j < kk → wK p F j = false)) (fun _ s8 _ => n - (intOf s8).toNat)
  case atStart => exact ⟨0, Nat.zero_le _, rfl, Lib.hid (Below.refl _ w), Lib.hid (fun j hj => absurd hj (Nat.not_lt_zero _))⟩
  case round =>
    obtain ⟨kk, hkk, rfl, BW, A⟩ := hrel
    by_cases hlt : kk < n
    · have hltz : (kk : Int) < (n : Int) := by omega
      obtain ⟨gg, x, y, z, rfl, -, -, ⟨e0, e1, e2⟩, x0, x1, x2⟩ := (HC.out.keep BW.out (Nat.le_refl _)).at kk hlt
      have hcall := hp wr x y z BW.out
      have HY : Hid (wK p F kk = p x y z) := by show _ = _; unfold wK; rw [e0, e1, e2]
      clear e0 e1 e2
      cases hq : p x y z with
      | true =>
        rw [hq] at hcall
        have HQ := Lib.hid (anyW_hit kk hlt (HY.out.trans hq))
        clear hq
        go_wp2_with (go_at_fn g; refine hcall.mono ?_; rintro e w' ⟨rfl, hb'⟩)
        go_ret
        exact ⟨⟨_, rfl, by rw [HQ.out]; simp⟩, hb'⟩
      | false =>
        rw [hq] at hcall
        have HQ := Lib.hid (HY.out.trans hq)
        clear hq
        go_wp2_with (go_at_fn g; refine hcall.mono ?_; rintro e w' ⟨rfl, hb'⟩)
        have HB' := Lib.hid hb'
        go_roundw
        case measure => simp [intOf]; omega
        case rel =>
          refine ⟨kk + 1, by omega, by go_num, HB', Lib.hid (fun j hj => ?_)⟩
          by_cases e : j = kk
          · subst e; exact HQ.out
          · exact A.out j (by omega)
    · have hltz : ¬ (kk : Int) < (n : Int) := by omega
      have HM := Lib.hid (anyW_miss (p := p) (F := F) (n := n) (fun j h => A.out j (by omega)))
      go_wp2
      go_ret
      exact ⟨⟨_, rfl, by rw [HM.out]; decide⟩, BW.out⟩
theorem conWire (g : Nat) (fs lb : Array Value) (p : Int → Int → Int → Bool) (eg : ∀ args w, (callFunc g args).run Tryd.prog w = .ok (.enter g args) w) (B : Nat) (a : Option Addr) (n c : Nat) (F : List Int) (w : World)
    (hp : ∀ (W : World) (x y z : Int), Below w.heap.size w W → Calls Tryd.prog g (fs.push (.agg #[.int .i64 x, .int .i64 y, .int .i64 z]) ++ lb) W fun e w' => e = .returned (.bool (p x y z)) ∧ Below w.heap.size w w')
    (hbig : n ≤ 2000000) (hc : Recs w B (.slice a n c) n F) :
    Calls Tryd.prog 37 #[.slice a n c, .func (.func g) fs lb] w fun e w' => e = .returned (.bool (anyW p F n)) ∧ Below w.heap.size w w' := by
  have HI := Lib.hid (idxWire g fs lb p eg B a n c F w hp hbig hc)
  clear hp hc
  go_enter Tryd.func37, Tryd.ntmps37
  go_wp2_with fail
  refine HI.out.mono ?_
  rintro e w' ⟨⟨r, rfl, hr⟩, hb'⟩
  have HR := Lib.hid hr
  clear hr
  go_wp2
  go_ret
  exact ⟨ret_bool (by rw [← HR.out]), hb'⟩
end Go.Proofs.YtmhkeiccemfpeaaDoor
