/- A switch's side for a clock, as the model has it. -/
import Derived.Test.YtmhbgpappjfolaaEn
import Derived.Maps.AppendAt
namespace Go.Proofs.Ytmhbgpappjfolaa
open Go.RowKit Go.Shelf
set_option linter.unusedVariables false
set_option linter.unusedSimpArgs false

abbrev TSd : Nat := 126
abbrev TBo : Nat := 4
theorem info_bo : (Try.prog.info? 4).map (fun i => (i.zero, i.size, i.bytes)) = some (some (.bool false), 1, 1) := by kernel_rfl
def boC (r : List Bool) : List Value := r.map Value.bool
/-- the model's side X: its enable, its row -/
def SideAt (w : World) (B X : Nat) (on : Bool) (r : List Bool) : Prop := B ≤ X ∧ ∃ v, w.heap[X]? = some (.cells #[.bool on, v] TSd (0, 0)) ∧ w.ownsRow B TBo 1 v r.length (boC r)
theorem SideAt.lt {w : World} {B X : Nat} {on : Bool} {r : List Bool} (h : SideAt w B X on r) : X < w.heap.size := by
  obtain ⟨_, v, h, _⟩ := h
  exact (Array.getElem?_eq_some_iff.1 h).1
/-- another block of cells of another type is no row of bools -/
theorem own_other {w : World} {B X : Nat} {v : Value} {n : Nat} {xs : List Value} {cs : Array Value} {T : Nat} {fz : Nat × Nat} (h : w.ownsRow B TBo 1 v n xs) (hX : w.heap[X]? = some (.cells cs T fz)) (hT : T ≠ TBo) : v.ownBlock ≠ some X := by
  intro e
  obtain ⟨c, fz2, hc⟩ := Lib.ownsRow_kind h X e
  rw [hX] at hc
  injection hc with hc
  injection hc with h1 h2
  exact hT h2
theorem SideAt.grown {w w' : World} {B X : Nat} {on : Bool} {r : List Bool} {p : Option Nat} (h : SideAt w B X on r) (hg : w.grownBy w' p) (hX : p ≠ some X) (hp : ∀ g, p = some g → ∀ c fz, w.heap[g]? ≠ some (.cells c TBo fz)) : SideAt w' B X on r := by
  have hlt := h.lt
  obtain ⟨hB, v, hv, hr⟩ := h
  refine ⟨hB, v, (hg.block X hlt (fun e => hX e.symm)).trans hv, hr.kept hg ?_⟩
  cases hvb : v.ownBlock with
  | none => exact Or.inl rfl
  | some g =>
    refine Or.inr (fun e => ?_)
    obtain ⟨c, fz, hc⟩ := Lib.ownsRow_kind hr g hvb
    exact hp g e.symm c fz hc
theorem SideAt.below {w w' : World} {B X : Nat} {on : Bool} {r : List Bool} (h : SideAt w B X on r) (hb : Below w.heap.size w w') : SideAt w' B X on r :=
  h.grown (p := none) ⟨hb.os, hb.tape, hb.output, hb.size, fun k hk _ => hb.block k hk⟩ (by simp) (fun g e => by cases e)
theorem SideAt.drewN {w : World} {B X n : Nat} {on : Bool} {r : List Bool} (h : SideAt w B X on r) : SideAt (w.drewN n) B X on r := h

set_option maxHeartbeats 2000000 in
set_option maxRecDepth 100000 in
theorem l07New_any (s n : Nat) (hn : n ≤ 5) (on : Bool) (w : World) (hs : s < w.heap.size) (hc : w.cell? ⟨s, 0, none⟩ = some (.int .i64 (n : Int))) :
    Calls Try.prog 90 #[.pointer (some ⟨s, 0, none⟩), .bool on] w fun e w' => e = .returned (.pointer (some ⟨w.heap.size, 0, none⟩)) ∧ SideAt w' w.heap.size w.heap.size on (List.replicate n on) ∧ Below w.heap.size w w' := by
  obtain ⟨i0, hi, hz0, hz1, hz2⟩ := info_parts info_bo
  have HC := Lib.hid hc
  clear hc
  go_enter Try.func90, Try.ntmps90
  go_wp2
  go_loopw [6] (fun i wr => ∃ k : Nat, k ≤ n ∧ i = .int .i64 k ∧ Hid (SideAt wr w.heap.size w.heap.size on (List.replicate k on)) ∧ Hid (Below w.heap.size w wr)) (fun i _ => n - (intOf i).toNat)
  case atStart => exact ⟨0, Nat.zero_le _, rfl, ⟨Nat.le_refl _, _, World.alloc_heap_new w _, ⟨rfl, .inl ⟨rfl, rfl⟩⟩⟩, (Below.refl _ _).alloc (Nat.le_refl _) _⟩
  case round =>
    obtain ⟨k, hk, rfl, HS, HB⟩ := hrel
    have cs := (HB.out.cell (p := ⟨s, 0, none⟩) hs).trans HC.out
    have hzr := HB.out.size
    by_cases hlt : k < n
    · have hlt2 : (k : Int) < (n : Int) := by omega
      obtain ⟨hBX, v, hv, hr⟩ := HS.out
      have hXlt := HS.out.lt
      have HV := Lib.hid hv
      have HR := Lib.hid hr
      have c1 : wr.cell? ⟨w.heap.size, 1, none⟩ = some v := by rw [Lib.cell_of_heap hv]; rfl
      have hnX : Hid (v.ownBlock ≠ some w.heap.size) := own_other hr hv (by decide)
      have HLEN : Hid ((List.replicate k on).length = k) := List.length_replicate
      clear hv hr
      go_wp2_with (at_builtin; refine wpList_append_own _ rfl _ _ 32 rfl w.heap.size TBo i0 (.bool false) 1 1 Try.underlying32 hi hz0 hz1 hz2 rfl (by decide) _ _ _ rfl (HR.out.alloc _) ⟨wr.heap.size, 0, none⟩ 1 1 [.bool on] rfl rfl ?c1 ?c2 ?c3 ?c4 ?c5 ?_)
      case c1 => exact cell_one_new _ _ _
      case c2 => simp [Value.oneCell']
      case c3 => rw [HLEN.out]; unfold maxLen; omega
      case c4 => rw [HLEN.out]; omega
      case c5 => first | omega | (simp; omega)
      intro v' w1 hown' hgrow _
      have hb1 : w1.heap[w.heap.size]? = some (.cells #[.bool on, v] TSd (0, 0)) := by
        rw [hgrow.block _ (by simp; omega) (fun e => hnX.out e.symm), Lib.alloc_old wr _ _ hXlt]
        exact HV.out
      have c1' : w1.cell? ⟨w.heap.size, 1, none⟩ = some v := by rw [Lib.cell_of_heap hb1]; rfl
      have f1' : w1.frozen? ⟨w.heap.size, 1, none⟩ = false := Lib.frozen_of_heap hb1 1
      have hnX' : v'.ownBlock ≠ some w.heap.size := own_other hown' hb1 (by decide)
      have HS2 : Hid (SideAt (w1.setCell ⟨w.heap.size, 1, none⟩ v') w.heap.size w.heap.size on (List.replicate (k + 1) on)) := by
        refine ⟨Nat.le_refl _, v', ?_, ?_⟩
        · rw [heap_setCell_same w1 w.heap.size 1 _ _ _ hb1]; rfl
        · have e : boC (List.replicate (k + 1) on) = boC (List.replicate k on) ++ [.bool on] := by simp [boC, List.replicate_succ']
          rw [e, List.length_replicate]
          exact hown'.kept (set_grown w1 w.heap.size 1 v') (Or.inr hnX')
      have HB2 : Hid (Below w.heap.size w (w1.setCell ⟨w.heap.size, 1, none⟩ v')) := ((HB.out.alloc hzr _).grown hgrow (by simp; omega) (fun g hg => (HR.out.lt g hg).1)).setCell (p := ⟨w.heap.size, 1, none⟩) (Nat.le_refl _) _
      obtain ⟨a', n', c', rfl⟩ : ∃ a n c, v' = .slice a n c := by
        rcases hown'.2 with ⟨hv, _⟩ | ⟨g, cap, cur, hv, _⟩
        · exact ⟨_, _, _, hv⟩
        · exact ⟨_, _, _, hv⟩
      clear hown' hgrow hb1 hnX'
      go_wp2
      go_roundw
      case rel => exact ⟨k + 1, by omega, by go_num, HS2, HB2⟩
      case measure => simp [intOf]; omega
    · obtain rfl : k = n := by omega
      go_wp2
      go_ret
      exact ⟨rfl, HS.out, HB.out⟩
theorem own_form {w : World} {B : Nat} {v : Value} {r : List Bool} (h : w.ownsRow B TBo 1 v r.length (boC r)) : ∃ a cap, v = .slice a r.length cap ∧ (∀ j (hj : j < r.length), ∃ g, a = some ⟨g, 0, none⟩ ∧ w.cell? ⟨g, j, none⟩ = some (.bool r[j])) ∧ r.length ≤ cap := by
  rcases h.2 with ⟨hv, h0⟩ | ⟨g, cap, cur, hv, _, _, hc, _⟩
  · exact ⟨none, 0, by rw [hv, h0], fun j hj => by omega, by omega⟩
  · refine ⟨_, cap, hv, fun j hj => ⟨g, rfl, ?_⟩, hc⟩
    subst hv
    have := h.cells rfl j (.bool r[j]) (by simp [boC, hj])
    rwa [Addr.add_lit, Nat.zero_add] at this
def DownR (w : World) (B X : Nat) (on : Bool) (r : List Bool) (e : Ending) (w' : World) : Prop := e = .returned (.tuple #[]) ∧ SideAt w' B X on r ∧ w.grownBy w' (some X)
theorem push_take (m : Nat) (hm : m ≤ 4) (q : List Bool) (x : Bool) : (pushQ q x).take (m + 1) = x :: q.take m := by
  unfold pushQ; rw [List.take_take, Nat.min_eq_left (by omega)]; rfl
theorem set_trans {w W : World} {X : Nat} (h : w.grownBy W (some X)) (i : Nat) (v : Value) : w.grownBy (W.setCell ⟨X, i, none⟩ v) (some X) := grown_then h i v
set_option maxHeartbeats 2000000 in
set_option maxRecDepth 100000 in
theorem down_zero (B X : Nat) (on wish other : Bool) (q : List Bool) (w : World) (h : SideAt w B X on (q.take 0)) :
    Calls Try.prog 91 #[.pointer (some ⟨X, 0, none⟩), .bool wish, .bool other] w fun e w' => DownR w B X (usedB 0 q wish && !other) ((pushQ q wish).take 0) e w' := by
  obtain ⟨hB, v, hv, hr⟩ := h
  obtain ⟨a, cap, hvf, -, -⟩ := own_form hr
  simp at hvf
  have c0 : w.cell? ⟨X, 0, none⟩ = some (.bool on) := by rw [Lib.cell_of_heap hv]; rfl
  have c1 : w.cell? ⟨X, 1, none⟩ = some (.slice a 0 cap) := by rw [Lib.cell_of_heap hv, hvf]; rfl
  have f0 : w.frozen? ⟨X, 0, none⟩ = false := Lib.frozen_of_heap hv 0
  have HS2 : Hid (∀ u : Bool, SideAt (w.setCell ⟨X, 0, none⟩ (.bool u)) B X u []) := fun u => by
    refine ⟨hB, v, ?_, hr.kept (set_grown w X 0 _) (Or.inr (own_other hr hv (by decide)))⟩
    rw [heap_setCell_same w X 0 _ _ _ hv]; rfl
  clear hv hr hvf
  cases wish <;> cases other
  · go_enter Try.func91, Try.ntmps91
    go_wp2
    go_end0
    exact ⟨rfl, HS2.out _, set_grown w X 0 _⟩
  · go_enter Try.func91, Try.ntmps91
    go_wp2
    go_end0
    exact ⟨rfl, HS2.out _, set_grown w X 0 _⟩
  · go_enter Try.func91, Try.ntmps91
    go_wp2
    go_end0
    exact ⟨rfl, HS2.out _, set_grown w X 0 _⟩
  · go_enter Try.func91, Try.ntmps91
    go_wp2
    go_end0
    exact ⟨rfl, HS2.out _, set_grown w X 0 _⟩
set_option maxHeartbeats 4000000 in
set_option maxRecDepth 100000 in
theorem down_succ (B X m : Nat) (hm : m ≤ 4) (on wish other : Bool) (q : List Bool) (hq : q.length = 6) (w : World) (hBw : B ≤ w.heap.size) (h : SideAt w B X on (q.take (m + 1))) :
    Calls Try.prog 91 #[.pointer (some ⟨X, 0, none⟩), .bool wish, .bool other] w fun e w' => DownR w B X (usedB (m + 1) q wish && !other) ((pushQ q wish).take (m + 1)) e w' := by
  obtain ⟨i0, hi, hz0, hz1, hz2⟩ := info_parts info_bo
  have hXlt := h.lt
  obtain ⟨hB, v, hv, hr⟩ := h
  obtain ⟨a, cap, hvf, hcell, hcap⟩ := own_form hr
  have hl : (q.take (m + 1)).length = m + 1 := by simp; omega
  rw [hl] at hvf hcap
  obtain ⟨g, rfl, -⟩ := hcell 0 (by omega)
  have c0 : w.cell? ⟨X, 0, none⟩ = some (.bool on) := by rw [Lib.cell_of_heap hv]; rfl
  have c1 : w.cell? ⟨X, 1, none⟩ = some (.slice (some ⟨g, 0, none⟩) (m + 1) cap) := by rw [Lib.cell_of_heap hv, hvf]; rfl
  have f1 : w.frozen? ⟨X, 1, none⟩ = false := Lib.frozen_of_heap hv 1
  obtain ⟨u, hu⟩ : ∃ u, usedB (m + 1) q wish = u := ⟨_, rfl⟩
  have cm : w.cell? ⟨g, m, none⟩ = some (.bool u) := by
    obtain ⟨g', e, hc⟩ := hcell m (by omega)
    injection e with e; injection e with e1
    subst e1
    rw [hc, ← hu]
    congr 2
    simp [usedB, List.getD_eq_getElem?_getD, List.getElem?_eq_getElem (show m < q.length by omega)]
  have hgX : g ≠ X := by
    rintro rfl
    exact own_other hr hv (by decide) (by rw [hvf]; rfl)
  have hglt : g < w.heap.size := (hr.lt g (by rw [hvf]; rfl)).2
  have HNEWS : Hid (∀ j x, (boC (q.take m))[j]? = some x → w.cell? ⟨g, j, none⟩ = some x) := fun j x hx => by
    have hj : j < m := by
      have := (List.getElem?_eq_some_iff.1 hx).1
      simp [boC] at this; omega
    obtain ⟨g', e, hc⟩ := hcell j (by omega)
    injection e with e; injection e with e1
    subst e1
    rw [hc, ← hx]
    simp [boC, List.getElem?_take, hj, List.getElem?_eq_getElem (show j < q.length by omega)]
  have hv1 : w.heap[X]? = some (.cells #[.bool on, .slice (some ⟨g, 0, none⟩) (m + 1) cap] TSd (0, 0)) := by rw [← hvf]; exact hv
  have HV := Lib.hid hv1
  have HLN : Hid ((boC (q.take m)).length = m) := by show _ = _; simp [boC]; omega
  have wm : IntKind.i64.wrap (((m + 1 : Nat) : Int) - 1) = (m : Int) := by rw [show ((m + 1 : Nat) : Int) - 1 = (m : Int) by omega]; exact IntWalk.i64_in _ (by omega)
  have wm2 : ((m + 1 : Nat) : Int) - 1 = (m : Int) := by omega
  have HW2 := Lib.hid wm2
  rw [hu]
  clear hu wm2 hv hr hvf hcell hl hv1
  go_enter Try.func91, Try.ntmps91
  go_wp2_with (at_builtin; refine wpList_append_own _ rfl _ _ 32 rfl B TBo i0 (.bool false) 1 1 Try.underlying32 hi hz0 hz1 hz2 rfl (by decide) _ _ _ rfl (World.ownsRow_lit w #[.bool wish] 1 hBw (by unfold maxLen; omega) rfl) ⟨g, 0, none⟩ m cap (boC (q.take m)) rfl ?c0 ?c1 ?c2 ?c3 ?c4 ?c5 ?_)
  case c0 => rw [HLN.out]; omega
  case c1 =>
    intro j x hx
    rw [Addr.add_lit, Nat.zero_add]
    exact (((Below.refl w.heap.size w).alloc (Nat.le_refl _) _).cell (p := ⟨g, j, none⟩) hglt).trans (HNEWS.out j x hx)
  case c2 =>
    intro u hu
    have hu2 : u ∈ (q.take m).map Value.bool := hu
    obtain ⟨b, _, rfl⟩ := List.mem_map.1 hu2
    rfl
  case c3 => unfold maxLen; omega
  case c4 => omega
  case c5 => first | omega | (simp; omega)
  intro v' w1 hown' hgrow _
  have hb1 : w1.heap[X]? = some (.cells #[.bool on, .slice (some ⟨g, 0, none⟩) (m + 1) cap] TSd (0, 0)) := by
    rw [hgrow.block X (by simp; omega) (fun e => by simp [Value.ownBlock] at e; omega), Lib.alloc_old w _ X hXlt]
    exact HV.out
  have f0' : w1.frozen? ⟨X, 0, none⟩ = false := Lib.frozen_of_heap hb1 0
  have f1' : w1.frozen? ⟨X, 1, none⟩ = false := Lib.frozen_of_heap hb1 1
  have c1' : w1.cell? ⟨X, 1, none⟩ = some (.slice (some ⟨g, 0, none⟩) (m + 1) cap) := by rw [Lib.cell_of_heap hb1]; rfl
  have c0' : w1.cell? ⟨X, 0, none⟩ = some (.bool on) := by rw [Lib.cell_of_heap hb1]; rfl
  have hnX' : v'.ownBlock ≠ some X := own_other hown' hb1 (by decide)
  have hg1 : w.grownBy w1 (some X) := by
    refine ⟨hgrow.os, hgrow.tape, hgrow.output, Nat.le_trans (by simp) hgrow.size, fun k hk hne => ?_⟩
    rw [hgrow.block k (by simp; omega) (fun e => by simp [Value.ownBlock] at e; omega)]
    exact Lib.alloc_old w _ k hk
  have hb2 : (w1.setCell ⟨X, 1, none⟩ v').heap[X]? = some (.cells #[.bool on, v'] TSd (0, 0)) := by rw [heap_setCell_same w1 X 1 _ _ _ hb1]; rfl
  have hb3 : ∀ z : Bool, ((w1.setCell ⟨X, 1, none⟩ v').setCell ⟨X, 0, none⟩ (.bool z)).heap[X]? = some (.cells #[.bool z, v'] TSd (0, 0)) := fun z => by rw [heap_setCell_same _ X 0 _ _ _ hb2]; rfl
  have HSD : Hid (∀ z : Bool, SideAt ((w1.setCell ⟨X, 1, none⟩ v').setCell ⟨X, 0, none⟩ (.bool z)) B X z ((pushQ q wish).take (m + 1)) ∧ w.grownBy ((w1.setCell ⟨X, 1, none⟩ v').setCell ⟨X, 0, none⟩ (.bool z)) (some X)) := fun z => by
    refine ⟨⟨hB, v', hb3 z, ?_⟩, grown_then (grown_then hg1 1 v') 0 _⟩
    rw [push_take m hm q wish]
    have e : boC (wish :: q.take m) = [.bool wish] ++ boC (q.take m) := by simp [boC]
    have el : (wish :: q.take m).length = 1 + m := by simp; omega
    rw [e, el]
    exact (hown'.kept (set_grown w1 X 1 v') (Or.inr hnX')).kept (set_grown _ X 0 _) (Or.inr hnX')
  have k0 : (w1.setCell ⟨X, 1, none⟩ v').cell? ⟨X, 0, none⟩ = some (.bool on) := by rw [Lib.cell_of_heap hb2]; rfl
  have k0f : (w1.setCell ⟨X, 1, none⟩ v').frozen? ⟨X, 0, none⟩ = false := Lib.frozen_of_heap hb2 0
  obtain ⟨a', n', c', rfl⟩ : ∃ a n c, v' = .slice a n c := by
    rcases hown'.2 with ⟨hv, _⟩ | ⟨g, cap, cur, hv, _⟩
    · exact ⟨_, _, _, hv⟩
    · exact ⟨_, _, _, hv⟩
  clear hown' hgrow hb1 hb2 hb3 hnX' hg1
  cases u <;> cases other
  all_goals
    go_wp2
    go_end0
    exact ⟨rfl, (HSD.out _).1, (HSD.out _).2⟩
theorem down_any (B X n : Nat) (hn : n ≤ 5) (on wish other : Bool) (q : List Bool) (hq : q.length = 6) (w : World) (hBw : B ≤ w.heap.size) (h : SideAt w B X on (q.take n)) :
    Calls Try.prog 91 #[.pointer (some ⟨X, 0, none⟩), .bool wish, .bool other] w fun e w' => DownR w B X (usedB n q wish && !other) ((pushQ q wish).take n) e w' := by
  cases n with
  | zero => exact down_zero B X on wish other q w h
  | succ m => exact down_succ B X m (by omega) on wish other q hq w hBw h
end Go.Proofs.Ytmhbgpappjfolaa
