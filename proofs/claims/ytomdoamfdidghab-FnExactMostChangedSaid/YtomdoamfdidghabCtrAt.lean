/- A counter and one of its states, on both sides. -/
import Derived.Test.YtomdoamfdidghabVCtr
import Derived.Test.YtomdoamfdidghabBits
import Derived.Test.YtomdoamfdidghabHas
import Derived.Test.YtomdoamfdidghabKept
import Derived.IntWalk
import Derived.WalkSmall
namespace Go.Proofs.Ytomdoamfdidghab
open Go.RowKit
set_option linter.unusedVariables false
theorem st_lt (l : List Int) (b : Int) (h : ctrB b l = true) (x : Nat) (hx : x < l.length) : ∃ y : Nat, l[x] = (y : Int) ∧ (l.getD x 0).toNat = y ∧ y < l.length ∧ y < 256 := by
  unfold ctrB at h
  simp only [Bool.and_eq_true, decide_eq_true_eq] at h
  obtain ⟨⟨⟨h1, h2⟩, h3⟩, h4⟩ := h
  have h5 := List.all_eq_true.1 h4 l[x] (List.getElem_mem hx)
  unfold stB at h5
  rw [decide_eq_true_eq] at h5
  have h6 := (st_bd b h1 h2).2
  obtain ⟨y, hy⟩ := Int.eq_ofNat_of_zero_le h5.1
  refine ⟨y, hy, ?_, by omega, by omega⟩
  rw [List.getD_eq_getElem?_getD, List.getElem?_eq_getElem hx]
  simp [hy]
theorem ctr_pt (l : List Int) (b : Int) (h : ctrB b l = true) : 1 ≤ b ∧ b ≤ 8 ∧ (l.length : Int) = st b ∧ l.length ≤ 256 := by
  unfold ctrB at h
  simp only [Bool.and_eq_true, decide_eq_true_eq] at h
  obtain ⟨⟨⟨h1, h2⟩, h3⟩, h4⟩ := h
  have h6 := (st_bd b h1 h2).2
  exact ⟨h1, h2, h3, by omega⟩
def atB (b : Int) (l : List Int) (x : Int) : Bool := ctrB b l && stB b x
theorem l02At_any (p : Nat) (b x : Int) (a : Option Addr) (n cap : Nat) (l : List Int) (w : World) (hn : n = l.length) (hl : n ≤ 1048576) (hp : At2 w p (.int .i64 b) (.slice a n cap)) (hr : RowOf w a l) :
    Calls Try.prog 16 #[.pointer (some ⟨p, 0, none⟩), .int .i64 x] w fun e w' => e = .returned (.bool (atB b l x)) ∧ ∃ q, w' = w.drewN q := by
  have HI := Lib.hid (l02Is_any p b a n cap l w hn hl hp hr)
  obtain ⟨c0, c1, _, _⟩ := hp
  clear hr hn hl
  cases hc : ctrB b l with
  | false =>
    rw [show atB b l x = false from by unfold atB; rw [hc]; rfl]
    rw [hc] at HI
    go_enter Try.func16, Try.ntmps16
    go_wp2_with fail
    refine HI.out.mono ?_; rintro e w' ⟨rfl, q, rfl⟩
    go_wp2
    go_ret
    exact ⟨rfl, q, rfl⟩
  | true =>
    obtain ⟨h1, h2, h3, h4⟩ := ctr_pt l b hc
    rw [show atB b l x = stB b x from by unfold atB; rw [hc]; rfl]
    rw [hc] at HI
    by_cases hs : StateOk b x
    · rw [show stB b x = true from decide_eq_true ⟨hs.2.2.1, hs.2.2.2⟩]
      have HS := Lib.hid hs
      clear hs h3 hc
      go_enter Try.func16, Try.ntmps16
      go_wp2_with fail
      refine HI.out.mono ?_; rintro e w' ⟨rfl, q, rfl⟩
      go_wp2_with fail
      refine (l02State_t _ _ _ HS.out).mono ?_; rintro e w' ⟨rfl, rfl⟩
      go_wp2
      go_ret
      exact ⟨rfl, q, rfl⟩
    · rw [show stB b x = false from decide_eq_false fun h => hs ⟨h1, h2, h.1, h.2⟩]
      have HS := Lib.hid hs
      clear hs h3 hc
      go_enter Try.func16, Try.ntmps16
      go_wp2_with fail
      refine HI.out.mono ?_; rintro e w' ⟨rfl, q, rfl⟩
      go_wp2_with fail
      refine (l02State_f _ _ _ HS.out).mono ?_; rintro e w' ⟨rfl, rfl⟩
      go_wp2
      go_ret
      exact ⟨rfl, q, rfl⟩

theorem row_alloc {w : World} {a : Option Addr} {l : List Int} (hr : RowOf w a l) (hlt : ∀ g, a = some ⟨g, 0, none⟩ → g < w.heap.size) {w' : World} {N : Nat} (hb : Below N w w') (hN : w.heap.size ≤ N) : RowOf w' a l := fun k hk => by
  obtain ⟨g, h1, h2⟩ := hr k hk
  exact ⟨g, h1, (hb.cell (p := ⟨g, k, none⟩) (Nat.lt_of_lt_of_le (hlt g h1) hN)).trans h2⟩

theorem has_any (b x : Int) (a : Option Addr) (n cap : Nat) (l : List Int) (w : World) (hn : n = l.length) (hl : n ≤ 1048576) (hr : RowOf w a l) (hlt : ∀ g, a = some ⟨g, 0, none⟩ → g < w.heap.size) :
    Calls Try.prog 19 #[.agg #[.int .i64 b, .slice a n cap], .int .i64 x] w fun e w' => e = .returned (.bool (atB b l x)) ∧ Below w.heap.size w w' := by
  have hb0 : Below w.heap.size w (w.alloc (.cells #[.int .i64 b, .slice a n cap] 28)) := (Below.refl _ _).alloc (Nat.le_refl _) _
  have HI := Lib.hid (implValidCtr b a n cap l (w.alloc (.cells #[.int .i64 b, .slice a n cap] 28)) hn hl (row_alloc hr hlt hb0 (Nat.le_refl _)) (fun g e => Nat.lt_of_lt_of_le (hlt g e) hb0.size))
  clear hr hn hl hlt hb0
  cases hc : ctrB b l with
  | false =>
    rw [show atB b l x = false from by unfold atB; rw [hc]; rfl]
    rw [hc] at HI
    go_enter Try.func19, Try.ntmps19
    go_wp2_with fail
    refine HI.out.mono ?_; rintro e w1 ⟨rfl, hb1⟩
    go_wp2
    go_ret
    exact ⟨rfl, ((Below.refl _ _).alloc (Nat.le_refl _) _).trans (hb1.mono (by simp))⟩
  | true =>
    obtain ⟨h1, h2, h3, h4⟩ := ctr_pt l b hc
    rw [show atB b l x = stB b x from by unfold atB; rw [hc]; rfl]
    rw [hc] at HI
    by_cases hs : StateOk b x
    · rw [show stB b x = true from decide_eq_true ⟨hs.2.2.1, hs.2.2.2⟩]
      have HS := Lib.hid hs
      clear hs h3 hc
      go_enter Try.func19, Try.ntmps19
      go_wp2_with fail
      refine HI.out.mono ?_; rintro e w1 ⟨rfl, hb1⟩
      obtain ⟨hcc, hf⟩ := bcell hb1
      go_wp2_with fail
      refine (has_t _ _ _ HS.out).mono ?_; rintro e w' ⟨rfl, rfl⟩
      go_wp2
      go_ret
      exact ⟨rfl, ((Below.refl _ _).alloc (Nat.le_refl _) _).trans (hb1.mono (by simp))⟩
    · rw [show stB b x = false from decide_eq_false fun h => hs ⟨h1, h2, h.1, h.2⟩]
      have HS := Lib.hid hs
      clear hs h3 hc
      go_enter Try.func19, Try.ntmps19
      go_wp2_with fail
      refine HI.out.mono ?_; rintro e w1 ⟨rfl, hb1⟩
      obtain ⟨hcc, hf⟩ := bcell hb1
      go_wp2_with fail
      refine (has_f _ _ _ HS.out).mono ?_; rintro e w' ⟨rfl, rfl⟩
      go_wp2
      go_ret
      exact ⟨rfl, ((Below.refl _ _).alloc (Nat.le_refl _) _).trans (hb1.mono (by simp))⟩

theorem after_any (b z : Int) (g n cap x : Nat) (w : World) (hx : x < n) (hn : n ≤ 256) (hg : g < w.heap.size) (hc : w.cell? ⟨g, x, none⟩ = some (.int .i64 z)) :
    Calls Try.prog 29 #[.agg #[.int .i64 b, .slice (some ⟨g, 0, none⟩) n cap], .int .i64 (x : Int)] w fun e w' => e = .returned (.int .i64 z) ∧ Below w.heap.size w w' := by
  have hc2 := cell_alloc_kept (o := .cells #[.int .i64 b, .slice (some ⟨g, 0, none⟩) n cap] 28) hc
  clear hc
  go_enter Try.func29, Try.ntmps29
  go_wp2
  go_ret
  exact ⟨rfl, (Below.refl _ _).alloc (Nat.le_refl _) _⟩
end Go.Proofs.Ytomdoamfdidghab
