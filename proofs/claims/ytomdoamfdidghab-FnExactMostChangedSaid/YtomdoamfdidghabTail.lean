/- How many steps lead to a ring, on both sides. -/
import Derived.Test.YtomdoamfdidghabRingS
namespace Go.Proofs.Ytomdoamfdidghab
open Go.RowKit
set_option linter.unusedVariables false
theorem stop_or {N : List Int} {x : Int} : ∀ k, (∃ j, Stop N x j) ∨ (pth N x k).Nodup
  | 0 => .inr (by simp [pth_zero])
  | k + 1 => by
    rcases stop_or (N := N) (x := x) k with h | h
    · exact .inl h
    · by_cases hm : itr N x k ∈ pth N x k
      · exact .inl ⟨k, h, hm⟩
      · exact .inr (pth_nodup_succ h hm)
theorem stop_ex {N : List Int} (hin : InN N) {x : Int} (hx : 0 ≤ x ∧ x < (N.length : Int)) : ∃ k t, Stop N x k ∧ t < k ∧ itr N x t = itr N x k := by
  rcases stop_or (N := N) (x := x) (N.length + 1) with ⟨k, h⟩ | h
  · obtain ⟨t, ht, e, -⟩ := stop_tail h
    exact ⟨k, t, h, ht, e⟩
  · have := pth_le hin hx h; omega
theorem tail_unique {N : List Int} {x : Int} {k t t' : Nat} (h : Stop N x k) (ht : t < k) (he : itr N x t = itr N x k) (ht' : t' < k) (he' : itr N x t' = itr N x k) : t = t' := by
  rcases Nat.lt_trichotomy t t' with hlt | hlt | hlt
  · exact absurd (he.trans he'.symm) (pth_nodup_ne h.1 hlt ht')
  · exact hlt
  · exact absurd (he'.trans he.symm) (pth_nodup_ne h.1 hlt ht)
theorem at_in {b x : Int} {l : List Int} (h : atB b l x = true) : l.length ≤ 256 ∧ InN l ∧ (0 ≤ x ∧ x < (l.length : Int)) := by
  unfold atB at h
  rw [Bool.and_eq_true] at h
  obtain ⟨hc, hs⟩ := h
  obtain ⟨p1, p2, p3, p4⟩ := ctr_pt l b hc
  refine ⟨p4, fun v hv => ?_, ?_⟩
  · obtain ⟨i, hi, rfl⟩ := List.mem_iff_getElem.1 hv
    obtain ⟨y, hy, -, hy2, -⟩ := st_lt l b hc i hi
    rw [hy]; omega
  · unfold stB at hs
    rw [decide_eq_true_eq] at hs
    omega
set_option maxHeartbeats 1000000 in
set_option maxRecDepth 100000 in
theorem specTailOf_t (b : Int) (a : Option Addr) (n cap : Nat) (l : List Int) (x : Int) (w : World) (hn : n = l.length) (hl : n ≤ 1048576) (hr : RowOf w a l) (hlt : ∀ g, a = some ⟨g, 0, none⟩ → g < w.heap.size) (hat : atB b l x = true) (k t : Nat) (hst : Stop l x k) (ht : t < k) (hte : itr l x t = itr l x k) :
    Calls Try.prog 7 #[.agg #[.int .i64 b, .slice a n cap], .int .i64 x] w fun e w' => e = .returned (.tuple #[.int .i64 (t : Int), .bool true]) ∧ Below w.heap.size w w' := by
  obtain ⟨hN, hin, hx⟩ := at_in hat
  have hb0 : Below w.heap.size w (w.alloc (.cells #[.int .i64 b, .slice a n cap] 28)) := (Below.refl _ _).alloc (Nat.le_refl _) _
  have hr0 := row_alloc hr hlt hb0 (Nat.le_refl _)
  have HA := Lib.hid (l02At_any w.heap.size b x a n cap l (w.alloc (.cells #[.int .i64 b, .slice a n cap] 28)) hn hl (At2.new w _ _ _) hr0)
  rw [hat] at HA
  have HLT := Lib.hid (fun g e => Nat.lt_of_lt_of_le (hlt g e) hb0.size)
  have HR0 := Lib.hid hr0
  have HBW := Lib.hid hb0
  have HIN := Lib.hid hin
  have HX := Lib.hid hx
  have HN := Lib.hid hn
  have hnl : n ≤ 256 := by omega
  clear hr hlt hr0 hb0 hat hn hin hx
  go_enter Try.func7, Try.ntmps7
  go_wp2_with fail
  refine HA.out.mono ?_; rintro e w' ⟨rfl, q, rfl⟩
  have bx := (At2.new w (.int .i64 b) (.slice a n cap) 28).drewN q
  have hr1 : RowOf ((w.alloc (.cells #[.int .i64 b, .slice a n cap] 28)).drewN q) a l := HR0.out
  have HB0 := Lib.hid (bw HBW.out q)
  have hs0 : w.heap.size < ((w.alloc (.cells #[.int .i64 b, .slice a n cap] 28)).drewN q).heap.size := by show w.heap.size < (w.alloc (.cells #[.int .i64 b, .slice a n cap] 28)).heap.size; simp
  have HLT1 : Hid (∀ g, a = some ⟨g, 0, none⟩ → g < ((w.alloc (.cells #[.int .i64 b, .slice a n cap] 28)).drewN q).heap.size) := HLT
  generalize (w.alloc (.cells #[.int .i64 b, .slice a n cap] 28)).drewN q = W0 at *
  have HPX := Lib.hid bx
  obtain ⟨b0, b1, -, -⟩ := bx
  have HR1 := Lib.hid hr1
  clear hr1
  go_wp2_with fail
  refine (specRing_any w.heap.size b a n cap l x W0 HN.out hN HIN.out HX.out HPX.out HR1.out HLT1.out).mono ?_
  rintro e w2 ⟨k', t', ls, v, hst', ht', hte', -, rfl, -, hb2⟩
  obtain rfl := stop_unique hst hst'
  obtain rfl := tail_unique hst ht hte ht' hte'
  have HB2 := Lib.hid (HB0.out.trans (hb2.mono (by omega)))
  clear hst hst' hte hte' hb2
  go_wp2
  go_ret2
  exact ⟨rfl, HB2.out⟩
set_option maxHeartbeats 1000000 in
set_option maxRecDepth 100000 in
theorem implTailOf_t (b : Int) (a : Option Addr) (n cap : Nat) (l : List Int) (x : Int) (w : World) (hn : n = l.length) (hl : n ≤ 1048576) (hr : RowOf w a l) (hlt : ∀ g, a = some ⟨g, 0, none⟩ → g < w.heap.size) (hat : atB b l x = true) (k t : Nat) (hst : Stop l x k) (ht : t < k) (hte : itr l x t = itr l x k) :
    Calls Try.prog 9 #[.agg #[.int .i64 b, .slice a n cap], .int .i64 x] w fun e w' => e = .returned (.tuple #[.int .i64 (t : Int), .bool true]) ∧ Below w.heap.size w w' := by
  obtain ⟨hN, hin, hx⟩ := at_in hat
  have hb0 : Below w.heap.size w (w.alloc (.cells #[.int .i64 b, .slice a n cap] 28)) := (Below.refl _ _).alloc (Nat.le_refl _) _
  have hr0 := row_alloc hr hlt hb0 (Nat.le_refl _)
  have HA := Lib.hid (has_any b x a n cap l (w.alloc (.cells #[.int .i64 b, .slice a n cap] 28)) hn hl hr0 (fun g e => Nat.lt_of_lt_of_le (hlt g e) hb0.size))
  rw [hat] at HA
  have HLT := Lib.hid (fun g e => Nat.lt_of_lt_of_le (hlt g e) hb0.size)
  have HR0 := Lib.hid hr0
  have HBW := Lib.hid hb0
  have HIN := Lib.hid hin
  have HX := Lib.hid hx
  have HN := Lib.hid hn
  have hnl : n ≤ 256 := by omega
  clear hr hlt hr0 hb0 hat hn hin hx
  go_enter Try.func9, Try.ntmps9
  go_wp2_with fail
  refine HA.out.mono ?_; rintro e W0 ⟨rfl, hb1⟩
  have bx := (At2.new w (.int .i64 b) (.slice a n cap) 28).below hb1 (by simp)
  have hr1 := row_alloc HR0.out HLT.out hb1 (Nat.le_refl _)
  have HB0 := Lib.hid (HBW.out.trans (hb1.mono HBW.out.size))
  have hs0 : w.heap.size < W0.heap.size := by have := hb1.size; simp at this; omega
  have HLT1 := Lib.hid (fun g e => Nat.lt_of_lt_of_le (HLT.out g e) hb1.size)
  clear hb1
  have HPX := Lib.hid bx
  obtain ⟨b0, b1, -, -⟩ := bx
  have HR1 := Lib.hid hr1
  clear hr1
  go_wp2_with fail
  refine (route_any b a n cap l x W0 HN.out hN HIN.out HX.out HR1.out HLT1.out).mono ?_
  rintro e w2 ⟨k', t', v, hst', ht', hte', rfl, -, hb2⟩
  obtain rfl := stop_unique hst hst'
  obtain rfl := tail_unique hst ht hte ht' hte'
  have HB2 := Lib.hid (HB0.out.trans (hb2.mono (by omega)))
  clear hst hst' hte hte' hb2
  go_wp2
  go_ret2
  exact ⟨rfl, HB2.out⟩
set_option maxRecDepth 100000 in
theorem specTailOf_f (b : Int) (a : Option Addr) (n cap : Nat) (l : List Int) (x : Int) (w : World) (hn : n = l.length) (hl : n ≤ 1048576) (hr : RowOf w a l) (hlt : ∀ g, a = some ⟨g, 0, none⟩ → g < w.heap.size) (hat : atB b l x = false) :
    Calls Try.prog 7 #[.agg #[.int .i64 b, .slice a n cap], .int .i64 x] w fun e w' => e = .returned (.tuple #[.int .i64 0, .bool false]) ∧ Below w.heap.size w w' := by
  have hb0 : Below w.heap.size w (w.alloc (.cells #[.int .i64 b, .slice a n cap] 28)) := (Below.refl _ _).alloc (Nat.le_refl _) _
  have hr0 := row_alloc hr hlt hb0 (Nat.le_refl _)
  have HA := Lib.hid (l02At_any w.heap.size b x a n cap l (w.alloc (.cells #[.int .i64 b, .slice a n cap] 28)) hn hl (At2.new w _ _ _) hr0)
  have HBW := Lib.hid hb0
  rw [hat] at HA
  clear hr hlt hr0 hb0 hn hat
  go_enter Try.func7, Try.ntmps7
  go_wp2_with fail
  refine HA.out.mono ?_; rintro e w' ⟨rfl, q, rfl⟩
  have HB0 := Lib.hid (bw HBW.out q)
  go_wp2
  go_ret2
  exact ⟨rfl, HB0.out⟩
set_option maxRecDepth 100000 in
theorem implTailOf_f (b : Int) (a : Option Addr) (n cap : Nat) (l : List Int) (x : Int) (w : World) (hn : n = l.length) (hl : n ≤ 1048576) (hr : RowOf w a l) (hlt : ∀ g, a = some ⟨g, 0, none⟩ → g < w.heap.size) (hat : atB b l x = false) :
    Calls Try.prog 9 #[.agg #[.int .i64 b, .slice a n cap], .int .i64 x] w fun e w' => e = .returned (.tuple #[.int .i64 0, .bool false]) ∧ Below w.heap.size w w' := by
  have hb0 : Below w.heap.size w (w.alloc (.cells #[.int .i64 b, .slice a n cap] 28)) := (Below.refl _ _).alloc (Nat.le_refl _) _
  have hr0 := row_alloc hr hlt hb0 (Nat.le_refl _)
  have HA := Lib.hid (has_any b x a n cap l (w.alloc (.cells #[.int .i64 b, .slice a n cap] 28)) hn hl hr0 (fun g e => Nat.lt_of_lt_of_le (hlt g e) hb0.size))
  have HBW := Lib.hid hb0
  rw [hat] at HA
  clear hr hlt hr0 hb0 hn hat
  go_enter Try.func9, Try.ntmps9
  go_wp2_with fail
  refine HA.out.mono ?_; rintro e w' ⟨rfl, hb1⟩
  have HB0 := Lib.hid (HBW.out.trans (hb1.mono HBW.out.size))
  go_wp2
  go_ret2
  exact ⟨rfl, HB0.out⟩
theorem tailOf_both (b : Int) (l : List Int) (x : Int) (hl : l.length ≤ 1048576) : ∃ (r : Int) (c : Bool), (∀ (a : Option Addr) (cap : Nat) (w : World), RowOf w a l → (∀ g, a = some ⟨g, 0, none⟩ → g < w.heap.size) → Calls Try.prog 7 #[.agg #[.int .i64 b, .slice a l.length cap], .int .i64 x] w fun e w' => e = .returned (.tuple #[.int .i64 r, .bool c]) ∧ Below w.heap.size w w') ∧ (∀ (a : Option Addr) (cap : Nat) (w : World), RowOf w a l → (∀ g, a = some ⟨g, 0, none⟩ → g < w.heap.size) → Calls Try.prog 9 #[.agg #[.int .i64 b, .slice a l.length cap], .int .i64 x] w fun e w' => e = .returned (.tuple #[.int .i64 r, .bool c]) ∧ Below w.heap.size w w') := by
  cases hat : atB b l x with
  | false => exact ⟨_, _, fun a cap w hr hlt => specTailOf_f b a l.length cap l x w rfl hl hr hlt hat, fun a cap w hr hlt => implTailOf_f b a l.length cap l x w rfl hl hr hlt hat⟩
  | true =>
    obtain ⟨-, hin, hx⟩ := at_in hat
    obtain ⟨k, t, hst, ht, hte⟩ := stop_ex hin hx
    exact ⟨_, _, fun a cap w hr hlt => specTailOf_t b a l.length cap l x w rfl hl hr hlt hat k t hst ht hte, fun a cap w hr hlt => implTailOf_t b a l.length cap l x w rfl hl hr hlt hat k t hst ht hte⟩
end Go.Proofs.Ytomdoamfdidghab
