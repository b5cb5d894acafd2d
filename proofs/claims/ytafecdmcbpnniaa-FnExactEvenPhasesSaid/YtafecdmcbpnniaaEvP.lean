/- Even phases: both sides and the law's walk. -/
import Derived.Test.YtafecdmcbpnniaaMarksC
import Derived.Test.YtafecdmcbpnniaaIn64
import Derived.IntWalk
import Derived.BigQuiet
import Derived.Deep.QuietTactic
namespace Go.Proofs.Ytafecdmcbpnniaa
open Go.RowKit
set_option linter.unusedVariables false
/-- the first k phases -/
def evL (p c : Int) : Nat → List Int
  | 0 => []
  | k + 1 => evL p c k ++ [p, (k : Int) * p / c]
theorem evL_len (p c : Int) : ∀ k, (evL p c k).length = k * 2
  | 0 => rfl
  | k + 1 => by rw [evL, List.length_append, evL_len p c k]; simp; omega
theorem Recs.lit0 (w : World) : Recs (w.alloc (.cells #[] 25)) w.heap.size (.slice (some ⟨w.heap.size, 0, none⟩) 0 0) 0 [] := by
  exact ⟨rfl, World.ownsRow_lit w #[] 0 (Nat.le_refl _) (Nat.zero_le _) rfl⟩
theorem Recs.nil0 (w : World) (B : Nat) : Recs w B (.slice none 0 0) 0 [] := ⟨rfl, World.ownsRow_nil _ _ _ _⟩
theorem Recs.snoc2 {w : World} {B n : Nat} {v : Value} {F : List Int} {x y : Int} (hF : F.length = n * 2) (h : w.ownsRow B 25 2 v (n + 1) (F.map (Value.int .i64) ++ [.int .i64 x, .int .i64 y])) : Recs w B v (n + 1) (F ++ [x, y]) := by
  refine ⟨by rw [List.length_append, hF]; simp; omega, ?_⟩
  rw [List.map_append]; exact h
theorem cell_two_at (W : World) (x y : Value) (t : TypeId) (q : Nat) (hq : q = W.heap.size) : ∀ j u, [x, y][j]? = some u → (W.alloc (.cells #[x, y] t)).cell? ((⟨q, 0, none⟩ : Addr).add j) = some u := by
  subst hq
  intro j u h
  rcases j with _ | _ | j
  · simp at h; subst h; simp [Addr.add]
  · simp at h; subst h; simp [Addr.add]
  · simp at h
theorem recs_belowC {B : Nat} {w wr w1 : World} {v : Value} {n : Nat} {F : List Int} (hB : Below B w wr) (hBw : B ≤ w.heap.size) (h : Recs wr B v n F) (o : Obj) (hg : (wr.alloc o).grownBy w1 v.ownBlock) : Below B w w1 :=
  (hB.alloc (Nat.le_trans hBw hB.size) o).grown hg (by have := hB.size; simp; omega) (fun k e => ((World.ownsRow.alloc h.2 o).lt k e).1)
theorem ev_bd (p : Int) (c k : Nat) (hp : 1 ≤ p ∧ p ≤ 100000) (hc : 1 ≤ c ∧ c ≤ 6) (hk : k < c) : 0 ≤ (k : Int) * p ∧ (k : Int) * p ≤ 600000 ∧ ((k : Int) * p).tdiv (c : Int) = (k : Int) * p / (c : Int) ∧ 0 ≤ (k : Int) * p / (c : Int) ∧ (k : Int) * p / (c : Int) ≤ 600000 := by
  have m0 : 0 ≤ (k : Int) * p := Int.mul_nonneg (by omega) (by omega)
  have m1 : (k : Int) * p ≤ 6 * 100000 := Int.mul_le_mul (by omega) hp.2 (by omega) (by omega)
  have m2 : (k : Int) * p / (c : Int) ≤ (k : Int) * p := Int.ediv_le_self _ m0
  exact ⟨m0, by omega, Int.tdiv_eq_ediv_of_nonneg m0, Int.ediv_nonneg m0 (by omega), by omega⟩
theorem specEv_f (p c : Int) (w : World) (h : ¬ (1 ≤ p ∧ p ≤ 100000)) :
    Calls Try.prog 28 #[.int .i64 p, .int .i64 c] w fun e W' => ∃ v, e = .returned (.tuple #[v, .bool false]) ∧ Recs W' w.heap.size v 0 [] ∧ Below w.heap.size w W' := by
  go_enter Try.func28, Try.ntmps28
  go_wp2_with fail
  refine (l00In_f _ _ _ _ (by omega)).mono ?_; rintro e w' ⟨rfl, rfl⟩
  go_wp2
  go_ret2
  exact ⟨_, rfl, Recs.nil0 _ _, Below.refl _ _⟩
theorem specEv_g (p c : Int) (w : World) (h : 1 ≤ p ∧ p ≤ 100000) (h2 : ¬ (1 ≤ c ∧ c ≤ 6)) :
    Calls Try.prog 28 #[.int .i64 p, .int .i64 c] w fun e W' => ∃ v, e = .returned (.tuple #[v, .bool false]) ∧ Recs W' w.heap.size v 0 [] ∧ Below w.heap.size w W' := by
  go_enter Try.func28, Try.ntmps28
  go_wp2_with fail
  refine (l00In_t _ _ _ _ h.1 h.2).mono ?_; rintro e w' ⟨rfl, rfl⟩
  go_wp2_with fail
  refine (l00In_f _ _ _ _ (by omega)).mono ?_; rintro e w' ⟨rfl, rfl⟩
  go_wp2
  go_ret2
  exact ⟨_, rfl, Recs.nil0 _ _, Below.refl _ _⟩
set_option maxHeartbeats 2000000 in
set_option maxRecDepth 100000 in
theorem specEv_t (p : Int) (c : Nat) (w : World) (hp : 1 ≤ p ∧ p ≤ 100000) (hc : 1 ≤ c ∧ c ≤ 6) :
    Calls Try.prog 28 #[.int .i64 p, .int .i64 (c : Int)] w fun e W' => ∃ v, e = .returned (.tuple #[v, .bool true]) ∧ Recs W' w.heap.size v c (evL p (c : Int) c) ∧ Below w.heap.size w W' := by
  obtain ⟨i0, hi, hz0, hz1, hz2⟩ := info_parts info_rec
  go_enter Try.func28, Try.ntmps28
  go_wp2_with fail
  refine (l00In_t _ _ _ _ hp.1 hp.2).mono ?_; rintro e w' ⟨rfl, rfl⟩
  go_wp2_with fail
  refine (l00In_t _ _ _ _ (by omega) (by omega)).mono ?_; rintro e w' ⟨rfl, rfl⟩
  go_wp2
  go_loopw [6, 7] (fun v i wr => ∃ k : Nat, k ≤ c ∧ i = .int .i64 (k : Int) ∧ Recs wr w.heap.size v k (evL p (c : Int) k) ∧ Below w.heap.size w wr) (fun _ i _ => c - (intOf i).toNat)
  case atStart => exact ⟨0, Nat.zero_le _, rfl, Recs.lit0 w, (Below.refl _ _).alloc (Nat.le_refl _) _⟩
  case round =>
    obtain ⟨k, hk, rfl, HRr, HBr⟩ := hrel
    have HR := Lib.hid HRr
    have HB := Lib.hid HBr
    clear HRr HBr
    by_cases hlt : k < c
    · have hltI : (k : Int) < (c : Int) := by omega
      obtain ⟨m0, m1, m2, m3, m4⟩ := ev_bd p c k hp hc hlt
      have HEV := Lib.hid (show evL p (c : Int) (k + 1) = evL p (c : Int) k ++ [p, (k : Int) * p / (c : Int)] from rfl)
      have hne : ((c : Int) == 0) = false := by simp; omega
      have hn0 : ¬ (c : Int) = 0 := by omega
      obtain ⟨D, hD⟩ : ∃ D, (k : Int) * p / (c : Int) = D := ⟨_, rfl⟩
      rw [hD] at m2 m3 m4 HEV
      have w1 : IntKind.i64.wrap ((k : Int) * p) = (k : Int) * p := IntWalk.i64_in _ (by omega)
      have w2 : IntKind.i64.wrap (((k : Int) * p).tdiv (c : Int)) = D := by rw [m2]; exact IntWalk.i64_in _ (by omega)
      have w3 : IntKind.i64.wrap D = D := IntWalk.i64_in _ (by omega)
      have w4 : IntKind.i64.wrap ((k : Int) + 1) = (k : Int) + 1 := IntWalk.i64_in _ (by omega)
      have HDD := Lib.hid hD
      have hsz := HB.out.size
      have hlen := evL_len p (c : Int) k
      have HLEN := Lib.hid hlen
      clear m2 hlen
      go_wp2_with (at_builtin; refine wpList_append_own _ rfl _ _ 35 rfl w.heap.size 25 i0 (.agg #[.int .i64 0, .int .i64 0]) 2 16 Try.underlying35 hi hz0 hz1 hz2 rfl (by decide) _ _ _ rfl (HR.out.2.alloc _) ⟨wr.heap.size, 0, none⟩ 1 1 [.int .i64 p, .int .i64 D] rfl rfl ?c1 ?c2 ?c3 ?c4 ?c5 ?_)
      case c1 => exact cell_two_at _ _ _ _ _ (by first | rfl | simp)
      case c2 => simp [Value.oneCell']
      case c3 => unfold maxLen; omega
      case c4 => omega
      case c5 => first | omega | (simp; omega)
      intro v' w7 hown' hgrow _
      have HO := Lib.hid (Recs.snoc2 HLEN.out hown')
      have HW7 := Lib.hid (recs_belowC HB.out (Nat.le_refl _) HR.out _ hgrow)
      clear hown' hgrow
      go_wp2
      go_roundw
      case rel => exact ⟨k + 1, by omega, by go_num, by rw [HEV.out]; exact HO.out, HW7.out⟩
      case measure => simp [intOf]; omega
    · obtain rfl : c = k := by omega
      go_wp2
      go_ret2
      exact ⟨_, rfl, HR.out, HB.out⟩
theorem implEv_f (p c : Int) (w : World) (h : ¬ (1 ≤ p ∧ p ≤ 100000)) :
    Calls Try.prog 29 #[.int .i64 p, .int .i64 c] w fun e W' => ∃ v, e = .returned (.tuple #[v, .bool false]) ∧ Recs W' w.heap.size v 0 [] ∧ Below w.heap.size w W' := by
  go_enter Try.func29, Try.ntmps29
  go_wp2_with fail
  refine (within_i64_f _ _ _ _ (by omega)).mono ?_; rintro e w' ⟨rfl, rfl⟩
  go_wp2
  go_ret2
  exact ⟨_, rfl, Recs.nil0 _ _, Below.refl _ _⟩
theorem implEv_g (p c : Int) (w : World) (h : 1 ≤ p ∧ p ≤ 100000) (h2 : ¬ (1 ≤ c ∧ c ≤ 6)) :
    Calls Try.prog 29 #[.int .i64 p, .int .i64 c] w fun e W' => ∃ v, e = .returned (.tuple #[v, .bool false]) ∧ Recs W' w.heap.size v 0 [] ∧ Below w.heap.size w W' := by
  go_enter Try.func29, Try.ntmps29
  go_wp2_with fail
  refine (within_i64_t _ _ _ _ h.1 h.2).mono ?_; rintro e w' ⟨rfl, rfl⟩
  go_wp2_with fail
  refine (within_i64_f _ _ _ _ (by omega)).mono ?_; rintro e w' ⟨rfl, rfl⟩
  go_wp2
  go_ret2
  exact ⟨_, rfl, Recs.nil0 _ _, Below.refl _ _⟩
set_option maxHeartbeats 2000000 in
set_option maxRecDepth 100000 in
theorem implEv_t (p : Int) (c : Nat) (w : World) (hp : 1 ≤ p ∧ p ≤ 100000) (hc : 1 ≤ c ∧ c ≤ 6) :
    Calls Try.prog 29 #[.int .i64 p, .int .i64 (c : Int)] w fun e W' => ∃ v, e = .returned (.tuple #[v, .bool true]) ∧ Recs W' w.heap.size v c (evL p (c : Int) c) ∧ Below w.heap.size w W' := by
  obtain ⟨i0, hi, hz0, hz1, hz2⟩ := info_parts info_rec
  go_enter Try.func29, Try.ntmps29
  go_wp2_with fail
  refine (within_i64_t _ _ _ _ hp.1 hp.2).mono ?_; rintro e w' ⟨rfl, rfl⟩
  go_wp2_with fail
  refine (within_i64_t _ _ _ _ (by omega) (by omega)).mono ?_; rintro e w' ⟨rfl, rfl⟩
  go_wp2
  go_loopw [6, 7, 17] (fun v _ i wr => ∃ k : Nat, k ≤ c ∧ i = .int .i64 (k : Int) ∧ Recs wr w.heap.size v k (evL p (c : Int) k) ∧ Below w.heap.size w wr) (fun _ _ i _ => c - (intOf i).toNat)
  case atStart => exact ⟨0, Nat.zero_le _, rfl, Recs.nil0 _ _, Below.refl _ _⟩
  case round =>
    obtain ⟨k, hk, rfl, HRr, HBr⟩ := hrel
    have HR := Lib.hid HRr
    have HB := Lib.hid HBr
    clear HRr HBr
    by_cases hlt : k < c
    · have hltI : (k : Int) < (c : Int) := by omega
      obtain ⟨m0, m1, m2, m3, m4⟩ := ev_bd p c k hp hc hlt
      have HEV := Lib.hid (show evL p (c : Int) (k + 1) = evL p (c : Int) k ++ [p, (k : Int) * p / (c : Int)] from rfl)
      have hne : ((c : Int) == 0) = false := by simp; omega
      have hn0 : ¬ (c : Int) = 0 := by omega
      obtain ⟨D, hD⟩ : ∃ D, (k : Int) * p / (c : Int) = D := ⟨_, rfl⟩
      rw [hD] at m2 m3 m4 HEV
      have w1 : IntKind.i64.wrap ((k : Int) * p) = (k : Int) * p := IntWalk.i64_in _ (by omega)
      have w2 : IntKind.i64.wrap (((k : Int) * p).tdiv (c : Int)) = D := by rw [m2]; exact IntWalk.i64_in _ (by omega)
      have w3 : IntKind.i64.wrap D = D := IntWalk.i64_in _ (by omega)
      have w4 : IntKind.i64.wrap ((k : Int) + 1) = (k : Int) + 1 := IntWalk.i64_in _ (by omega)
      have HDD := Lib.hid hD
      have hsz := HB.out.size
      have hlen := evL_len p (c : Int) k
      have HLEN := Lib.hid hlen
      clear m2 hlen
      go_wp2_with (at_builtin; refine wpList_append_own _ rfl _ _ 35 rfl w.heap.size 25 i0 (.agg #[.int .i64 0, .int .i64 0]) 2 16 Try.underlying35 hi hz0 hz1 hz2 rfl (by decide) _ _ _ rfl (HR.out.2.alloc _) ⟨wr.heap.size, 0, none⟩ 1 1 [.int .i64 p, .int .i64 D] rfl rfl ?c1 ?c2 ?c3 ?c4 ?c5 ?_)
      case c1 => exact cell_two_at _ _ _ _ _ (by first | rfl | simp)
      case c2 => simp [Value.oneCell']
      case c3 => unfold maxLen; omega
      case c4 => omega
      case c5 => first | omega | (simp; omega)
      intro v' w7 hown' hgrow _
      have HO := Lib.hid (Recs.snoc2 HLEN.out hown')
      have HW7 := Lib.hid (recs_belowC HB.out (Nat.le_refl _) HR.out _ hgrow)
      clear hown' hgrow
      go_wp2
      go_roundw
      case rel => exact ⟨k + 1, by omega, by go_num, by rw [HEV.out]; exact HO.out, HW7.out⟩
      case measure => simp [intOf]; omega
    · obtain rfl : c = k := by omega
      go_wp2
      go_ret2
      exact ⟨_, rfl, HR.out, HB.out⟩
theorem Recs.keepLt {w w1 w2 : World} {B C : Nat} {v : Value} {n : Nat} {F : List Int} (h : Recs w B v n F) (h1 : Recs w1 B v n F) (hb : Below C w1 w2) (hC : w.heap.size ≤ C) : Recs w2 B v n F := by
  obtain ⟨hF, hl, ⟨rfl, hn⟩ | ⟨g, cap, cur, rfl, hg, hh, hc, hm, hs, ht⟩⟩ := h
  · exact ⟨hF, hl, .inl ⟨rfl, hn⟩⟩
  · obtain ⟨hF1, hl1, ⟨h2, _⟩ | ⟨g1, cap1, cur1, hv, hg1, hh1, hc1, hm1, hs1, ht1⟩⟩ := h1
    · simp at h2
    · simp only [Value.slice.injEq, Option.some.injEq, Addr.mk.injEq, and_true] at hv
      obtain ⟨rfl, -, rfl⟩ := hv
      exact ⟨hF1, hl1, .inr ⟨g, cap, cur1, rfl, hg1, (hb.block g (by have := (Array.getElem?_eq_some_iff.1 hh).1; omega)).trans hh1, hc1, hm1, hs1, ht1⟩⟩

set_option maxHeartbeats 1000000 in
set_option maxRecDepth 100000 in
theorem walk_FnExactEvenPhases (p c : Int) (w : World) (_wp : (Lit.int .i64 p).wf = true) (_wc : (Lit.int .i64 c).wf = true) :
    Calls Try.prog 9 #[.int .i64 p, .int .i64 c] w fun e w' => e = .returned (.bool true) ∧ Below w.heap.size w w' := by
  obtain ⟨n, l, okb, hlen, hS, hI⟩ : ∃ (n : Nat) (l : List Int) (okb : Bool), n ≤ 1048576 ∧ (∀ w, Calls Try.prog 28 #[.int .i64 p, .int .i64 c] w fun e W' => ∃ v, e = .returned (.tuple #[v, .bool okb]) ∧ Recs W' w.heap.size v n l ∧ Below w.heap.size w W') ∧ (∀ w, Calls Try.prog 29 #[.int .i64 p, .int .i64 c] w fun e W' => ∃ v, e = .returned (.tuple #[v, .bool okb]) ∧ Recs W' w.heap.size v n l ∧ Below w.heap.size w W') := by
    by_cases h : 1 ≤ p ∧ p ≤ 100000
    · by_cases h2 : 1 ≤ c ∧ c ≤ 6
      · obtain ⟨m, rfl⟩ := Int.eq_ofNat_of_zero_le (show 0 ≤ c by omega)
        exact ⟨m, _, true, by omega, fun w => specEv_t p m w h ⟨by omega, by omega⟩, fun w => implEv_t p m w h ⟨by omega, by omega⟩⟩
      · exact ⟨0, [], false, by omega, fun w => specEv_g p c w h h2, fun w => implEv_g p c w h h2⟩
    · exact ⟨0, [], false, by omega, fun w => specEv_f p c w h, fun w => implEv_f p c w h⟩
  have HS := Lib.hid hS
  have HI := Lib.hid hI
  clear hS hI
  go_enter Try.func9, Try.ntmps9
  go_wp2_with fail
  refine (HS.out _).mono ?_; rintro e w1 ⟨v0, rfl, i0, b1⟩
  go_wp2_with fail
  refine (HI.out _).mono ?_; rintro e w2 ⟨v1, rfl, i1, b2⟩
  have HI0 := Lib.hid i0
  have HI1 := Lib.hid i1
  clear i0 i1
  go_wp2_with fail
  refine (eqClockS_same _ _ n v1 v0 l _ HI1.out (HI0.out.keep b2 (Nat.le_refl _))).mono ?_; rintro e wq ⟨rfl, bq⟩
  have HIq := Lib.hid (HI1.out.keep bq (Nat.le_refl _))
  have HI0q := Lib.hid ((HI0.out.keep b2 (Nat.le_refl _)).keep bq (Nat.le_refl _))
  go_wp2_with fail
  refine (markClockS_any _ n v1 l 1 wq HIq.out (by omega) (by omega)).mono ?_; rintro e w3 ⟨rfl, i3, b3, z3⟩
  have HI3 := Lib.hid i3
  have HZ := Lib.hid z3
  clear i3 z3
  go_wp2_with fail
  refine (heldClockS_any _ n v1 1 _ HI3.out (by omega) (by omega)).mono ?_; rintro e w' ⟨rfl, rfl⟩
  go_wp2_with fail
  refine (HI.out _).mono ?_; rintro e w4 ⟨v2, rfl, i4, b4⟩
  have HI4 := Lib.hid i4
  have hs2 := b2.size
  have hsq := bq.size
  have HI0' := Lib.hid ((Recs.keepLt HI0.out HI0q.out b3 (Nat.le_refl _)).keep b4 (Nat.le_refl _))
  have HI3' := Lib.hid (HI3.out.keep b4 (Nat.le_refl _))
  have hs1 := b1.size
  have hs3 := b3.size
  have HB4 := Lib.hid ((((b1.trans (b2.mono hs1)).trans (bq.mono (by omega))).trans (b3.mono hs1)).trans (b4.mono (by omega)))
  clear i4 b3
  go_wp2_with fail
  refine (eqClockS_same _ _ n v2 v0 l _ HI4.out HI0'.out).mono ?_; rintro e wz ⟨rfl, bz⟩
  have HI3z := Lib.hid (HI3'.out.keep bz (Nat.le_refl _))
  have HBZ := Lib.hid (HB4.out.trans (bz.mono HB4.out.size))
  go_wp2_with fail
  refine (heldClockS_any _ n v1 1 wz HI3z.out (by omega) (by omega)).mono ?_; rintro e w' ⟨rfl, rfl⟩
  go_wp2
  go_ret
  exact ⟨rfl, HBZ.out⟩
end Go.Proofs.Ytafecdmcbpnniaa
