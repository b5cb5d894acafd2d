/- slices.Concat of two rows: a row of the call's own (at loop.example/g01153/impl.pulse). -/
import Derived.Test.YtlobloaabghceaaWords
import Derived.Test.YtlobloaabghceaaPulI
import Derived.Lib.AppendZerosOnto
import Derived.Lib.SliceRun
import Derived.Lib.Walk
import Derived.Laws.AppendOwn
import Derived.OwnWalk
import Derived.Deep.Onto
import Derived.LoopTactic
namespace Go.Proofs.Ytlobloaabghceaa
open Go.RowKit
set_option linter.unusedVariables false
set_option linter.unusedSimpArgs false

theorem info_catP : (Try.prog.info? 48).map (fun i => (i.zero, i.size, i.bytes)) = some (some (.agg #[.int .i64 0, .int .i64 0, .bool false]), 3, 24) := by kernel_rfl
theorem run_append_nilP (w : World) (b : Option Addr) (n cap : Nat) (t ty e : TypeId) (i : TypeInfo) (ht : Try.prog.underlying t = some (.slice e)) (hi : Try.prog.info? e = some i) (hn : n ≤ cap) :
    (Builtin.append_ #[t, t] ty #[.slice b n cap, .slice none 0 0]).run Try.prog w = .ok (.slice b n cap) w := by
  cases b with
  | none =>
    have h := run_firstCells_none (P := Try.prog) w i.size 0 0 0
    simp [Builtin.append_, run_underlying ht, sizeOf, typeInfo, hi, Builtin.lenOf, hn, h]
  | some a =>
    have h := run_firstCells_none (P := Try.prog) w i.size 0 0 0
    have h2 : ∀ ad : Addr, (storeCells ad []).run Try.prog w = .ok () w := fun ad => rfl
    simp [Builtin.append_, run_underlying ht, sizeOf, typeInfo, hi, Builtin.lenOf, hn, h, h2]
set_option maxHeartbeats 4000000 in
set_option maxRecDepth 100000 in
theorem growP (n : Nat) (w : World) (hn : n ≤ 4000000) :
    Calls Try.prog 53 #[.slice none 0 0, .int .i64 (n : Int)] w fun e w' => ∃ v, e = .returned v ∧ w'.ownsRow w.heap.size 48 3 v 0 [] ∧ Below w.heap.size w w' := by
  obtain ⟨i0, hi, hz0, hz1, hz2⟩ := info_parts info_catP
  have h2 : IntKind.i64.wrap (n : Int) = n := IntWalk.i64_in _ (by omega)
  have h1 : ¬ ((n : Int) < 0) := by omega
  by_cases h0 : n = 0
  · subst h0
    go_enter Try.func53, Try.ntmps53
    go_wp2
    go_ret
    exact ⟨_, rfl, World.ownsRow_nil _ _ _ _, Below.refl _ _⟩
  · have h3 : (0 : Int) < (n : Int) := by omega
    have hrz : ∀ ty, (Builtin.append_ #[45, 3] ty #[.slice none 0 0, .int .i64 (n : Int)]).run Try.prog w =
        .ok (.slice (some ⟨w.heap.size, 0, none⟩) n (grownCap w n 0 48)) (w.drew.alloc (.cells (([] : List Value).toArray ++ Builtin.zeroCells (.agg #[.int .i64 0, .int .i64 0, .bool false] : Value).cells n ++ Builtin.zeroCells (.agg #[.int .i64 0, .int .i64 0, .bool false] : Value).cells (grownCap w n 0 48 - n)) 48)) := fun ty => by
      have hb : i0.bytes = 24 := hz2
      have h := Lib.run_append_grow_zeros w 45 3 ty 48 i0 (.agg #[.int .i64 0, .int .i64 0, .bool false]) .i64 .i64 Try.underlying45 Try.underlying3 hi hz0 none 0 0 [] (run_firstCells_none w.drew i0.size 0 0 0) n (by omega) (by rw [hz1]; decide) (by omega) (by omega)
        (by rw [hz2]; omega) (growslice_fits (by omega) (by rw [hz2]; omega))
      simp only [Nat.zero_add] at h
      exact h
    obtain ⟨G, hG⟩ : ∃ G, G = grownCap w n 0 48 := ⟨_, rfl⟩
    have hGn : n ≤ G := by rw [hG]; exact grownCap_ge w _ _ _
    have hGm : G ≤ maxLen := by rw [hG]; exact grownCap_le_maxLen w n 0 _ (by unfold maxLen; omega)
    have hG63 : G ≤ 9223372036854775807 := by unfold maxLen at hGm; omega
    rw [← hG] at hrz
    have HGM := Lib.hid (And.intro hGn hGm)
    clear hG hGm
    go_enter Try.func53, Try.ntmps53
    go_wp2_with (at_builtin; refine Lib.wpList_append_run _ rfl _ _ _ _ rfl _ _ rfl rfl _ _ (hrz _) ?_)
    go_ret
    refine ⟨_, rfl, ⟨by simp, .inr ⟨w.heap.size, G, _, rfl, Nat.le_refl _, heap_alloc_new w.drew _, Nat.zero_le _, HGM.out.2, ?_, by simp⟩⟩, ?_⟩
    · have e1 := HGM.out.1
      simp only [Array.size_append, size_zeroCells, List.size_toArray, List.length_nil]
      have e2 : n * 3 + (G - n) * 3 = G * 3 := by rw [← Nat.add_mul]; congr 1; omega
      first | simpa using e2 | (simp; omega)
    · exact ((Below.refl w.heap.size w).drew).alloc (Nat.le_refl _) _

/-- a slice whose elements stand in these cells -/
def CatVP (w : World) (v : Value) (n : Nat) (xs : List Value) : Prop := xs.length = n * 3 ∧ (∀ u ∈ xs, u.oneCell' = true) ∧ ((v = .slice none 0 0 ∧ n = 0) ∨ ∃ ad c, v = .slice (some ad) n c ∧ ∀ (j : Nat) (u : Value), xs[j]? = some u → w.cell? (ad.add j) = some u)
theorem CatVP.keep {w W : World} {v : Value} {n : Nat} {xs : List Value} (h : CatVP w v n xs) (hb : Below w.heap.size w W) : CatVP W v n xs := by
  obtain ⟨h1, h2, h3 | ⟨ad, c, h3, h4⟩⟩ := h
  · exact ⟨h1, h2, .inl h3⟩
  · exact ⟨h1, h2, .inr ⟨ad, c, h3, fun j u hj => (hb.cell (World.block_lt_of_cell? w _ (h4 j u hj))).trans (h4 j u hj)⟩⟩
theorem CatVP.own {w : World} {B n : Nat} {v : Value} {xs : List Value} (h : w.ownsRow B 48 3 v n xs) (h1 : ∀ u ∈ xs, u.oneCell' = true) : CatVP w v n xs := by
  refine ⟨h.1, h1, ?_⟩
  have h' := h
  rcases h.2 with ⟨rfl, rfl⟩ | ⟨g, cap, cur, rfl, -⟩
  · exact .inl ⟨rfl, rfl⟩
  · exact .inr ⟨⟨g, 0, none⟩, cap, rfl, fun j u hj => World.ownsRow.cells h' rfl j u hj⟩
theorem CatVP.form {w : World} {v : Value} {n : Nat} {xs : List Value} (h : CatVP w v n xs) : ∃ a c, v = .slice a n c := by
  obtain ⟨-, -, ⟨rfl, rfl⟩ | ⟨ad, c, rfl, -⟩⟩ := h
  · exact ⟨none, 0, rfl⟩
  · exact ⟨some ad, c, rfl⟩
theorem own_sliceP {w : World} {B n : Nat} {v : Value} {xs : List Value} (h : w.ownsRow B 48 3 v n xs) : ∃ a c, v = .slice a n c ∧ n ≤ c := by
  rcases h.2 with ⟨rfl, rfl⟩ | ⟨g, cap, cur, rfl, -, -, h1, -⟩
  · exact ⟨none, 0, rfl, Nat.le_refl _⟩
  · exact ⟨_, cap, rfl, h1⟩
theorem own_belowP {w wr w1 : World} {B n : Nat} {v : Value} {xs : List Value} (hB : Below B w wr) (hw : B ≤ w.heap.size) (h : wr.ownsRow B 48 3 v n xs) (hg : wr.grownBy w1 v.ownBlock) : Below B w w1 :=
  hB.grown hg (Nat.le_trans hw hB.size) (fun k e => (World.ownsRow.lt h k e).1)
set_option maxHeartbeats 8000000 in
set_option maxRecDepth 100000 in
theorem concatP (b n1 n2 : Nat) (v1 v2 : Value) (x1 x2 : List Value) (w : World) (hb : b < w.heap.size) (h0 : w.cell? ⟨b, 0, none⟩ = some v1) (h1 : w.cell? ⟨b, 1, none⟩ = some v2)
    (q1 : CatVP w v1 n1 x1) (q2 : CatVP w v2 n2 x2) (hn1 : n1 ≤ 1000000) (hn2 : n2 ≤ 1000000) :
    Calls Try.prog 26 #[.slice (some ⟨b, 0, none⟩) 2 2] w fun e w' => ∃ v, e = .returned v ∧ w'.ownsRow w.heap.size 48 3 v (n1 + n2) (x1 ++ x2) ∧ Below w.heap.size w w' := by
  obtain ⟨i0, hi, hz0, hz1, hz2⟩ := info_parts info_catP
  obtain ⟨a1, c1, e1⟩ := q1.form
  obtain ⟨a2, c2, e2⟩ := q2.form
  subst e1
  subst e2
  have Q1 := Lib.hid q1
  have Q2 := Lib.hid q2
  have C0 := Lib.hid h0
  have C1 := Lib.hid h1
  clear q1 q2
  have hs1 : IntKind.i64.wrap (n1 : Int) = n1 := IntWalk.i64_in _ (by omega)
  have hs2 : IntKind.i64.wrap ((n1 : Int) + (n2 : Int)) = (n1 : Int) + n2 := IntWalk.i64_in _ (by omega)
  have g1 : ¬ (n1 : Int) < 0 := by omega
  have g2 : ¬ ((n1 : Int) + (n2 : Int)) < 0 := by omega
  go_enter Try.func26, Try.ntmps26
  go_wp2
  go_loopw [3, 5, 11] (fun sz _ i wr => ∃ k : Nat, k ≤ 2 ∧ i = .int .i64 (k : Int) ∧ sz = .int .i64 (if k = 0 then 0 else if k = 1 then (n1 : Int) else (n1 : Int) + n2) ∧ w = wr) (fun _ _ i _ => 2 - (intOf i).toNat)
  case atStart => exact ⟨0, Nat.zero_le _, rfl, rfl, rfl⟩
  case round =>
    obtain ⟨k, hk, rfl, rfl, rfl⟩ := hrel
    obtain rfl | rfl | rfl : k = 0 ∨ k = 1 ∨ k = 2 := by omega
    · simp only [if_true]
      go_wp2
      go_roundw
      case rel => exact ⟨1, by omega, by go_num, rfl, by first | rfl | trivial⟩
      case measure => simp [intOf]
    · simp only [if_true, Nat.one_ne_zero, if_false]
      go_wp2
      go_roundw
      case rel => exact ⟨2, by omega, by go_num, rfl, by first | rfl | trivial⟩
      case measure => simp [intOf]
    · have e5 : ((if 2 = 0 then 0 else if 2 = 1 then (n1 : Int) else (n1 : Int) + n2) : Int) = ((n1 + n2 : Nat) : Int) := by simp
      rw [e5]
      clear hs2 g2
      obtain ⟨N, hN⟩ : ∃ N, n1 + n2 = N := ⟨_, rfl⟩
      have HN := Lib.hid hN
      rw [hN]
      have HG := Lib.hid (growP N w (by omega))
      clear hN
      clear e5
      go_wp2_with fail
      refine HG.out.mono ?_
      rintro e w2 ⟨v, rfl, hown, b2⟩
      have HO := Lib.hid hown
      have HB := Lib.hid b2
      clear hown b2
      go_wp2
      go_loopw [6, 8, 27] (fun v _ i wr => ∃ k : Nat, k ≤ 2 ∧ i = .int .i64 (k : Int) ∧ Hid (wr.ownsRow w.heap.size 48 3 v (if k = 0 then 0 else if k = 1 then n1 else N) (if k = 0 then [] else if k = 1 then x1 else x1 ++ x2)) ∧ Hid (Below w.heap.size w wr)) (fun _ _ i _ => 2 - (intOf i).toNat)
      case atStart => exact ⟨0, Nat.zero_le _, rfl, by simpa using HO, HB⟩
      case round =>
        obtain ⟨k, hk, rfl, HO2, HB2⟩ := hrel
        clear HO HB
        have d0 := (HB2.out.cell (p := ⟨b, 0, none⟩) hb).trans C0.out
        have d1 := (HB2.out.cell (p := ⟨b, 1, none⟩) hb).trans C1.out
        have hsw := HB2.out.size
        obtain rfl | rfl | rfl : k = 0 ∨ k = 1 ∨ k = 2 := by omega
        · simp only [if_true] at HO2
          have ho := HO2.out
          obtain ⟨av, cv, rfl, hcv⟩ := own_sliceP ho
          obtain ⟨l1, l2, ⟨l3, hz⟩ | ⟨ad, cc, l3, l4⟩⟩ := Q1.out.keep HB2.out
          · rw [l3] at d0
            have HZ := Lib.hid hz
            have hr := run_append_nilP wr av 0 cv 45
            have hx : x1 = [] := List.length_eq_zero_iff.1 (by omega)
            have HX := Lib.hid hx
            clear l1 l2 l3 hx ho hcv hz
            go_wp2_with (at_builtin; refine Lib.wpList_append_run _ rfl _ _ _ _ rfl _ _ rfl rfl _ _ (hr _ 48 i0 Try.underlying45 hi (Nat.zero_le _)) ?_)
            go_roundw
            case rel => exact ⟨1, by omega, by go_num, by simpa [HX.out, HZ.out] using HO2, HB2⟩
            case measure => simp [intOf]
          · obtain rfl : a1 = some ad := by simp only [Value.slice.injEq] at l3; exact l3.1
            have HL := Lib.hid (And.intro l1 (And.intro l2 l4))
            clear l1 l2 l3 l4 hcv
            go_wp2_with (at_builtin; refine wpList_append_own _ rfl _ _ 45 rfl w.heap.size 48 i0 (.agg #[.int .i64 0, .int .i64 0, .bool false]) 3 24 Try.underlying45 hi hz0 hz1 hz2 rfl (by decide) _ _ _ rfl ho ad n1 c1 x1 rfl HL.out.1 HL.out.2.2 HL.out.2.1 ?c1 ?c2 ?c3 ?_)
            case c1 => unfold maxLen; omega
            case c2 => omega
            case c3 => omega
            intro v' w7 hown' hgrow _
            have HO7 := Lib.hid hown'
            have HB7 := Lib.hid (own_belowP HB2.out (Nat.le_refl _) HO2.out hgrow)
            clear hown' hgrow ho
            go_wp2
            go_roundw
            case rel => exact ⟨1, by omega, by go_num, by simpa using HO7, HB7⟩
            case measure => simp [intOf]
        · simp only [if_true, Nat.one_ne_zero, if_false] at HO2
          have ho := HO2.out
          obtain ⟨av, cv, rfl, hcv⟩ := own_sliceP ho
          obtain ⟨l1, l2, ⟨l3, hz⟩ | ⟨ad, cc, l3, l4⟩⟩ := Q2.out.keep HB2.out
          · rw [l3] at d1
            have HZ := Lib.hid hz
            have hr := run_append_nilP wr av n1 cv 45
            have hx : x2 = [] := List.length_eq_zero_iff.1 (by omega)
            have HX := Lib.hid hx
            have HCV := Lib.hid hcv
            clear l1 l2 l3 hx ho hcv hz
            go_wp2_with (at_builtin; refine Lib.wpList_append_run _ rfl _ _ _ _ rfl _ _ rfl rfl _ _ (hr _ 48 i0 Try.underlying45 hi HCV.out) ?_)
            go_roundw
            case rel => exact ⟨2, by omega, by go_num, by have h9 := HN.out; rw [HZ.out, Nat.add_zero] at h9; simpa [HX.out, ← h9] using HO2, HB2⟩
            case measure => simp [intOf]
          · obtain rfl : a2 = some ad := by simp only [Value.slice.injEq] at l3; exact l3.1
            have HL := Lib.hid (And.intro l1 (And.intro l2 l4))
            clear l1 l2 l3 l4 hcv
            go_wp2_with (at_builtin; refine wpList_append_own _ rfl _ _ 45 rfl w.heap.size 48 i0 (.agg #[.int .i64 0, .int .i64 0, .bool false]) 3 24 Try.underlying45 hi hz0 hz1 hz2 rfl (by decide) _ _ _ rfl ho ad n2 c2 x2 rfl HL.out.1 HL.out.2.2 HL.out.2.1 ?c4 ?c5 ?c6 ?_)
            case c4 => unfold maxLen; omega
            case c5 => omega
            case c6 => omega
            intro v' w7 hown' hgrow _
            have HO7 := Lib.hid hown'
            have HB7 := Lib.hid (own_belowP HB2.out (Nat.le_refl _) HO2.out hgrow)
            clear hown' hgrow ho
            go_wp2
            go_roundw
            case rel => exact ⟨2, by omega, by go_num, by have h9 := HN.out; simpa [← h9] using HO7, HB7⟩
            case measure => simp [intOf]
        · simp only [show ¬ (2 = 0) by omega, show ¬ (2 = 1) by omega, if_false] at HO2
          go_wp2
          go_ret
          exact ⟨_, rfl, by rw [HN.out]; exact HO2.out, HB2.out⟩
end Go.Proofs.Ytlobloaabghceaa
