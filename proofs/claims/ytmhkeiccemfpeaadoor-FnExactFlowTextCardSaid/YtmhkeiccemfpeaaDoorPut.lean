/- The model's l00Put: a number among others, once. What it holds, not in which order. -/
import Derived.Test.YtmhkeiccemfpeaaDoorHas
import Derived.OwnWalk
namespace Go.Proofs.YtmhkeiccemfpeaaDoor
open Go.RowKit
set_option linter.unusedVariables false
set_option linter.unusedSimpArgs false
theorem ints_snocP {w1 : World} {B : Nat} {v : Value} {l : List Int} {x : Int} (h : w1.ownsRow B 2 1 v (l.length + 1) (l.map (Value.int .i64) ++ [.int .i64 x])) : Ints w1 B v (l ++ [x]) := by
  unfold Ints; rw [List.length_append, List.map_append]; exact h
theorem ints_belowP {w wr w1 : World} {v : Value} {l : List Int} (hB : Below w.heap.size w wr) (hbuf : Ints wr w.heap.size v l) (o : Obj) (hg : (wr.alloc o).grownBy w1 v.ownBlock) : Below w.heap.size w w1 :=
  (hB.alloc hB.size o).grown hg (by have := hB.size; simp; omega) (fun k e => (World.ownsRow.lt (World.ownsRow.alloc hbuf o) k e).1)
/-- what is put so far -/
def PutL (l : List Int) (x : Int) (i : Nat) (d : Bool) (O : List Int) : Prop := (∀ z, z ∈ O ↔ z ∈ l.take i ∨ (d = true ∧ z = x)) ∧ O.length ≤ i + (if d then 1 else 0)
theorem PutL.step {l : List Int} {x : Int} {i : Nat} {d d' : Bool} {O O' : List Int} (h : PutL l x i d O) (hi : i < l.length) (hO : ∀ z, z ∈ O' ↔ z ∈ O ∨ (d' = true ∧ z = x)) (hl : O'.length ≤ i + (if d' then 1 else 0)) (hd : d = true → d' = true) : PutL l x (i + 1) d' (O' ++ [l[i]]) := by
  refine ⟨fun z => ?_, by rw [List.length_append, List.length_singleton]; omega⟩
  rw [List.mem_append, hO, h.1, List.take_succ_eq_append_getElem hi, List.mem_append, List.mem_singleton]
  constructor
  · rintro (((h1 | h1) | h1) | h1)
    · exact .inl (.inl h1)
    · exact .inr ⟨hd h1.1, h1.2⟩
    · exact .inr h1
    · exact .inl (.inr h1)
  · rintro ((h1 | h1) | h1)
    · exact .inl (.inl (.inl h1))
    · exact .inr h1
    · exact .inl (.inr h1)
/-- a step that finds the number itself -/
theorem PutL.same {l : List Int} {x : Int} {i : Nat} {O : List Int} (h : PutL l x i false O) (hi : i < l.length) (hx : l[i] = x) : PutL l x (i + 1) true (O ++ [l[i]]) := by
  refine ⟨fun z => ?_, by rw [List.length_append, List.length_singleton]; have := h.2; simp at this ⊢; omega⟩
  rw [List.mem_append, h.1, List.take_succ_eq_append_getElem hi, List.mem_append, List.mem_singleton]
  simp only [Bool.false_eq_true, false_and, or_false, true_and]
  constructor
  · rintro (h1 | h1)
    · exact .inl (.inl h1)
    · exact .inl (.inr h1)
  · rintro ((h1 | h1) | h1)
    · exact .inl h1
    · exact .inr h1
    · exact .inr (by rw [hx]; exact h1)
def PutR (l : List Int) (x : Int) (w : World) (e : Ending) (w' : World) : Prop := ∃ v l', e = .returned v ∧ Ints w' w.heap.size v l' ∧ (∀ z, z ∈ l' ↔ z ∈ l ∨ z = x) ∧ l'.length ≤ l.length + 1 ∧ Below w.heap.size w w'
set_option maxHeartbeats 4000000 in
set_option maxRecDepth 100000 in
theorem put_any (a : Option Addr) (l : List Int) (n cap : Nat) (x : Int) (w : World) (hn : n = l.length) (hl : n ≤ 1000) (hc : ∀ W, Below w.heap.size w W → RowAt W a l) :
    Calls Tryd.prog 35 #[.slice a n cap, .int .i64 x] w fun e w' => PutR l x w e w' := by
  obtain ⟨i0, hi, hz0, hz1, hz2⟩ := info_parts info_i64
  have HC := Lib.hid hc
  have HN := Lib.hid hn
  have HI0 : Hid (Ints (w.alloc (.cells #[] 2)) w.heap.size (.slice (some ⟨w.heap.size, 0, none⟩) 0 0) []) := Ints.lit w
  have HB0 : Hid (Below w.heap.size w (w.alloc (.cells #[] 2))) := (Below.refl _ _).alloc (Nat.le_refl _) _
  clear hc hn
  go_enter Tryd.func35, Tryd.ntmps35
  go_wp2
  go_loopw [5, 6, 7] (fun v d i wr => ∃ (k : Nat) (db : Bool) (O : List Int), k ≤ n ∧ i = .int .i64 k ∧ d = .bool db ∧ Hid (Ints wr w.heap.size v O) ∧ Hid (PutL l x k db O) ∧ Hid (Below w.heap.size w wr)) (fun _ _ i _ => n - (intOf i).toNat)
  case atStart => exact ⟨0, false, [], Nat.zero_le _, rfl, rfl, HI0, ⟨fun z => by simp, by simp⟩, HB0⟩
  case round =>
    obtain ⟨k, db, O, hk, rfl, rfl, HO, HP, HBW⟩ := hrel
    clear HI0 HB0
    have hpl := HP.out.2
    have hOl : O.length ≤ 1001 := by cases db <;> simp at hpl <;> omega
    clear hpl
    by_cases hlt : k < n
    · have hltz : (k : Int) < (n : Int) := by omega
      have hkl : k < l.length := by have := HN.out; omega
      obtain ⟨g, hg0, hcell⟩ := HC.out wr HBW.out k hkl
      subst hg0
      have HCE : Hid (∀ W, Below w.heap.size w W → W.cell? ⟨g, k, none⟩ = some (.int .i64 (l[k]'hkl))) := fun W hW => by
        obtain ⟨g', hg', h'⟩ := HC.out W hW k hkl
        simp only [Option.some.injEq, Addr.mk.injEq, and_true] at hg'
        subst hg'; exact h'
      have hKL := Lib.hid hkl
      have HS : Hid (∀ (d' : Bool) (O' : List Int), (∀ z, z ∈ O' ↔ z ∈ O ∨ (d' = true ∧ z = x)) → O'.length ≤ k + (if d' then 1 else 0) → (db = true → d' = true) → PutL l x (k + 1) d' (O' ++ [(l[k]'hkl)])) := fun d' O' h1 h2 h3 => HP.out.step hkl h1 h2 h3
      have HSA : Hid (db = false → (l[k]'hkl) = x → PutL l x (k + 1) true (O ++ [(l[k]'hkl)])) := fun h1 h2 => by subst h1; exact HP.out.same hkl h2
      obtain ⟨y, hy⟩ : ∃ y, l[k]'hkl = y := ⟨_, rfl⟩
      rw [hy] at hcell
      rw [hy] at HCE
      rw [hy] at HS
      rw [hy] at HSA
      have hszr := HBW.out.size
      clear hy hkl
      cases db with
      | true =>
        have HP1 := Lib.hid (HS.out true O (fun z => by rw [HP.out.1]; simp) (by have := HP.out.2; simpa using this) (fun h => h))
        go_wp2_with (at_builtin; refine wpList_append_own _ rfl _ _ 22 rfl w.heap.size 2 i0 (.int .i64 0) 1 8 Tryd.underlying22 hi hz0 hz1 hz2 rfl (by decide) _ _ _ rfl (HO.out.alloc _) ⟨wr.heap.size, 0, none⟩ 1 1 [.int .i64 y] rfl rfl (cell_one_new _ _ _) ?a2 ?a3 ?a4 ?a5 ?_)
        case a2 => simp [Value.oneCell']
        case a3 => unfold maxLen; omega
        case a4 => omega
        case a5 => first | omega | (simp; omega)
        intro v_A w7 hown_A hgrow_A _
        have HA : Hid (Ints w7 w.heap.size v_A (O ++ [y])) := ints_snocP hown_A
        have HW7 := Lib.hid (ints_belowP HBW.out HO.out _ hgrow_A)
        clear hown_A hgrow_A
        go_wp2
        go_roundw
        case rel => exact ⟨k + 1, true, _, by omega, by go_num, rfl, HA, HP1, HW7⟩
        case measure => simp [intOf]; omega
      | false =>
        by_cases hge : x ≤ y
        · have hge2 : y ≥ x := hge
          by_cases hgt : x < y
          · have hgt2 : y > x := hgt
            have HP1 := Lib.hid (HS.out true (O ++ [x]) (fun z => by rw [List.mem_append, List.mem_singleton]; simp) (by have := HP.out.2; simp at this ⊢; omega) (fun h => rfl))
            have hOx : (O ++ [x]).length ≤ 1002 := by simp; omega
            clear hge hgt
            go_wp2_with (at_builtin; refine wpList_append_own _ rfl _ _ 22 rfl w.heap.size 2 i0 (.int .i64 0) 1 8 Tryd.underlying22 hi hz0 hz1 hz2 rfl (by decide) _ _ _ rfl (HO.out.alloc _) ⟨wr.heap.size, 0, none⟩ 1 1 [.int .i64 x] rfl rfl (cell_one_new _ _ _) ?b2 ?b3 ?b4 ?b5 ?_)
            case b2 => simp [Value.oneCell']
            case b3 => unfold maxLen; omega
            case b4 => omega
            case b5 => first | omega | (simp; omega)
            intro v_A w7 hown_A hgrow_A _
            have HA : Hid (Ints w7 w.heap.size v_A (O ++ [x])) := ints_snocP hown_A
            have hb7 := ints_belowP HBW.out HO.out _ hgrow_A
            have HW7 := Lib.hid hb7
            clear hown_A hgrow_A hcell
            have hcell := HCE.out w7 hb7
            have hsz7 := hb7.size
            obtain ⟨O2, hO2⟩ : ∃ O2, O ++ [x] = O2 := ⟨_, rfl⟩
            rw [hO2] at HA HP1 hOx
            clear hb7 hO2
            go_wp2_with (at_builtin; refine wpList_append_own _ rfl _ _ 22 rfl w.heap.size 2 i0 (.int .i64 0) 1 8 Tryd.underlying22 hi hz0 hz1 hz2 rfl (by decide) _ _ _ rfl (HA.out.alloc _) ⟨w7.heap.size, 0, none⟩ 1 1 [.int .i64 y] rfl rfl (cell_one_new _ _ _) ?c2 ?c3 ?c4 ?c5 ?_)
            case c2 => simp [Value.oneCell']
            case c3 => unfold maxLen; omega
            case c4 => omega
            case c5 => first | omega | (simp; omega)
            intro v_B w8 hown_B hgrow_B _
            have HB : Hid (Ints w8 w.heap.size v_B (O2 ++ [y])) := ints_snocP hown_B
            have HW8 := Lib.hid (ints_belowP HW7.out HA.out _ hgrow_B)
            clear hown_B hgrow_B
            go_wp2
            go_roundw
            case rel => exact ⟨k + 1, true, _, by omega, by go_num, rfl, HB, HP1, HW8⟩
            case measure => simp [intOf]; omega
          · have hxy : y = x := by omega
            have hgt2 : ¬ y > x := hgt
            have HP1 := Lib.hid (HSA.out rfl hxy)
            clear hge hgt hxy
            go_wp2_with (at_builtin; refine wpList_append_own _ rfl _ _ 22 rfl w.heap.size 2 i0 (.int .i64 0) 1 8 Tryd.underlying22 hi hz0 hz1 hz2 rfl (by decide) _ _ _ rfl (HO.out.alloc _) ⟨wr.heap.size, 0, none⟩ 1 1 [.int .i64 y] rfl rfl (cell_one_new _ _ _) ?d2 ?d3 ?d4 ?d5 ?_)
            case d2 => simp [Value.oneCell']
            case d3 => unfold maxLen; omega
            case d4 => omega
            case d5 => first | omega | (simp; omega)
            intro v_A w7 hown_A hgrow_A _
            have HA : Hid (Ints w7 w.heap.size v_A (O ++ [y])) := ints_snocP hown_A
            have HW7 := Lib.hid (ints_belowP HBW.out HO.out _ hgrow_A)
            clear hown_A hgrow_A
            go_wp2
            go_roundw
            case rel => exact ⟨k + 1, true, _, by omega, by go_num, rfl, HA, HP1, HW7⟩
            case measure => simp [intOf]; omega
        · have hge2 : ¬ y ≥ x := hge
          have HP1 := Lib.hid (HS.out false O (fun z => by simp) (by have := HP.out.2; simpa using this) (fun h => h))
          clear hge
          go_wp2_with (at_builtin; refine wpList_append_own _ rfl _ _ 22 rfl w.heap.size 2 i0 (.int .i64 0) 1 8 Tryd.underlying22 hi hz0 hz1 hz2 rfl (by decide) _ _ _ rfl (HO.out.alloc _) ⟨wr.heap.size, 0, none⟩ 1 1 [.int .i64 y] rfl rfl (cell_one_new _ _ _) ?e2 ?e3 ?e4 ?e5 ?_)
          case e2 => simp [Value.oneCell']
          case e3 => unfold maxLen; omega
          case e4 => omega
          case e5 => first | omega | (simp; omega)
          intro v_A w7 hown_A hgrow_A _
          have HA : Hid (Ints w7 w.heap.size v_A (O ++ [y])) := ints_snocP hown_A
          have HW7 := Lib.hid (ints_belowP HBW.out HO.out _ hgrow_A)
          clear hown_A hgrow_A
          go_wp2
          go_roundw
          case rel => exact ⟨k + 1, false, _, by omega, by go_num, rfl, HA, HP1, HW7⟩
          case measure => simp [intOf]; omega
    · obtain rfl : k = n := by omega
      have hltz : ¬ (k : Int) < (k : Int) := by omega
      have HT : Hid (l.take k = l) := by rw [HN.out]; exact List.take_length
      have hszr := HBW.out.size
      cases db with
      | true =>
        go_wp2
        go_ret
        refine ⟨_, O, rfl, HO.out, fun z => by rw [HP.out.1, HT.out]; simp, by have h1 := HP.out.2; have h2 := HN.out; simp at h1; omega, HBW.out⟩
      | false =>
        go_wp2_with (at_builtin; refine wpList_append_own _ rfl _ _ 22 rfl w.heap.size 2 i0 (.int .i64 0) 1 8 Tryd.underlying22 hi hz0 hz1 hz2 rfl (by decide) _ _ _ rfl (HO.out.alloc _) ⟨wr.heap.size, 0, none⟩ 1 1 [.int .i64 x] rfl rfl (cell_one_new _ _ _) ?f2 ?f3 ?f4 ?f5 ?_)
        case f2 => simp [Value.oneCell']
        case f3 => unfold maxLen; omega
        case f4 => omega
        case f5 => first | omega | (simp; omega)
        intro v_A w7 hown_A hgrow_A _
        have HA : Hid (Ints w7 w.heap.size v_A (O ++ [x])) := ints_snocP hown_A
        have HW7 := Lib.hid (ints_belowP HBW.out HO.out _ hgrow_A)
        clear hown_A hgrow_A
        go_wp2
        go_ret
        refine ⟨_, O ++ [x], rfl, HA.out, fun z => by rw [List.mem_append, HP.out.1, HT.out]; simp, by have h1 := HP.out.2; have h2 := HN.out; simp at h1 ⊢; omega, HW7.out⟩
end Go.Proofs.YtmhkeiccemfpeaaDoor
