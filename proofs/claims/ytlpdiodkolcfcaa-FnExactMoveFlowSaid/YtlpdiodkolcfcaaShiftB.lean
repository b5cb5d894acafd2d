/- ShiftMoves on both sides. -/
import Derived.Test.YtlpdiodkolcfcaaMoves
import Derived.Test.YtlpdiodkolcfcaaKept
import Derived.OwnWalk
import Derived.Lib.SliceRun
namespace Go.Proofs.Ytlpdiodkolcfcaa
open Go.RowKit Go.Shelf
set_option linter.unusedVariables false
set_option linter.unusedSimpArgs false

theorem Ints.rowW {w W : World} {B n cap : Nat} {a : Option Addr} {l : List Int} (h : Ints w B (.slice a n cap) l) (hb : Below w.heap.size w W) : RowAt W a l := (h.keep hb (Nat.le_refl _)).row.1
theorem Ints.lowS {w : World} {B C : Nat} {v : Value} {l : List Int} (h : Ints w B v l) (hc : C ≤ B) : Ints w C v l := by
  rcases h with ⟨h1, ⟨rfl, hn⟩ | ⟨g, cap, cur, rfl, hg, rest⟩⟩
  · exact ⟨h1, .inl ⟨rfl, hn⟩⟩
  · exact ⟨h1, .inr ⟨g, cap, cur, rfl, by omega, rest⟩⟩
theorem ints_snocS {w1 : World} {B : Nat} {v : Value} {l : List Int} {x : Int} (h : w1.ownsRow B 2 1 v (l.length + 1) (l.map (Value.int .i64) ++ [.int .i64 x])) : Ints w1 B v (l ++ [x]) := by
  unfold Ints; rw [List.length_append, List.map_append]; exact h
theorem ints_belowS {w wr w1 : World} {v : Value} {l : List Int} (hB : Below w.heap.size w wr) (hbuf : Ints wr w.heap.size v l) (o : Obj) (hg : (wr.alloc o).grownBy w1 v.ownBlock) : Below w.heap.size w w1 :=
  (hB.alloc hB.size o).grown hg (by have := hB.size; simp; omega) (fun k e => (World.ownsRow.lt (World.ownsRow.alloc hbuf o) k e).1)
def addL (by_ : Int) (l : List Int) : List Int := l.map fun x => x + by_
theorem addL_len (b : Int) (l : List Int) : (addL b l).length = l.length := by simp [addL]
theorem addL_get (b : Int) (l : List Int) (k : Nat) (h : k < (addL b l).length) : (addL b l)[k] = l[k]'(by rw [addL_len] at h; exact h) + b := by simp [addL]
def shfB (l : List Int) (b : Int) : Bool := decide (1 ≤ l.length ∧ l.length ≤ 8) && (movB l && (decide (-40 ≤ b ∧ b ≤ 40) && movB (addL b l)))
def shfL (l : List Int) (b : Int) : List Int := if shfB l b = true then addL b l else []
theorem shfL_no {l : List Int} {b : Int} (h : shfB l b = false) : shfL l b = [] := by unfold shfL; rw [h]; rfl
theorem shfL_yes {l : List Int} {b : Int} (h : shfB l b = true) : shfL l b = addL b l := by unfold shfL; rw [h]; rfl
def ShfR (l : List Int) (b : Int) (w : World) (e : Ending) (w' : World) : Prop := ∃ v, e = .returned (.tuple #[v, .bool (shfB l b)]) ∧ Ints w' w.heap.size v (shfL l b) ∧ Below w.heap.size w w'
theorem ShfR.no {l : List Int} {b : Int} {w w' : World} (h : shfB l b = false) (hb : Below w.heap.size w w') : ShfR l b w (.returned (.tuple #[.slice none 0 0, .bool false])) w' :=
  ⟨_, by rw [h], by rw [shfL_no h]; exact Ints.nil _ _, hb⟩
theorem ShfR.yes {l : List Int} {b : Int} {w w' : World} {v : Value} (h : shfB l b = true) (hi : Ints w' w.heap.size v (addL b l)) (hb : Below w.heap.size w w') : ShfR l b w (.returned (.tuple #[v, .bool true])) w' :=
  ⟨v, by rw [h], by rw [shfL_yes h]; exact hi, hb⟩

set_option maxHeartbeats 4000000 in
set_option maxRecDepth 100000 in
theorem specShf (B : Nat) (a : Option Addr) (l : List Int) (n cap : Nat) (b : Int) (w : World) (hn : n = l.length) (h : Ints w B (.slice a n cap) l) (hl : n ≤ 1048576) :
    Calls Try.prog 11 #[.slice a n cap, .int .i64 b] w fun e w' => ShfR l b w e w' := by
  obtain ⟨i0, hi, hz0, hz1, hz2⟩ := info_parts info_i64
  have HI := Lib.hid h
  have HN := Lib.hid hn
  have hlen : l.length ≤ 1048576 := by omega
  have HM := Lib.hid (fun W (hb : Below w.heap.size w W) => l08Moves_any a l n cap n W hn (h.rowW hb) hlen hl)
  clear h
  by_cases h1 : 1 ≤ n ∧ n ≤ 8
  · have h11 : 1 ≤ (n : Int) := by omega
    have h12 : (n : Int) ≤ 8 := by omega
    have HD1 : Hid (decide (1 ≤ l.length ∧ l.length ≤ 8) = true) := decide_eq_true (by rw [← HN.out]; exact h1)
    have HM0 : Hid (Calls Try.prog 37 #[.int .i64 (n : Int), .slice a n cap] w fun e w' => e = .returned (.bool (movB l)) ∧ w = w') := (HM.out w (Below.refl _ _)).mono fun e w' h => ⟨by rw [h.1]; simp, h.2⟩
    cases hm : movB l with
    | false =>
      have HNO : Hid (shfB l b = false) := by unfold shfB; rw [hm]; simp [Hid]
      rw [hm] at HM0
      clear hm hn hlen
      go_enter Try.func11, Try.ntmps11
      go_wp2_with fail
      refine (l00In_t _ _ _ _ h11 h12).mono ?_; rintro e w' ⟨rfl, rfl⟩
      go_wp2_with fail
      refine HM0.out.mono ?_; rintro e w' ⟨rfl, rfl⟩
      go_wp2
      go_ret2
      exact ShfR.no HNO.out (Below.refl _ _)
    | true =>
      have HMV := Lib.hid hm
      rw [hm] at HM0
      clear hm
      by_cases hb : -40 ≤ b ∧ b ≤ 40
      · have HD2 : Hid (decide (-40 ≤ b ∧ b ≤ 40) = true) := decide_eq_true hb
        have hb1 := hb.1
        have hb2 := hb.2
        have HSH : Hid (shfB l b = movB (addL b l)) := by unfold shfB; rw [HD1.out, HMV.out, HD2.out]; rfl
        clear hb hlen hn
        go_enter Try.func11, Try.ntmps11
        go_wp2_with fail
        refine (l00In_t _ _ _ _ h11 h12).mono ?_; rintro e w' ⟨rfl, rfl⟩
        go_wp2_with fail
        refine HM0.out.mono ?_; rintro e w' ⟨rfl, rfl⟩
        go_wp2_with fail
        refine (l00In_t b (-40) 40 _ hb1 hb2).mono ?_; rintro e w' ⟨rfl, rfl⟩
        go_wp2
        have HI0 : Hid (Ints (w.alloc (.cells #[] 2)) w.heap.size (.slice (some ⟨w.heap.size, 0, none⟩) 0 0) []) := Ints.lit w
        have HB0 : Hid (Below w.heap.size w (w.alloc (.cells #[] 2))) := (Below.refl _ _).alloc (Nat.le_refl _) _
        go_loopw [6, 7] (fun v i wr => ∃ k : Nat, k ≤ n ∧ i = .int .i64 k ∧ Hid (Ints wr w.heap.size v (addL b (l.take k))) ∧ Hid (Below w.heap.size w wr)) (fun _ i _ => n - (intOf i).toNat)
        case atStart => exact ⟨0, Nat.zero_le _, rfl, by simpa [addL] using HI0, HB0⟩
        case round =>
          obtain ⟨k, hk, rfl, HBU, HBW⟩ := hrel
          clear HI0 HB0
          by_cases hlt : k < n
          · have hltz : (k : Int) < (n : Int) := by omega
            have hkl : k < l.length := by have := HN.out; omega
            obtain ⟨g, rfl, hc⟩ := HI.out.rowW HBW.out k hkl
            have hrng := mov_at HMV.out k hkl
            have HS : Hid (addL b (l.take (k + 1)) = addL b (l.take k) ++ [l[k] + b]) := by show _ = _; unfold addL; rw [List.take_succ_eq_append_getElem hkl, List.map_append]; rfl
            have HLN : Hid ((addL b (l.take k)).length = k) := by show _ = _; rw [addL_len, List.length_take]; omega
            obtain ⟨y, hy⟩ : ∃ y, l[k] = y := ⟨_, rfl⟩
            rw [hy] at hc hrng HS
            have hwr : IntKind.i64.wrap (y + b) = y + b := IntWalk.i64_in _ (by omega)
            have hszr := HBW.out.size
            clear hy hrng hkl
            go_wp2_with (at_builtin; refine wpList_append_own _ rfl _ _ 22 rfl w.heap.size 2 i0 (.int .i64 0) 1 8 Try.underlying22 hi hz0 hz1 hz2 rfl (by decide) _ _ _ rfl (HBU.out.alloc _) ⟨wr.heap.size, 0, none⟩ 1 1 [.int .i64 (y + b)] rfl rfl ?c1 ?c2 ?c3 ?c4 ?c5 ?_)
            case c1 => exact cell_one_new _ _ _
            case c2 => simp [Value.oneCell']
            case c3 => rw [HLN.out]; unfold maxLen; omega
            case c4 => rw [HLN.out]; omega
            case c5 => first | omega | (simp; omega)
            intro v' w7 hown' hgrow _
            have HO : Hid (Ints w7 w.heap.size v' (addL b (l.take k) ++ [y + b])) := ints_snocS hown'
            have HW7 := Lib.hid (ints_belowS HBW.out HBU.out _ hgrow)
            clear hown' hgrow
            go_wp2
            go_roundw
            case rel => exact ⟨k + 1, by omega, by go_num, by rw [HS.out]; exact HO, HW7⟩
            case measure => simp [intOf]; omega
          · have hltz : ¬ (k : Int) < (n : Int) := by omega
            obtain rfl : k = n := by omega
            have hbu := HBU.out
            rw [show l.take k = l by rw [HN.out]; exact List.take_length] at hbu
            have HBU2 := Lib.hid hbu
            obtain ⟨av, cv, rfl, hml, -⟩ := hbu.form
            have hal : (addL b l).length = k := by rw [addL_len, ← HN.out]
            have HAL := Lib.hid hal
            have HMO : Hid (Calls Try.prog 37 #[.int .i64 (k : Int), .slice av (addL b l).length cv] wr fun e w' => e = .returned (.bool (movB (addL b l))) ∧ wr = w') :=
              (l08Moves_any av (addL b l) _ cv k wr rfl hbu.row.1 (by omega) (by omega)).mono fun e w' h => ⟨by rw [h.1, hal]; simp, h.2⟩
            clear hbu hal HBU
            cases hmv : movB (addL b l) with
            | false =>
              rw [hmv] at HMO
              have HNO : Hid (shfB l b = false) := HSH.out.trans hmv
              clear hmv
              go_wp2_with fail
              refine HMO.out.mono ?_; rintro e w' ⟨rfl, rfl⟩
              go_wp2
              go_ret2
              exact ShfR.no HNO.out HBW.out
            | true =>
              rw [hmv] at HMO
              have HYE : Hid (shfB l b = true) := HSH.out.trans hmv
              clear hmv
              go_wp2_with fail
              refine HMO.out.mono ?_; rintro e w' ⟨rfl, rfl⟩
              go_wp2
              go_ret2
              exact ShfR.yes HYE.out HBU2.out HBW.out
      · have HNO : Hid (shfB l b = false) := by unfold shfB; rw [decide_eq_false hb]; simp [Hid]
        have hb2 : b < -40 ∨ 40 < b := by omega
        clear hb hn hlen
        go_enter Try.func11, Try.ntmps11
        go_wp2_with fail
        refine (l00In_t _ _ _ _ h11 h12).mono ?_; rintro e w' ⟨rfl, rfl⟩
        go_wp2_with fail
        refine HM0.out.mono ?_; rintro e w' ⟨rfl, rfl⟩
        go_wp2_with fail
        refine (l00In_f b (-40) 40 _ hb2).mono ?_; rintro e w' ⟨rfl, rfl⟩
        go_wp2
        go_ret2
        exact ShfR.no HNO.out (Below.refl _ _)
  · have HNO : Hid (shfB l b = false) := by unfold shfB; rw [decide_eq_false (by rw [← HN.out]; exact h1)]; rfl
    have h2 : (n : Int) < 1 ∨ 8 < (n : Int) := by omega
    clear h1 hn hlen
    go_enter Try.func11, Try.ntmps11
    go_wp2_with fail
    refine (l00In_f _ _ _ _ h2).mono ?_; rintro e w' ⟨rfl, rfl⟩
    go_wp2
    go_ret2
    exact ShfR.no HNO.out (Below.refl _ _)

theorem within_int_t (x lo hi : Int) (w : World) (h1 : lo ≤ x) (h2 : x ≤ hi) :
    Calls Try.prog 38 #[.int .i64 x, .int .i64 lo, .int .i64 hi] w fun e w' => e = .returned (.bool true) ∧ w = w' := by
  go_enter Try.func38, Try.ntmps38
  go_wp2
  go_ret
  exact ⟨by simp, rfl⟩
theorem within_int_f (x lo hi : Int) (w : World) (h : x < lo ∨ hi < x) :
    Calls Try.prog 38 #[.int .i64 x, .int .i64 lo, .int .i64 hi] w fun e w' => e = .returned (.bool false) ∧ w = w' := by
  by_cases h1 : lo ≤ x
  all_goals
    go_enter Try.func38, Try.ntmps38
    go_wp2
    go_ret
    exact ⟨by simp; try omega, rfl⟩
set_option maxRecDepth 100000 in
/-- slices.Clone of a row of the call's own that is there -/
theorem cloneInt (B : Nat) (g n cap : Nat) (l : List Int) (w : World) (h : Ints w B (.slice (some ⟨g, 0, none⟩) n cap) l) (hl : n ≤ 1048576) :
    Calls Try.prog 41 #[.slice (some ⟨g, 0, none⟩) n cap] w fun e w' => ∃ v, e = .returned v ∧ Ints w' w.heap.size v l ∧ Below w.heap.size w w' := by
  obtain ⟨i0, hi, hz0, hz1, hz2⟩ := info_parts info_i64
  have hm := h.row.2.2.2
  have hr := h.row.1
  have hnews : ∀ (j : Nat) (u : Value), (l.map (Value.int .i64))[j]? = some u → (w.alloc (.cells #[] 2)).cell? (Addr.add ⟨g, 0, none⟩ j) = some u := by
    intro j u h
    rw [List.getElem?_map] at h
    obtain ⟨x, hx, rfl⟩ := Option.map_eq_some_iff.1 h
    obtain ⟨hj, hx2⟩ := List.getElem?_eq_some_iff.1 hx
    obtain ⟨g', hg', hc⟩ := hr j hj
    simp only [Option.some.injEq, Addr.mk.injEq, and_true] at hg'
    subst hg'
    have e : Addr.add ⟨g, 0, none⟩ j = ⟨g, j, none⟩ := by unfold Addr.add; split <;> simp_all
    rw [e, ← hx2]
    exact cell_alloc_kept hc
  have HNEWS := Lib.hid hnews
  have HM := Lib.hid hm
  have q22 : ∀ (w : World) (a : Option Addr) (n c n' c' : Nat), (binOp .eql 22 (.slice a n c) (.slice none n' c')).run Try.prog w = .ok (.bool a.isNone) w := fun w a n c n' c' => Lib.run_eql_slice_nil w _ _ a n c n' c' Try.underlying22
  clear hnews hr h hm
  go_enter Try.func41, Try.ntmps41
  go_wp2_with (at_builtin; refine wpList_append_own _ rfl _ _ 22 rfl w.heap.size 2 i0 (.int .i64 0) 1 8 Try.underlying22 hi hz0 hz1 hz2 rfl (by decide) _ _ _ rfl (Ints.lit w) ⟨g, 0, none⟩ n cap (l.map (Value.int .i64)) rfl (by rw [List.length_map, HM.out, Nat.mul_one]) HNEWS.out (by intro u hu; obtain ⟨x, _, rfl⟩ := List.mem_map.1 hu; rfl) (by unfold maxLen; have := HM.out; simp; omega) (by have := HM.out; simp; omega) (by simp) ?_; intro v1 w1 hown1 hgrow1 _)
  go_wp2
  go_ret
  refine ⟨_, rfl, ?_, ?_⟩
  · unfold Ints; rw [← HM.out]; simpa using hown1
  · exact ((Below.refl _ _).alloc (Nat.le_refl _) _).grown hgrow1 (by simp) (fun j e => (World.ownsRow.lt (Ints.lit w) j e).1)
theorem shf_set (b : Int) (l : List Int) (k : Nat) (hk : k < l.length) : (addL b (l.take k) ++ l.drop k).set k (l[k] + b) = addL b (l.take (k + 1)) ++ l.drop (k + 1) := by
  have e1 : (addL b (l.take k)).length = k := by rw [addL_len, List.length_take]; omega
  rw [List.set_append, if_neg (by omega), e1, Nat.sub_self, List.drop_eq_getElem_cons hk, List.set_cons_zero]
  rw [List.take_succ_eq_append_getElem hk]
  unfold addL
  rw [List.map_append, List.append_assoc]
  rfl
theorem shf_get (b : Int) (l : List Int) (k : Nat) (hk : k < l.length) (h : k < (addL b (l.take k) ++ l.drop k).length) : (addL b (l.take k) ++ l.drop k)[k] = l[k] := by
  have e1 : (addL b (l.take k)).length = k := by rw [addL_len, List.length_take]; omega
  rw [List.getElem_append_right (by omega)]
  simp [e1]
theorem shf_len (b : Int) (l : List Int) (k : Nat) (hk : k ≤ l.length) : (addL b (l.take k) ++ l.drop k).length = l.length := by
  rw [List.length_append, addL_len, List.length_take, List.length_drop]; omega
set_option maxHeartbeats 4000000 in
set_option maxRecDepth 100000 in
theorem implShf (B : Nat) (a : Option Addr) (l : List Int) (n cap : Nat) (b : Int) (w : World) (hn : n = l.length) (h : Ints w B (.slice a n cap) l) (hl : n ≤ 1048576) :
    Calls Try.prog 13 #[.slice a n cap, .int .i64 b] w fun e w' => ShfR l b w e w' := by
  have HI := Lib.hid h
  have HN := Lib.hid hn
  have HM := Lib.hid (areMoves_any a l n cap w hn hl (fun W hb => h.rowW hb))
  clear h
  by_cases h1 : 1 ≤ n ∧ n ≤ 8
  · have h11 : 1 ≤ (n : Int) := by omega
    have h12 : (n : Int) ≤ 8 := by omega
    have HD1 : Hid (decide (1 ≤ l.length ∧ l.length ≤ 8) = true) := decide_eq_true (by rw [← HN.out]; exact h1)
    have hn1 : 1 ≤ n := h1.1
    clear h1
    cases hm : movB l with
    | false =>
      have HNO : Hid (shfB l b = false) := by unfold shfB; rw [hm]; simp [Hid]
      rw [hm] at HM
      clear hm hn
      go_enter Try.func13, Try.ntmps13
      go_wp2_with fail
      refine (within_int_t _ _ _ _ h11 h12).mono ?_; rintro e w' ⟨rfl, rfl⟩
      go_wp2_with fail
      refine HM.out.mono ?_; rintro e w1 ⟨rfl, b1⟩
      go_wp2
      go_ret2
      exact ShfR.no HNO.out b1
    | true =>
      have HMV := Lib.hid hm
      rw [hm] at HM
      clear hm
      by_cases hb : -40 ≤ b ∧ b ≤ 40
      · have HD2 : Hid (decide (-40 ≤ b ∧ b ≤ 40) = true) := decide_eq_true hb
        have hb1 := hb.1
        have hb2 := hb.2
        have HSH : Hid (shfB l b = movB (addL b l)) := by unfold shfB; rw [HD1.out, HMV.out, HD2.out]; rfl
        obtain ⟨g, hg⟩ : ∃ g, a = some ⟨g, 0, none⟩ := by
          obtain ⟨g, hg, -⟩ := HI.out.rowW (Below.refl _ _) 0 (by omega)
          exact ⟨g, hg⟩
        subst hg
        clear hb hn
        go_enter Try.func13, Try.ntmps13
        go_wp2_with fail
        refine (within_int_t _ _ _ _ h11 h12).mono ?_; rintro e w' ⟨rfl, rfl⟩
        go_wp2_with fail
        refine HM.out.mono ?_; rintro e w1 ⟨rfl, b1⟩
        have HB1 := Lib.hid b1
        go_wp2_with fail
        refine (within_i64_t b (-40) 40 _ hb1 hb2).mono ?_; rintro e w' ⟨rfl, rfl⟩
        go_wp2_with fail
        refine (cloneInt B g n cap l w1 (HI.out.keep b1 (Nat.le_refl _)) hl).mono ?_; rintro e w2 ⟨v, rfl, i2, b2⟩
        obtain ⟨av, cv, rfl, -, -⟩ := i2.form
        have HI2 : Hid (Ints w2 w1.heap.size (.slice av l.length cv) (addL b (l.take 0) ++ l.drop 0)) := Lib.hid (by simpa [addL] using i2)
        have HB2 := Lib.hid b2
        have HLN : Hid (l.length = n) := HN.out.symm
        rw [HLN.out] at HI2
        rw [HLN.out]
        clear i2 b1 b2
        go_wp2
        go_loopw [7, 26] (fun _ i wr => ∃ k : Nat, k ≤ n ∧ i = .int .i64 k ∧ Hid (Ints wr w1.heap.size (.slice av n cv) (addL b (l.take k) ++ l.drop k)) ∧ Hid (Below w1.heap.size w1 wr)) (fun _ i _ => n - (intOf i).toNat)
        case atStart => exact ⟨0, Nat.zero_le _, rfl, HI2, HB2⟩
        case round =>
          obtain ⟨k, hk, rfl, HBU, HBW⟩ := hrel
          clear HI2 HB2
          by_cases hlt : k < n
          · have hltz : (k : Int) < (n : Int) := by omega
            have hkl : k < l.length := by rw [HLN.out]; exact hlt
            have hll := shf_len b l k (by omega)
            obtain ⟨a', cap', hv, _, kk⟩ := HBU.out.form
            simp only [Value.slice.injEq] at hv
            obtain ⟨rfl, -, rfl⟩ := hv
            have hkl2 : k < (addL b (l.take k) ++ l.drop k).length := by rw [hll]; exact hkl
            obtain ⟨gg, hgg, hB, hgs, hcell, hfr⟩ := kk k hkl2
            subst hgg
            rw [shf_get b l k hkl hkl2] at hcell
            have hrng := mov_at HMV.out k hkl
            have hput := HBU.out.put k (l[k] + b)
            rw [shf_set b l k hkl] at hput
            obtain ⟨y, hy⟩ : ∃ y, l[k] = y := ⟨_, rfl⟩
            rw [hy] at hcell hrng hput
            have hwr : IntKind.i64.wrap (y + b) = y + b := IntWalk.i64_in _ (by omega)
            have HP := Lib.hid hput
            have HBP := Lib.hid (HBW.out.setCell (p := ⟨gg, k, none⟩) hB (.int .i64 (y + b)))
            clear hy hrng hput kk hll hB hgs HBU hkl2 hkl
            go_wp2
            go_roundw
            case rel => exact ⟨k + 1, by omega, by go_num, HP, HBP⟩
            case measure => simp [intOf]; omega
          · have hltz : ¬ (k : Int) < (n : Int) := by omega
            obtain rfl : k = n := by omega
            have hbu := HBU.out
            rw [show addL b (l.take k) ++ l.drop k = addL b l by rw [← HLN.out, List.take_length, List.drop_length, List.append_nil]] at hbu
            have HBU2 := Lib.hid hbu
            have HMO := Lib.hid (areMoves_any av (addL b l) k cv wr (by rw [addL_len]; exact HLN.out.symm) hl (fun W hb => hbu.rowW hb))
            have HBR := Lib.hid (HB1.out.trans (HBW.out.mono HB1.out.size))
            have hsz1 := HB1.out.size
            clear hbu HBU
            cases hmv : movB (addL b l) with
            | false =>
              rw [hmv] at HMO
              have HNO : Hid (shfB l b = false) := HSH.out.trans hmv
              clear hmv
              go_wp2_with fail
              refine HMO.out.mono ?_; rintro e w5 ⟨rfl, b5⟩
              go_wp2
              go_ret2
              exact ShfR.no HNO.out (HBR.out.trans (b5.mono HBR.out.size))
            | true =>
              rw [hmv] at HMO
              have HYE : Hid (shfB l b = true) := HSH.out.trans hmv
              clear hmv
              go_wp2_with fail
              refine HMO.out.mono ?_; rintro e w5 ⟨rfl, b5⟩
              go_wp2
              go_ret2
              exact ShfR.yes HYE.out ((HBU2.out.keep b5 (Nat.le_refl _)).lowS hsz1) (HBR.out.trans (b5.mono HBR.out.size))
      · have HNO : Hid (shfB l b = false) := by unfold shfB; rw [decide_eq_false hb]; simp [Hid]
        have hb2 : b < -40 ∨ 40 < b := by omega
        clear hb hn
        go_enter Try.func13, Try.ntmps13
        go_wp2_with fail
        refine (within_int_t _ _ _ _ h11 h12).mono ?_; rintro e w' ⟨rfl, rfl⟩
        go_wp2_with fail
        refine HM.out.mono ?_; rintro e w1 ⟨rfl, b1⟩
        go_wp2_with fail
        refine (within_i64_f b (-40) 40 _ hb2).mono ?_; rintro e w' ⟨rfl, rfl⟩
        go_wp2
        go_ret2
        exact ShfR.no HNO.out b1
  · have HNO : Hid (shfB l b = false) := by unfold shfB; rw [decide_eq_false (by rw [← HN.out]; exact h1)]; rfl
    have h2 : (n : Int) < 1 ∨ 8 < (n : Int) := by omega
    clear h1 hn
    go_enter Try.func13, Try.ntmps13
    go_wp2_with fail
    refine (within_int_f _ _ _ _ h2).mono ?_; rintro e w' ⟨rfl, rfl⟩
    go_wp2
    go_ret2
    exact ShfR.no HNO.out (Below.refl _ _)
end Go.Proofs.Ytlpdiodkolcfcaa
