/- The order of a flow's vertices, each behind those to which wires without registers lead: the program's side. -/
import Derived.Test.YtmhkeiccemfpeaaDoorFlowI
import Derived.Deep.LoopGhost
namespace Go.Proofs.YtmhkeiccemfpeaaDoor
open Go.RowKit Go.Shelf
set_option linter.unusedVariables false
set_option linter.unusedSimpArgs false

def lstB (u : Int) (O : List Int) (x y z : Int) : Bool := decide (x = u) && (decide (z = 0) && !hasB O y)
theorem lst_iff (u : Int) (O : List Int) (F : List Int) (wn : Nat) : anyW (lstB u O) F wn = true ↔ ∃ y, Zw F wn u y ∧ y ∉ O := by
  unfold anyW
  rw [List.any_eq_true]
  constructor
  · rintro ⟨k, hk, h⟩
    unfold wK lstB at h
    simp only [Bool.and_eq_true, decide_eq_true_eq, Bool.not_eq_true'] at h
    exact ⟨_, ⟨k, List.mem_range.1 hk, h.1, rfl, h.2.1⟩, has_not h.2.2⟩
  · rintro ⟨y, ⟨k, hk, h1, h2, h3⟩, hn⟩
    refine ⟨k, List.mem_range.2 hk, ?_⟩
    unfold wK lstB
    rw [h1, h3, h2]
    have : hasB O y = false := by
      cases hh : hasB O y with
      | false => rfl
      | true => exact absurd ((has_mem O y).1 hh) hn
    simp [this]
set_option maxHeartbeats 2000000 in
set_option maxRecDepth 100000 in
theorem leadsCl (b4 b5 B : Nat) (u : Int) (oa : Option Addr) (oc : Nat) (O : List Int) (x y z : Int) (w : World) (h4 : w.cell? ⟨b4, 0, none⟩ = some (.int .i64 u)) (h5 : w.cell? ⟨b5, 0, none⟩ = some (.slice oa O.length oc)) (hO : Ints w B (.slice oa O.length oc) O) (hl : O.length ≤ 1000) :
    Calls Tryd.prog 49 #[.agg #[.int .i64 x, .int .i64 y, .int .i64 z], .pointer (some ⟨b4, 0, none⟩), .pointer (some ⟨b5, 0, none⟩)] w fun e w' => e = .returned (.bool (lstB u O x y z)) ∧ Below w.heap.size w w' := by
  obtain ⟨w0, hw0⟩ : ∃ w0, w.alloc (.cells #[.int .i64 x, .int .i64 y, .int .i64 z] 46) = w0 := ⟨_, rfl⟩
  have hb0 : Below w.heap.size w w0 := by rw [← hw0]; exact (Below.refl _ _).alloc (Nat.le_refl _) _
  have c4 := (hb0.cell (p := ⟨b4, 0, none⟩) (World.block_lt_of_cell? w _ h4)).trans h4
  have c5 := (hb0.cell (p := ⟨b5, 0, none⟩) (World.block_lt_of_cell? w _ h5)).trans h5
  have t0 : w0.cell? ⟨w.heap.size, 0, none⟩ = some (.int .i64 x) := by rw [← hw0]; simp [go_sem]
  have t1 : w0.cell? ⟨w.heap.size, 1, none⟩ = some (.int .i64 y) := by rw [← hw0]; simp [go_sem]
  have t2 : w0.cell? ⟨w.heap.size, 2, none⟩ = some (.int .i64 z) := by rw [← hw0]; simp [go_sem]
  have HC := Lib.hid (contains_any oa O O.length oc y w0 rfl (hO.keep hb0 (Nat.le_refl _)).row.1 (by unfold maxLen; omega))
  have HB0 := Lib.hid hb0
  clear h4 h5 hO hb0
  unfold lstB
  by_cases h1 : x = u
  · have e1 : (x == u) = true := by simp [h1]
    rw [decide_eq_true h1]
    by_cases h2 : z = 0
    · have e2 : (z == 0) = true := by simp [h2]
      rw [decide_eq_true h2]
      simp only [Bool.true_and]
      obtain ⟨hb, hh⟩ : ∃ b, hasB O y = b := ⟨_, rfl⟩
      rw [hh] at HC ⊢
      clear hh h1 h2
      go_enter Tryd.func49, Tryd.ntmps49
      go_wp2_with fail
      refine HC.out.mono ?_; rintro e w' ⟨rfl, rfl⟩
      clear hw0
      go_wp2
      go_ret
      exact ⟨rfl, HB0.out⟩
    · have e2 : (z == 0) = false := by simp [h2]
      rw [decide_eq_false h2]
      simp only [Bool.true_and, Bool.false_and]
      clear h1 h2
      go_enter Tryd.func49, Tryd.ntmps49
      go_wp2
      go_ret
      exact ⟨rfl, HB0.out⟩
  · have e1 : (x == u) = false := by simp [h1]
    rw [decide_eq_false h1]
    simp only [Bool.false_and]
    clear h1
    go_enter Tryd.func49, Tryd.ntmps49
    go_wp2
    go_ret
    exact ⟨rfl, HB0.out⟩
set_option maxHeartbeats 2000000 in
set_option maxRecDepth 100000 in
theorem leads_any (B B2 : Nat) (da : Option Addr) (dn dc : Nat) (wa : Option Addr) (wn wc : Nat) (F : List Int) (u : Int) (oa : Option Addr) (oc : Nat) (O : List Int) (w : World) (hf : Recs w B (.slice wa wn wc) wn F) (hwl : wn ≤ 1048576) (hO : Ints w B2 (.slice oa O.length oc) O) (hl : O.length ≤ 1000) :
    Calls Tryd.prog 42 #[.agg #[.slice da dn dc, .slice wa wn wc], .int .i64 u, .slice oa O.length oc] w fun e w' => e = .returned (.bool (anyW (lstB u O) F wn)) ∧ Below w.heap.size w w' := by
  obtain ⟨w0, hw0⟩ : ∃ w0, ((w.alloc (.cells #[.slice da dn dc, .slice wa wn wc] 31)).alloc (.cells #[.int .i64 u] 2)).alloc (.cells #[.slice oa O.length oc] 22) = w0 := ⟨_, rfl⟩
  have hb0 : Below w.heap.size w w0 := by rw [← hw0]; exact (((Below.refl _ _).alloc (Nat.le_refl _) _).alloc (by simp) _).alloc (by simp; omega) _
  have hs0 : w0.heap.size = w.heap.size + 1 + 1 + 1 := by rw [← hw0]; simp
  have c1 : w0.cell? ⟨w.heap.size, 1, none⟩ = some (.slice wa wn wc) := by rw [← hw0]; simp [go_sem]
  have c4 : w0.cell? ⟨w.heap.size + 1, 0, none⟩ = some (.int .i64 u) := by rw [← hw0]; simp [go_sem]
  have c5 : w0.cell? ⟨w.heap.size + 1 + 1, 0, none⟩ = some (.slice oa O.length oc) := by rw [← hw0]; simp [go_sem]
  have HCON := Lib.hid (conWire 49 #[] #[.pointer (some ⟨w.heap.size + 1, 0, none⟩), .pointer (some ⟨w.heap.size + 1 + 1, 0, none⟩)] (lstB u O) (enters_of Tryd.func49 (by kernel_rfl) rfl) B wa wn wc F w0
    (fun W x y z hb => (leadsCl (w.heap.size + 1) (w.heap.size + 1 + 1) B2 u oa oc O x y z W ((hb.cell (p := ⟨w.heap.size + 1, 0, none⟩) (by dsimp only; omega)).trans c4) ((hb.cell (p := ⟨w.heap.size + 1 + 1, 0, none⟩) (by dsimp only; omega)).trans c5) ((hO.keep hb0 (Nat.le_refl _)).keep hb (Nat.le_refl _)) hl).mono fun e w' h => ⟨h.1, hb.trans (h.2.mono hb.size)⟩)
    (by omega) (hf.keep hb0 (Nat.le_refl _)))
  have HB0 := Lib.hid hb0
  clear hf hO hb0 c4 c5 hs0
  go_enter Tryd.func42, Tryd.ntmps42
  go_wp2_with fail
  refine HCON.out.mono ?_; rintro e w1 ⟨rfl, b1⟩
  have HB1 := Lib.hid (HB0.out.trans (b1.mono HB0.out.size))
  clear hw0 b1 c1
  go_wp2
  go_ret
  exact ⟨rfl, HB1.out⟩
/-- the order that is told -/
def LastR (F : List Int) (wn dn : Nat) (w : World) (r : Ending) (w' : World) : Prop := Below w.heap.size w w' ∧ ∃ (v : Value) (O : List Int) (ok : Bool), r = .returned (.tuple #[v, .bool ok]) ∧ Ints w' w.heap.size v O ∧ (ok = true → Ord F wn dn O ∧ O.length = dn) ∧ (ok = false → ¬ AcycZ F wn dn ∧ O = [])
def OrdV (F : List Int) (wn dn : Nat) (w : World) (m : Nat) (ov : Value) (wr : World) : Prop := ∃ (O : List Int) (oa : Option Addr) (oc : Nat), ov = .slice oa O.length oc ∧ Ints wr w.heap.size (.slice oa O.length oc) O ∧ Ord F wn dn O ∧ O.length = m ∧ Below w.heap.size w wr
set_option maxHeartbeats 8000000 in
set_option maxRecDepth 100000 in
theorem lastFirst_any (B : Nat) (da : Option Addr) (dn dc : Nat) (ds : List Int) (wa : Option Addr) (wn wc : Nat) (F : List Int) (w : World) (hf : Fl w B da dn dc ds wa wn wc F) (hok : formB ds wn F = true) :
    Calls Tryd.prog 26 #[.agg #[.slice da dn dc, .slice wa wn wc]] w fun r w' => LastR F wn dn w r w' := by
  obtain ⟨i0, hi, hz0, hz1, hz2⟩ := info_parts info_i64
  obtain ⟨f1, f2, f3, -, f5⟩ := form_ok hok
  rw [← hf.n] at f1 f2 f5
  have HF5 : Hid (∀ k, k < wn → 0 ≤ F.getD (k * 3 + 1) 0 ∧ F.getD (k * 3 + 1) 0 < (dn : Int)) := fun k hk => by have := (f5 k hk).2.1; omega
  obtain ⟨w0, hw0⟩ : ∃ w0, w.alloc (.cells #[.slice da dn dc, .slice wa wn wc] 31) = w0 := ⟨_, rfl⟩
  have hb0 : Below w.heap.size w w0 := by rw [← hw0]; exact (Below.refl _ _).alloc (Nat.le_refl _) _
  have hs0 : w0.heap.size = w.heap.size + 1 := by rw [← hw0]; simp
  have HP : Hid (At2 w0 w.heap.size (.slice da dn dc) (.slice wa wn wc)) := by rw [← hw0]; exact At2.new w _ _ _
  have HF := Lib.hid (hf.keep hb0 (Nat.le_refl _))
  have HB0 := Lib.hid hb0
  obtain ⟨c0, c1, -, -⟩ := HP.out
  have HM0 : Hid (OrdV F wn dn w0 0 (.slice none 0 0) w0) := ⟨[], none, 0, rfl, Ints.nil _ _, Ord.start _ _ _, rfl, Below.refl _ _⟩
  clear hf f5 hb0 hok
  go_enter Tryd.func26, Tryd.ntmps26
  go_wp2
  go_step3
  go_wp2
  go_step3
  go_wp2
  clear hw0
  go_loopg [4, 5, 9] dn (fun gk ov _ i wr => ∃ m : Nat, gk = dn - m ∧ m ≤ dn ∧ i = .int .i64 (m : Int) ∧ Hid (OrdV F wn dn w0 m ov wr)) 
  case atStart => exact ⟨0, rfl, Nat.zero_le _, rfl, HM0⟩
  case round =>
    obtain ⟨m, hgk, hm, rfl, HM⟩ := hrel
    obtain ⟨wo, rfl⟩ : ∃ wo, wo = wr := ⟨_, rfl⟩
    obtain ⟨O, oa, oc, rfl, hI, hO, hl, hB⟩ := HM.out
    have HI := Lib.hid hI
    have HO := Lib.hid hO
    have HB := Lib.hid hB
    have HL := Lib.hid hl
    clear hI hO HM hl HM0 c0 c1
    obtain ⟨c0, c1, -, -⟩ := HP.out.below hB (by omega)
    clear hB
    by_cases hlt : m < dn
    · have hltz : (m : Int) < (dn : Int) := by omega
      have HW0 : Hid (Below wo.heap.size wo wo) := Below.refl _ _
      go_wp2
      clear hltz
      go_loopg [4, 5, 14] dn (fun gk ov _ i W => ∃ u : Nat, gk = dn - u ∧ u ≤ dn ∧ i = .int .i64 (u : Int) ∧ ov = .slice oa O.length oc ∧ Hid (Below wo.heap.size wo W) ∧ Hid (∀ v : Nat, v < u → (v : Int) ∈ O ∨ ∃ y, Zw F wn (v : Int) y ∧ y ∉ O))
      case atStart => exact ⟨0, rfl, Nat.zero_le _, rfl, rfl, HW0, fun v h => absurd h (Nat.not_lt_zero _)⟩
      case round =>
        obtain ⟨u, hgu, hu, rfl, rfl, HW, HA⟩ := hrel
        clear HW0 c0 c1
        have hb0W : Below w0.heap.size w0 wr := HB.out.trans (HW.out.mono HB.out.size)
        have HB0W := Lib.hid hb0W
        obtain ⟨c0, c1, -, -⟩ := HP.out.below hb0W (by omega)
        have HIW := Lib.hid (HI.out.keep HW.out (Nat.le_refl _))
        have hOl : O.length ≤ 8 := by have := HL.out; omega
        clear hb0W
        by_cases hltu : u < dn
        · have hltz : (u : Int) < (dn : Int) := by omega
          have HCN := Lib.hid (contains_any oa O O.length oc (u : Int) wr rfl HIW.out.row.1 (by unfold maxLen; omega))
          cases hh : hasB O (u : Int) with
          | true =>
            have HA2 : Hid (∀ v : Nat, v < u + 1 → (v : Int) ∈ O ∨ ∃ y, Zw F wn (v : Int) y ∧ y ∉ O) := fun v hv => by
              by_cases e : v = u
              · subst e; exact .inl ((has_mem O _).1 hh)
              · exact HA.out v (by omega)
            rw [hh] at HCN
            clear hh
            go_wp2_with fail
            refine HCN.out.mono ?_; rintro e w' ⟨rfl, rfl⟩
            go_wp2
            go_roundg (dn - (u + 1))
            case measure => omega
            case rel => exact ⟨u + 1, rfl, by omega, by go_num, rfl, HW, HA2⟩
          | false =>
            have HNOT := Lib.hid (has_not hh)
            have HLE := Lib.hid (leads_any B w0.heap.size da dn dc wa wn wc F (u : Int) oa oc O wr (HF.out.r.keep HB0W.out (Nat.le_refl _)) (by omega) HIW.out (by omega))
            rw [hh] at HCN
            clear hh
            cases hld : anyW (lstB (u : Int) O) F wn with
            | true =>
              have HA2 : Hid (∀ v : Nat, v < u + 1 → (v : Int) ∈ O ∨ ∃ y, Zw F wn (v : Int) y ∧ y ∉ O) := fun v hv => by
                by_cases e : v = u
                · subst e; exact .inr ((lst_iff _ _ _ _).1 hld)
                · exact HA.out v (by omega)
              rw [hld] at HLE
              clear hld
              go_wp2_with fail
              refine HCN.out.mono ?_; rintro e w' ⟨rfl, rfl⟩
              go_wp2_with fail
              refine HLE.out.mono ?_; rintro e W5 ⟨rfl, b5⟩
              have HW5 := Lib.hid (HW.out.trans (b5.mono HW.out.size))
              clear b5
              go_wp2
              go_roundg (dn - (u + 1))
              case measure => omega
              case rel => exact ⟨u + 1, rfl, by omega, by go_num, rfl, HW5, HA2⟩
            | false =>
              have HO2 : Hid (Ord F wn dn (O ++ [(u : Int)])) := HO.out.add (u : Int) (by omega) HNOT.out (fun y hz => by
                rcases Classical.em (y ∈ O) with hm2 | hm2
                · exact hm2
                · have := (lst_iff (u : Int) O F wn).2 ⟨y, hz, hm2⟩
                  rw [hld] at this; cases this)
              rw [hld] at HLE
              clear hld
              go_wp2_with fail
              refine HCN.out.mono ?_; rintro e w' ⟨rfl, rfl⟩
              go_wp2_with fail
              refine HLE.out.mono ?_; rintro e W5 ⟨rfl, b5⟩
              have HI5 := Lib.hid (HIW.out.keep b5 (Nat.le_refl _))
              have HB5 : Hid (Below w0.heap.size w0 W5) := HB0W.out.trans (b5.mono HB0W.out.size)
              have hsz5 := HB5.out.size
              clear b5
              go_wp2_with (at_builtin; refine wpList_append_own _ rfl _ _ 22 rfl w0.heap.size 2 i0 (.int .i64 0) 1 8 Tryd.underlying22 hi hz0 hz1 hz2 rfl (by decide) _ _ _ rfl (HI5.out.alloc _) ⟨W5.heap.size, 0, none⟩ 1 1 [.int .i64 (u : Int)] rfl rfl (cell_one_new _ _ _) ?d2 ?d3 ?d4 ?d5 ?_)
              case d2 => simp [Value.oneCell']
              case d3 => unfold maxLen; omega
              case d4 => omega
              case d5 => first | omega | (simp; omega)
              intro v7 w7 hown7 hgrow7 _
              have h7 : Ints w7 w0.heap.size v7 (O ++ [(u : Int)]) := ints_snocP (by rw [hs0]; exact hown7)
              have hb7 := ints_belowF HB5.out (Nat.le_refl _) HI5.out _ hgrow7
              obtain ⟨oa7, oc7, rfl, -, -⟩ := h7.form
              have HM7 : Hid (OrdV F wn dn w0 (m + 1) (.slice oa7 (O ++ [(u : Int)]).length oc7) w7) := ⟨_, oa7, oc7, rfl, h7, HO2.out, by rw [List.length_append, HL.out]; rfl, hb7⟩
              clear hown7 hgrow7 h7 hb7
              go_wp2
              go_roundg (dn - (m + 1))
              case measure => omega
              case rel => exact ⟨m + 1, rfl, by omega, by go_num, HM7⟩
        · obtain rfl : u = dn := by omega
          have hltz : ¬ (u : Int) < (u : Int) := by omega
          have HNO : Hid (¬ AcycZ F wn u) := ord_stuck HO.out (by rw [HL.out]; exact hlt) HF5.out HA.out
          go_wp2
          try rw [Exit.noGoto_ret]
          go_ret2
          exact ⟨HB0.out.trans (HB0W.out.mono HB0.out.size), _, [], false, rfl, Ints.nil _ _, fun h => (by cases h), fun _ => ⟨HNO.out, rfl⟩⟩
    · obtain rfl : m = dn := by omega
      have hltz : ¬ (m : Int) < (m : Int) := by omega
      have hz0 : w.heap.size ≤ w0.heap.size := by omega
      go_wp2
      try rw [Exit.noGoto_ret]
      go_ret2
      exact ⟨HB0.out.trans (HB.out.mono HB0.out.size), _, O, true, rfl, ints_low HI.out hz0, fun _ => ⟨HO.out, HL.out⟩, fun h => (by cases h)⟩
end Go.Proofs.YtmhkeiccemfpeaaDoor
