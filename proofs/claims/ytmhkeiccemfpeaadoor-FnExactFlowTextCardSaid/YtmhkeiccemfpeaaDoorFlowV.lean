/- Has a flow its form, and is it valid? The program's side. -/
import Derived.Test.YtmhkeiccemfpeaaDoorLast
namespace Go.Proofs.YtmhkeiccemfpeaaDoor
open Go.RowKit Go.Shelf
set_option linter.unusedVariables false
set_option linter.unusedSimpArgs false

theorem max_any (a : Option Addr) (l : List Int) (n cap : Nat) (w : World) (hn : n = l.length) (h1 : 1 ≤ n) (hl : n ≤ 1048576) (h : RowAt w a l) :
    Calls Tryd.prog 40 #[.slice a n cap] w fun e w' => (∃ m : Int, e = .returned (.int .i64 m) ∧ (∀ k (hk : k < l.length), l[k] ≤ m) ∧ ∃ k, ∃ hk : k < l.length, l[k] = m) ∧ w = w' := by
  have HH := Lib.hid h
  have HN := Lib.hid hn
  obtain ⟨g, rfl, hc0⟩ := h 0 (by omega)
  obtain ⟨y0, hy0⟩ : ∃ y, l[0]'(by omega) = y := ⟨_, rfl⟩
  rw [hy0] at hc0
  have HY0 : Hid (∃ hk : 0 < l.length, l[0] = y0) := ⟨by omega, hy0⟩
  have hltz : ¬ (n : Int) < 1 := by omega
  have hlp : 0 < n := h1
  clear h hn hy0
  go_enter Tryd.func40, Tryd.ntmps40
  go_wp2
  go_loop [3, 4] (fun m i => ∃ (k : Nat) (mv : Int), 1 ≤ k ∧ k ≤ n ∧ i = .int .i64 (k : Int) ∧ m = .int .i64 mv ∧ Hid ((∀ j (hj : j < l.length), j < k → l[j] ≤ mv) ∧ ∃ j, ∃ hj : j < l.length, l[j] = mv)) (fun _ i => n - (intOf i).toNat)
  case atStart =>
    refine ⟨1, y0, Nat.le_refl _, h1, rfl, rfl, fun j hj hj2 => ?_, ?_⟩
    · obtain rfl : j = 0 := by omega
      obtain ⟨_, h9⟩ := HY0.out
      rw [h9]; exact Int.le_refl _
    · obtain ⟨h8, h9⟩ := HY0.out
      exact ⟨0, h8, h9⟩
  case round =>
    obtain ⟨k, mv, hk1, hk, rfl, rfl, HA⟩ := hrel
    clear hc0
    by_cases hlt : k < n
    · have hltk : (k : Int) < (n : Int) := by omega
      have hkl : k < l.length := by have := HN.out; omega
      obtain ⟨g', hg', hc⟩ := HH.out k hkl
      simp only [Option.some.injEq, Addr.mk.injEq, and_true] at hg'
      subst hg'
      obtain ⟨y, hy⟩ : ∃ y, l[k]'hkl = y := ⟨_, rfl⟩
      rw [hy] at hc
      by_cases hym : mv < y
      · have HS : Hid ((∀ j (hj : j < l.length), j < k + 1 → l[j] ≤ y) ∧ ∃ j, ∃ hj : j < l.length, l[j] = y) := ⟨fun j hj h => by
          by_cases e : j = k
          · subst e; rw [hy]; exact Int.le_refl _
          · have := HA.out.1 j hj (by omega); omega, k, hkl, hy⟩
        clear hy hkl
        have hy1 : ¬ y < mv := by omega
        have hy2 : ¬ y ≤ mv := by omega
        have hy3 : mv ≤ y := by omega
        go_wp2
        go_round
        case rel => exact ⟨k + 1, y, by omega, by omega, by go_num, by first | rfl | (simp; omega), HS⟩
        case measure => simp [intOf]; omega
      · have HS : Hid ((∀ j (hj : j < l.length), j < k + 1 → l[j] ≤ mv) ∧ ∃ j, ∃ hj : j < l.length, l[j] = mv) := ⟨fun j hj h => by
          by_cases e : j = k
          · subst e; rw [hy]; omega
          · exact HA.out.1 j hj (by omega), HA.out.2⟩
        clear hy hkl
        have hy2 : y ≤ mv := by omega
        go_wp2
        go_round
        case rel => exact ⟨k + 1, mv, by omega, by omega, by go_num, by first | rfl | (simp; omega), HS⟩
        case measure => simp [intOf]; omega
    · have hltk : ¬ (k : Int) < (n : Int) := by omega
      go_wp2
      go_ret
      exact ⟨⟨mv, rfl, fun j hj => HA.out.1 j hj (by have := HN.out; omega), HA.out.2⟩, rfl⟩

theorem delays_min {ds : List Int} {m : Int} (h1 : ∀ k (hk : k < ds.length), m ≤ ds[k]) (h2 : ∃ k, ∃ hk : k < ds.length, ds[k] = m) : 0 ≤ m ↔ ∀ k (hk : k < ds.length), 0 ≤ ds[k] := by
  constructor
  · intro h k hk; have := h1 k hk; omega
  · intro h; obtain ⟨k, hk, e⟩ := h2; have := h k hk; omega
theorem delays_max {ds : List Int} {m : Int} (h1 : ∀ k (hk : k < ds.length), ds[k] ≤ m) (h2 : ∃ k, ∃ hk : k < ds.length, ds[k] = m) : m ≤ 100 ↔ ∀ k (hk : k < ds.length), ds[k] ≤ 100 := by
  constructor
  · intro h k hk; have := h1 k hk; omega
  · intro h; obtain ⟨k, hk, e⟩ := h2; have := h k hk; omega
set_option maxHeartbeats 4000000 in
set_option maxRecDepth 100000 in
theorem hasForm_any (B : Nat) (da : Option Addr) (dn dc : Nat) (ds : List Int) (wa : Option Addr) (wn wc : Nat) (F : List Int) (w : World) (hf : Fl w B da dn dc ds wa wn wc F) (hdl : dn ≤ 1048576) (hwl : wn ≤ 1048576) :
    Calls Tryd.prog 25 #[.agg #[.slice da dn dc, .slice wa wn wc]] w fun r w' => r = .returned (.bool (formB ds wn F)) ∧ Below w.heap.size w w' := by
  obtain ⟨w0, hw0⟩ : ∃ w0, w.alloc (.cells #[.slice da dn dc, .slice wa wn wc] 31) = w0 := ⟨_, rfl⟩
  have hb0 : Below w.heap.size w w0 := by rw [← hw0]; exact (Below.refl _ _).alloc (Nat.le_refl _) _
  have hlt0 : w.heap.size < w0.heap.size := by rw [← hw0]; simp
  have HP : Hid (At2 w0 w.heap.size (.slice da dn dc) (.slice wa wn wc)) := by rw [← hw0]; exact At2.new w _ _ _
  have HF := Lib.hid (hf.keep hb0 (Nat.le_refl _))
  have HB0 := Lib.hid hb0
  have HN := Lib.hid hf.n
  have HAS := Lib.hid (conWire 38 #[.agg #[.slice da dn dc, .slice wa wn wc]] #[] (astr dn) (enters_of Tryd.func38 (by kernel_rfl) rfl) B wa wn wc F w0
    (fun W x y z hb => (isAstray_any da dn dc wa wn wc x y z W hdl).mono fun e w' h => ⟨h.1, hb.trans (h.2.mono hb.size)⟩) (by omega) HF.out.r)
  obtain ⟨c0, c1, -, -⟩ := HP.out
  clear hf hb0
  by_cases h1 : 1 ≤ dn ∧ dn ≤ 8
  · have h11 : 1 ≤ (dn : Int) := by omega
    have h12 : (dn : Int) ≤ 8 := by omega
    have hd1 : 1 ≤ dn := h1.1
    have H1 : Hid (1 ≤ ds.length ∧ ds.length ≤ 8) := by have := HN.out; show _ ∧ _; omega
    by_cases h2 : wn ≤ 16
    · have h21 : ¬ (wn : Int) > 16 := by omega
      have H2 := Lib.hid h2
      clear h1 h2
      obtain ⟨ast, has⟩ : ∃ ast, anyW (astr dn) F wn = ast := ⟨_, rfl⟩
      have HASE : Hid ((List.range wn).all (flK (ds.length : Int) F) = !ast) := by show _ = _; rw [← has, astr_any, HN.out, Bool.not_not]
      rw [has] at HAS
      clear has
      cases ast with
      | true =>
        have HNO : Hid (formB ds wn F = false) := by unfold formB; rw [HASE.out]; simp [Hid]
        go_enter Tryd.func25, Tryd.ntmps25
        go_wp2_with fail
        refine (within_int_t _ _ _ _ h11 h12).mono ?_; rintro e w' ⟨rfl, rfl⟩
        go_wp2_with fail
        refine HAS.out.mono ?_; rintro e w1 ⟨rfl, b1⟩
        have HB1 := Lib.hid (HB0.out.trans (b1.mono HB0.out.size))
        clear b1 hw0
        go_wp2
        go_ret
        exact ⟨ret_bool HNO.out.symm, HB1.out⟩
      | false =>
        have HWK : Hid (∀ k, k < wn → flK (ds.length : Int) F k = true) := fun k hk => List.all_eq_true.1 HASE.out k (List.mem_range.2 hk)
        go_enter Tryd.func25, Tryd.ntmps25
        go_wp2_with fail
        refine (within_int_t _ _ _ _ h11 h12).mono ?_; rintro e w' ⟨rfl, rfl⟩
        go_wp2_with fail
        refine HAS.out.mono ?_; rintro e w1 ⟨rfl, b1⟩
        have HB1 := Lib.hid (HB0.out.trans (b1.mono HB0.out.size))
        have hf1 := HF.out.keep b1 (Nat.le_refl _)
        clear c0 c1
        obtain ⟨c0, c1, -, -⟩ := HP.out.below b1 hlt0
        have HMN := Lib.hid (min_any da ds dn dc w1 HN.out hd1 hdl hf1.d.row.1)
        have HMX := Lib.hid (max_any da ds dn dc w1 HN.out hd1 hdl hf1.d.row.1)
        clear b1 hw0 hf1
        go_wp2_with fail
        refine HMN.out.mono ?_; rintro e w' ⟨⟨mn, rfl, m1, m2⟩, rfl⟩
        have HM := Lib.hid (delays_min m1 m2)
        clear m1 m2
        by_cases hmn : 0 ≤ mn
        · have hmn2 : mn ≥ 0 := hmn
          have HA1 := Lib.hid (HM.out.1 hmn)
          clear hmn
          go_wp2_with fail
          refine HMX.out.mono ?_; rintro e w' ⟨⟨mx, rfl, m1, m2⟩, rfl⟩
          have HX := Lib.hid (delays_max m1 m2)
          clear m1 m2
          by_cases hmx : mx ≤ 100
          · have HYE := Lib.hid (form_yes H1.out H2.out (fun k hk => ⟨HA1.out k hk, HX.out.1 hmx k hk⟩) HWK.out)
            go_wp2
            go_ret
            exact ⟨ret_bool (by first | (rw [HYE.out]; simp [hmx]; done) | rw [HYE.out]), HB1.out⟩
          · have HNO : Hid (formB ds wn F = false) := by
              cases hfm : formB ds wn F with
              | false => rfl
              | true => exact absurd (HX.out.2 fun k hk => ((form_ok hfm).2.2.2.1 k hk).2) hmx
            go_wp2
            go_ret
            exact ⟨ret_bool (by first | (rw [HNO.out]; simp [hmx]; done) | rw [HNO.out]), HB1.out⟩
        · have hmn2 : ¬ mn ≥ 0 := hmn
          have HNO : Hid (formB ds wn F = false) := by
            cases hfm : formB ds wn F with
            | false => rfl
            | true => exact absurd (HM.out.2 fun k hk => ((form_ok hfm).2.2.2.1 k hk).1) hmn
          clear hmn
          go_wp2
          go_ret
          exact ⟨ret_bool HNO.out.symm, HB1.out⟩
    · have h21 : (wn : Int) > 16 := by omega
      have HV := Lib.hid (form_wires (ds := ds) (F := F) h2)
      clear h1 h2
      go_enter Tryd.func25, Tryd.ntmps25
      go_wp2_with fail
      refine (within_int_t _ _ _ _ h11 h12).mono ?_; rintro e w' ⟨rfl, rfl⟩
      go_wp2
      go_ret
      exact ⟨ret_bool HV.out.symm, HB0.out⟩
  · have HV := Lib.hid (form_len (nw := wn) (F := F) (by rw [← HN.out]; exact h1))
    have h2 : (dn : Int) < 1 ∨ 8 < (dn : Int) := by omega
    clear h1
    go_enter Tryd.func25, Tryd.ntmps25
    go_wp2_with fail
    refine (within_int_f _ _ _ _ h2).mono ?_; rintro e w' ⟨rfl, rfl⟩
    go_wp2
    go_ret
    exact ⟨ret_bool HV.out.symm, HB0.out⟩
set_option maxHeartbeats 2000000 in
set_option maxRecDepth 100000 in
theorem implValid (B : Nat) (da : Option Addr) (dn dc : Nat) (ds : List Int) (wa : Option Addr) (wn wc : Nat) (F : List Int) (w : World) (hf : Fl w B da dn dc ds wa wn wc F) (hdl : dn ≤ 1048576) (hwl : wn ≤ 1048576) :
    Calls Tryd.prog 15 #[.agg #[.slice da dn dc, .slice wa wn wc]] w fun r w' => FlR ds wn F w r w' := by
  obtain ⟨w0, hw0⟩ : ∃ w0, w.alloc (.cells #[.slice da dn dc, .slice wa wn wc] 31) = w0 := ⟨_, rfl⟩
  have hb0 : Below w.heap.size w w0 := by rw [← hw0]; exact (Below.refl _ _).alloc (Nat.le_refl _) _
  have hlt0 : w.heap.size < w0.heap.size := by rw [← hw0]; simp
  have HP : Hid (At2 w0 w.heap.size (.slice da dn dc) (.slice wa wn wc)) := by rw [← hw0]; exact At2.new w _ _ _
  have HF := Lib.hid (hf.keep hb0 (Nat.le_refl _))
  have HB0 := Lib.hid hb0
  have HN := Lib.hid hf.n
  have HFM := Lib.hid (hasForm_any B da dn dc ds wa wn wc F w0 HF.out hdl hwl)
  obtain ⟨c0, c1, -, -⟩ := HP.out
  clear hf hb0
  cases hfm : formB ds wn F with
  | false =>
    have HNO : Hid (¬ FlowOk ds wn F) := fun h => by rw [h.1] at hfm; cases hfm
    rw [hfm] at HFM
    clear hfm
    go_enter Tryd.func15, Tryd.ntmps15
    go_wp2_with fail
    refine HFM.out.mono ?_; rintro r w1 ⟨rfl, b1⟩
    have HB1 := Lib.hid (HB0.out.trans (b1.mono HB0.out.size))
    clear b1 hw0
    go_wp2
    go_ret
    exact ⟨HB1.out, false, rfl, ⟨fun h => (by cases h), fun h => absurd h HNO.out⟩⟩
  | true =>
    rw [hfm] at HFM
    have HFT := Lib.hid hfm
    clear hfm
    go_enter Tryd.func15, Tryd.ntmps15
    go_wp2_with fail
    refine HFM.out.mono ?_; rintro r w1 ⟨rfl, b1⟩
    have HB1 := Lib.hid (HB0.out.trans (b1.mono HB0.out.size))
    have HL := Lib.hid (lastFirst_any B da dn dc ds wa wn wc F w1 (HF.out.keep b1 (Nat.le_refl _)) HFT.out)
    clear c0 c1
    obtain ⟨c0, c1, -, -⟩ := HP.out.below b1 hlt0
    clear b1 hw0
    go_wp2_with fail
    refine HL.out.mono ?_; rintro r w2 ⟨b2, v, O, ok, rfl, -, hy, hn⟩
    have HB2 := Lib.hid (HB1.out.trans (b2.mono HB1.out.size))
    have HY : Hid (ok = true ↔ FlowOk ds wn F) := ⟨fun h => ⟨HFT.out, by rw [← HN.out]; exact (hy h).1.acyc (hy h).2⟩, fun h => by
      cases ok with
      | true => rfl
      | false => exact absurd (by rw [HN.out]; exact h.2) (hn rfl).1⟩
    clear b2 hy hn
    go_wp2
    go_ret
    exact ⟨HB2.out, ok, rfl, HY.out⟩
end Go.Proofs.YtmhkeiccemfpeaaDoor
