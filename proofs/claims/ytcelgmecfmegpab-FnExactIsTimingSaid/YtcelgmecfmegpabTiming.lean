/- Does a list of times keep a diagram, on both sides. -/
import Derived.Test.YtcelgmecfmegpabDiaIs
namespace Go.Proofs.Ytcelgmecfmegpab
open Go.RowKit
set_option linter.unusedVariables false

def tokK (T : List Int) (k : Nat) : Bool := decide (-1000000 ≤ T.getD k 0 ∧ T.getD k 0 ≤ 1000000)
def kepK (F T : List Int) (k : Nat) : Bool := decide (T.getD (F.getD (k * 3 + 1) 0).toNat 0 - T.getD (F.getD (k * 3) 0).toNat 0 ≤ F.getD (k * 3 + 2) 0)
def timB (e : Int) (n : Nat) (F T : List Int) : Bool := diaB e n F && decide ((T.length : Int) = e) && (List.range T.length).all (tokK T) && (List.range n).all (kepK F T)
theorem timB_dia {e : Int} {n : Nat} {F T : List Int} (h : diaB e n F = false) : timB e n F T = false := by unfold timB; rw [h]; rfl
theorem timB_len {e : Int} {n : Nat} {F T : List Int} (h : ¬ (T.length : Int) = e) : timB e n F T = false := by unfold timB; rw [decide_eq_false h]; simp
theorem timB_tok {e : Int} {n : Nat} {F T : List Int} (h : (List.range T.length).all (tokK T) = false) : timB e n F T = false := by unfold timB; rw [h]; simp
theorem timB_kep {e : Int} {n : Nat} {F T : List Int} (h1 : diaB e n F = true) (h2 : (T.length : Int) = e) (h3 : (List.range T.length).all (tokK T) = true) : timB e n F T = (List.range n).all (kepK F T) := by unfold timB; rw [h1, decide_eq_true h2, h3]; rfl
theorem diaB_ok {e : Int} {n : Nat} {F : List Int} (h : diaB e n F = true) : 1 ≤ e ∧ e ≤ 10 ∧ n ≤ 24 ∧ ∀ k, k < n → BOk e (F.getD (k * 3) 0) (F.getD (k * 3 + 1) 0) (F.getD (k * 3 + 2) 0) := by
  unfold diaB at h
  simp only [Bool.and_eq_true, decide_eq_true_eq] at h
  exact ⟨h.1.1.1, h.1.1.2, h.1.2, fun k hk => by have := List.all_eq_true.1 h.2 k (List.mem_range.2 hk); unfold bokK at this; simpa using this⟩
theorem getD_of {T : List Int} {k : Nat} (hk : k < T.length) : T[k] = T.getD k 0 := by rw [List.getD_eq_getElem?_getD, List.getElem?_eq_getElem hk]; rfl
/-- a number of a row of the call's own -/
theorem Ints.at {w : World} {B n cap : Nat} {a : Option Addr} {T : List Int} (h : Ints w B (.slice a n cap) T) (k : Nat) (hk : k < T.length) : ∃ g, a = some ⟨g, 0, none⟩ ∧ w.cell? ⟨g, k, none⟩ = some (.int .i64 (T.getD k 0)) := by
  obtain ⟨a', cap', hv, _, kk⟩ := h.form
  simp only [Value.slice.injEq] at hv
  obtain ⟨rfl, -, rfl⟩ := hv
  obtain ⟨g, h1, -, -, h2, -⟩ := kk k hk
  exact ⟨g, h1, by rw [h2, getD_of hk]⟩

set_option maxHeartbeats 4000000 in
set_option maxRecDepth 100000 in
theorem implTiming (B C : Nat) (e : Int) (a b : Option Addr) (n cap c2 : Nat) (F T : List Int) (w : World) (hr : Recs w B (.slice a n cap) n F) (ht : Ints w C (.slice b T.length c2) T) (hl : n ≤ 1048576) (hl2 : T.length ≤ 1048576) :
    Calls Try.prog 18 #[.agg #[.int .i64 e, .slice a n cap], .slice b T.length c2] w fun r w' => r = .returned (.bool (timB e n F T)) ∧ Below w.heap.size w w' := by
  have hb0 : Below w.heap.size w (w.alloc (.cells #[.int .i64 e, .slice a n cap] 29)) := (Below.refl _ _).alloc (Nat.le_refl _) _
  have HP := Lib.hid (At2.new w (.int .i64 e) (.slice a n cap) 29)
  have HR := Lib.hid (hr.keep hb0 (Nat.le_refl _))
  have HT := Lib.hid (ht.keep hb0 (Nat.le_refl _))
  clear hr ht
  cases hd : diaB e n F with
  | false =>
    rw [timB_dia hd]
    have HD := Lib.hid hd
    clear hd
    go_enter Try.func18, Try.ntmps18
    go_wp2_with fail
    refine ((implDiaIs B e a n cap F _ HR.out hl).mono (R' := fun r w' => r = .returned (.bool false) ∧ Below (w.alloc (.cells #[.int .i64 e, .slice a n cap] 29)).heap.size (w.alloc (.cells #[.int .i64 e, .slice a n cap] 29)) w') (fun r w' h => by rw [HD.out] at h; exact h)).mono ?_
    rintro r w1 ⟨rfl, b1⟩
    go_wp2
    go_ret
    exact ⟨rfl, hb0.trans (b1.mono (by simp))⟩
  | true =>
    obtain ⟨h1, h2, hn, hok⟩ := diaB_ok hd
    have HD := Lib.hid hd
    have HOK := Lib.hid hok
    clear hok
    by_cases hlen : (T.length : Int) = e
    · have hne : ((T.length : Int) != e) = false := by simp [hlen]
      have HLEN := Lib.hid hlen
      have hTL : T.length ≤ 10 := by omega
      clear hlen hd
      go_enter Try.func18, Try.ntmps18
      go_wp2_with fail
      refine ((implDiaIs B e a n cap F _ HR.out hl).mono (R' := fun r w' => r = .returned (.bool true) ∧ Below (w.alloc (.cells #[.int .i64 e, .slice a n cap] 29)).heap.size (w.alloc (.cells #[.int .i64 e, .slice a n cap] 29)) w') (fun r w' h => by rw [HD.out] at h; exact h)).mono ?_
      rintro r w1 ⟨rfl, b1⟩
      have s1 := b1.size
      simp only [World.size_alloc] at s1
      have hp1 := HP.out.below b1 (by simp)
      have hp1l := hp1.lt
      have HR1 := Lib.hid (HR.out.keep b1 (Nat.le_refl _))
      have HT1 := Lib.hid (HT.out.keep b1 (Nat.le_refl _))
      have HP1 := Lib.hid hp1
      have hb1 : Below w.heap.size w w1 := hb0.trans (b1.mono (by simp))
      have HB1 := Lib.hid hb1
      obtain ⟨d0, d1, _, _⟩ := hp1
      clear b1 hb1
      go_wp2
      go_loopw [6, 21] (fun _ i wr => ∃ k : Nat, k ≤ T.length ∧ i = .int .i64 (k : Int) ∧ (List.range k).all (tokK T) = true ∧ wr = w1) (fun _ i _ => T.length - (intOf i).toNat)
      case atStart => exact ⟨0, Nat.zero_le _, rfl, rfl, rfl⟩
      case round =>
        obtain ⟨k, hk, rfl, h0, hw⟩ := hrel
        have hw2 : w1 = wr := hw.symm
        clear hw
        subst hw2
        have H0 := Lib.hid h0
        clear h0
        by_cases hlt : k < T.length
        · obtain ⟨gt, rfl, ct⟩ := HT1.out.at k hlt
          obtain ⟨x, hx⟩ : ∃ x, T.getD k 0 = x := ⟨_, rfl⟩
          rw [hx] at ct
          by_cases hs : -1000000 ≤ x ∧ x ≤ 1000000
          · have HE := Lib.hid (rng_step (tokK T) k H0.out (by unfold tokK; rw [hx]; exact decide_eq_true hs))
            clear hx
            go_wp2_with fail
            refine (within_i64_t _ _ _ _ hs.1 hs.2).mono ?_; rintro r w' ⟨rfl, rfl⟩
            go_wp2
            go_roundw
            case rel => exact ⟨k + 1, by omega, by go_num, HE.out, by first | rfl | trivial⟩
            case measure => simp [intOf]; omega
          · have HE := Lib.hid (timB_tok (e := e) (n := n) (F := F) (rng_bad (tokK T) k T.length hlt (by unfold tokK; rw [hx]; exact decide_eq_false hs)))
            clear hx
            go_wp2_with fail
            refine (within_i64_f _ _ _ _ (by omega)).mono ?_; rintro r w' ⟨rfl, rfl⟩
            go_wp2
            go_ret
            exact ⟨ret_boolD HE.out.symm, HB1.out⟩
        · have hke : k = T.length := by omega
          have HA := Lib.hid (by have h := H0.out; rw [hke] at h; exact h)
          have HTK := Lib.hid (timB_kep (F := F) HD.out HLEN.out HA.out)
          have HTA := Lib.hid (show ∀ j, j < T.length → -1000000 ≤ T.getD j 0 ∧ T.getD j 0 ≤ 1000000 from fun j hj => by
            have := List.all_eq_true.1 HA.out j (List.mem_range.2 hj); unfold tokK at this; simpa using this)
          clear hke
          go_wp2
          go_loopw [8, 32] (fun _ i wr => ∃ k : Nat, k ≤ n ∧ i = .int .i64 (k : Int) ∧ (List.range k).all (kepK F T) = true ∧ Below w1.heap.size w1 wr) (fun _ i _ => n - (intOf i).toNat)
          case atStart => exact ⟨0, Nat.zero_le _, rfl, rfl, Below.refl _ _⟩
          case round =>
            obtain ⟨j, hj, rfl, h0, hB⟩ := hrel
            have H0 := Lib.hid h0
            have hbs := hB.size
            obtain ⟨y0, y1, _, _⟩ := HP1.out.below hB hp1l
            clear h0
            by_cases hlt2 : j < n
            · obtain ⟨g, x, y, z, rfl, -, -, ⟨e0, e1, e2⟩, x0, x1, x2⟩ := (HR1.out.keep hB (Nat.le_refl _)).at j hlt2
              have hbk := HOK.out j hlt2
              rw [e0, e1, e2] at hbk
              obtain ⟨-, k2, k3, k4, k5, -, -⟩ := hbk
              obtain ⟨xn, rfl⟩ := Int.eq_ofNat_of_zero_le k2
              obtain ⟨yn, rfl⟩ := Int.eq_ofNat_of_zero_le k4
              have hxn : xn < T.length := by have := HLEN.out; omega
              have hyn : yn < T.length := by have := HLEN.out; omega
              have hBa : Below w1.heap.size w1 (wr.alloc (.cells #[.int .i64 (xn : Int), .int .i64 (yn : Int), .int .i64 z] 49)) := hB.alloc hbs _
              obtain ⟨gt, rfl, cx⟩ := (HT1.out.keep hBa (Nat.le_refl _)).at xn hxn
              obtain ⟨gt2, hgt2, cy⟩ := (HT1.out.keep hBa (Nat.le_refl _)).at yn hyn
              simp only [Option.some.injEq, Addr.mk.injEq, and_true] at hgt2
              subst hgt2
              have bx := HTA.out xn hxn
              have by_ := HTA.out yn hyn
              obtain ⟨tx, htx⟩ : ∃ x, T.getD xn 0 = x := ⟨_, rfl⟩
              obtain ⟨ty, hty⟩ : ∃ x, T.getD yn 0 = x := ⟨_, rfl⟩
              rw [htx] at cx bx
              rw [hty] at cy by_
              have wr0 : IntKind.i64.wrap (ty - tx) = ty - tx := IntWalk.i64_in _ (by omega)
              have HBA := Lib.hid hBa
              by_cases hs : ty - tx ≤ z
              · have HE := Lib.hid (rng_step (kepK F T) j H0.out (by unfold kepK; rw [e0, e1, e2]; exact decide_eq_true (by simp only [Int.toNat_natCast]; rw [htx, hty]; exact hs)))
                have hgz : decide (z < ty - tx) = false := by simp; omega
                have hgz2 : ¬ z < ty - tx := by omega
                clear e0 e1 e2 htx hty hBa
                go_wp2
                go_quiet (fail)
                go_wp2
                go_roundw
                case rel => exact ⟨j + 1, by omega, by go_num, HE.out, bwD HBA.out _⟩
                case measure => simp [intOf]; omega
              · have HE := Lib.hid (rng_bad (kepK F T) j n hlt2 (by unfold kepK; rw [e0, e1, e2]; exact decide_eq_false (by simp only [Int.toNat_natCast]; rw [htx, hty]; exact hs)))
                have hgz : decide (z < ty - tx) = true := by simp; omega
                have hgz2 : z < ty - tx := by omega
                clear e0 e1 e2 htx hty hBa
                go_wp2
                go_quiet (fail)
                go_wp2
                go_ret
                exact ⟨ret_boolD (HE.out.symm.trans HTK.out.symm), HB1.out.trans ((bwD HBA.out _).mono (by omega))⟩
            · have hje : j = n := by omega
              have HZ := Lib.hid (by have h := H0.out; rw [hje] at h; exact h)
              clear hje
              go_wp2
              go_ret
              exact ⟨ret_boolD (HZ.out.symm.trans HTK.out.symm), HB1.out.trans (hB.mono (by omega))⟩
    · have hne : ((T.length : Int) != e) = true := by simp [hlen]
      rw [timB_len hlen]
      clear hlen hd
      go_enter Try.func18, Try.ntmps18
      go_wp2_with fail
      refine ((implDiaIs B e a n cap F _ HR.out hl).mono (R' := fun r w' => r = .returned (.bool true) ∧ Below (w.alloc (.cells #[.int .i64 e, .slice a n cap] 29)).heap.size (w.alloc (.cells #[.int .i64 e, .slice a n cap] 29)) w') (fun r w' h => by rw [HD.out] at h; exact h)).mono ?_
      rintro r w1 ⟨rfl, b1⟩
      obtain ⟨d0, d1, _, _⟩ := HP.out.below b1 (by simp)
      go_wp2
      go_ret
      exact ⟨rfl, hb0.trans (b1.mono (by simp))⟩

set_option maxHeartbeats 4000000 in
set_option maxRecDepth 100000 in
theorem specTiming (B C : Nat) (e : Int) (a b : Option Addr) (n cap c2 : Nat) (F T : List Int) (w : World) (hr : Recs w B (.slice a n cap) n F) (ht : Ints w C (.slice b T.length c2) T) (hl : n ≤ 1048576) (hl2 : T.length ≤ 1048576) :
    Calls Try.prog 16 #[.agg #[.int .i64 e, .slice a n cap], .slice b T.length c2] w fun r w' => r = .returned (.bool (timB e n F T)) ∧ Below w.heap.size w w' := by
  have hb0 : Below w.heap.size w (w.alloc (.cells #[.int .i64 e, .slice a n cap] 29)) := (Below.refl _ _).alloc (Nat.le_refl _) _
  have HP := Lib.hid (At2.new w (.int .i64 e) (.slice a n cap) 29)
  have HR := Lib.hid (hr.keep hb0 (Nat.le_refl _))
  have HT := Lib.hid (ht.keep hb0 (Nat.le_refl _))
  clear hr ht
  cases hd : diaB e n F with
  | false =>
    rw [timB_dia hd]
    have HD := Lib.hid hd
    clear hd
    go_enter Try.func16, Try.ntmps16
    go_wp2_with fail
    refine ((l04Is_any w.heap.size B e a n cap F _ HP.out HR.out hl).mono (R' := fun r w' => r = .returned (.bool false) ∧ Below (w.alloc (.cells #[.int .i64 e, .slice a n cap] 29)).heap.size (w.alloc (.cells #[.int .i64 e, .slice a n cap] 29)) w') (fun r w' h => by rw [HD.out] at h; exact h)).mono ?_
    rintro r w1 ⟨rfl, b1⟩
    go_wp2
    go_ret
    exact ⟨rfl, hb0.trans (b1.mono (by simp))⟩
  | true =>
    obtain ⟨h1, h2, hn, hok⟩ := diaB_ok hd
    have HD := Lib.hid hd
    have HOK := Lib.hid hok
    clear hok
    by_cases hlen : (T.length : Int) = e
    · have hne : ((T.length : Int) != e) = false := by simp [hlen]
      have HLEN := Lib.hid hlen
      have hTL : T.length ≤ 10 := by omega
      clear hlen hd
      go_enter Try.func16, Try.ntmps16
      go_wp2_with fail
      refine ((l04Is_any w.heap.size B e a n cap F _ HP.out HR.out hl).mono (R' := fun r w' => r = .returned (.bool true) ∧ Below (w.alloc (.cells #[.int .i64 e, .slice a n cap] 29)).heap.size (w.alloc (.cells #[.int .i64 e, .slice a n cap] 29)) w') (fun r w' h => by rw [HD.out] at h; exact h)).mono ?_
      rintro r w1 ⟨rfl, b1⟩
      have s1 := b1.size
      simp only [World.size_alloc] at s1
      have hp1 := HP.out.below b1 (by simp)
      have hp1l := hp1.lt
      have HR1 := Lib.hid (HR.out.keep b1 (Nat.le_refl _))
      have HT1 := Lib.hid (HT.out.keep b1 (Nat.le_refl _))
      have HP1 := Lib.hid hp1
      have hb1 : Below w.heap.size w w1 := hb0.trans (b1.mono (by simp))
      have HB1 := Lib.hid hb1
      obtain ⟨d0, d1, _, _⟩ := hp1
      clear b1 hb1
      go_wp2
      go_loopw [5] (fun i wr => ∃ k : Nat, k ≤ T.length ∧ i = .int .i64 (k : Int) ∧ (List.range k).all (tokK T) = true ∧ wr = w1) (fun i _ => T.length - (intOf i).toNat)
      case atStart => exact ⟨0, Nat.zero_le _, rfl, rfl, rfl⟩
      case round =>
        obtain ⟨k, hk, rfl, h0, hw⟩ := hrel
        have hw2 : w1 = wr := hw.symm
        clear hw
        subst hw2
        have H0 := Lib.hid h0
        clear h0
        by_cases hlt : k < T.length
        · obtain ⟨gt, rfl, ct⟩ := HT1.out.at k hlt
          obtain ⟨x, hx⟩ : ∃ x, T.getD k 0 = x := ⟨_, rfl⟩
          rw [hx] at ct
          by_cases hs : -1000000 ≤ x ∧ x ≤ 1000000
          · have HE := Lib.hid (rng_step (tokK T) k H0.out (by unfold tokK; rw [hx]; exact decide_eq_true hs))
            clear hx
            go_wp2_with fail
            refine (l00In_t _ _ _ _ hs.1 hs.2).mono ?_; rintro r w' ⟨rfl, rfl⟩
            go_wp2
            go_roundw
            case rel => exact ⟨k + 1, by omega, by go_num, HE.out, by first | rfl | trivial⟩
            case measure => simp [intOf]; omega
          · have HE := Lib.hid (timB_tok (e := e) (n := n) (F := F) (rng_bad (tokK T) k T.length hlt (by unfold tokK; rw [hx]; exact decide_eq_false hs)))
            clear hx
            go_wp2_with fail
            refine (l00In_f _ _ _ _ (by omega)).mono ?_; rintro r w' ⟨rfl, rfl⟩
            go_wp2
            go_ret
            exact ⟨ret_boolD HE.out.symm, HB1.out⟩
        · have hke : k = T.length := by omega
          have HA := Lib.hid (by have h := H0.out; rw [hke] at h; exact h)
          have HTK := Lib.hid (timB_kep (F := F) HD.out HLEN.out HA.out)
          have HTA := Lib.hid (show ∀ j, j < T.length → -1000000 ≤ T.getD j 0 ∧ T.getD j 0 ≤ 1000000 from fun j hj => by
            have := List.all_eq_true.1 HA.out j (List.mem_range.2 hj); unfold tokK at this; simpa using this)
          clear hke
          go_wp2
          go_loopw [6, 7] (fun i _ wr => ∃ k : Nat, k ≤ n ∧ i = .int .i64 (k : Int) ∧ (List.range k).all (kepK F T) = true ∧ Below w1.heap.size w1 wr) (fun i _ _ => n - (intOf i).toNat)
          case atStart => exact ⟨0, Nat.zero_le _, rfl, rfl, Below.refl _ _⟩
          case round =>
            obtain ⟨j, hj, rfl, h0, hB⟩ := hrel
            have H0 := Lib.hid h0
            have hbs := hB.size
            obtain ⟨y0, y1, _, _⟩ := HP1.out.below hB hp1l
            clear h0
            by_cases hlt2 : j < n
            · obtain ⟨g, x, y, z, rfl, -, -, ⟨e0, e1, e2⟩, x0, x1, x2⟩ := (HR1.out.keep hB (Nat.le_refl _)).at j hlt2
              have hbk := HOK.out j hlt2
              rw [e0, e1, e2] at hbk
              obtain ⟨-, k2, k3, k4, k5, -, -⟩ := hbk
              obtain ⟨xn, rfl⟩ := Int.eq_ofNat_of_zero_le k2
              obtain ⟨yn, rfl⟩ := Int.eq_ofNat_of_zero_le k4
              have hxn : xn < T.length := by have := HLEN.out; omega
              have hyn : yn < T.length := by have := HLEN.out; omega
              have hBa : Below w1.heap.size w1 (wr.alloc (.cells #[.int .i64 (xn : Int), .int .i64 (yn : Int), .int .i64 z] 49)) := hB.alloc hbs _
              obtain ⟨gt, rfl, cx⟩ := (HT1.out.keep hBa (Nat.le_refl _)).at xn hxn
              obtain ⟨gt2, hgt2, cy⟩ := (HT1.out.keep hBa (Nat.le_refl _)).at yn hyn
              simp only [Option.some.injEq, Addr.mk.injEq, and_true] at hgt2
              subst hgt2
              have bx := HTA.out xn hxn
              have by_ := HTA.out yn hyn
              obtain ⟨tx, htx⟩ : ∃ x, T.getD xn 0 = x := ⟨_, rfl⟩
              obtain ⟨ty, hty⟩ : ∃ x, T.getD yn 0 = x := ⟨_, rfl⟩
              rw [htx] at cx bx
              rw [hty] at cy by_
              have wr0 : IntKind.i64.wrap (ty - tx) = ty - tx := IntWalk.i64_in _ (by omega)
              have HBA := Lib.hid hBa
              by_cases hs : ty - tx ≤ z
              · have HE := Lib.hid (rng_step (kepK F T) j H0.out (by unfold kepK; rw [e0, e1, e2]; exact decide_eq_true (by simp only [Int.toNat_natCast]; rw [htx, hty]; exact hs)))
                have hgz : decide (z < ty - tx) = false := by simp; omega
                have hgz2 : ¬ z < ty - tx := by omega
                clear e0 e1 e2 htx hty hBa
                go_wp2
                go_quiet (fail)
                go_wp2
                go_roundw
                case rel => exact ⟨j + 1, by omega, by go_num, HE.out, bwD HBA.out _⟩
                case measure => simp [intOf]; omega
              · have HE := Lib.hid (rng_bad (kepK F T) j n hlt2 (by unfold kepK; rw [e0, e1, e2]; exact decide_eq_false (by simp only [Int.toNat_natCast]; rw [htx, hty]; exact hs)))
                have hgz : decide (z < ty - tx) = true := by simp; omega
                have hgz2 : z < ty - tx := by omega
                clear e0 e1 e2 htx hty hBa
                go_wp2
                go_quiet (fail)
                go_wp2
                go_ret
                exact ⟨ret_boolD (HE.out.symm.trans HTK.out.symm), HB1.out.trans ((bwD HBA.out _).mono (by omega))⟩
            · have hje : j = n := by omega
              have HZ := Lib.hid (by have h := H0.out; rw [hje] at h; exact h)
              clear hje
              go_wp2
              go_ret
              exact ⟨ret_boolD (HZ.out.symm.trans HTK.out.symm), HB1.out.trans (hB.mono (by omega))⟩
    · have hne : ((T.length : Int) != e) = true := by simp [hlen]
      rw [timB_len hlen]
      clear hlen hd
      go_enter Try.func16, Try.ntmps16
      go_wp2_with fail
      refine ((l04Is_any w.heap.size B e a n cap F _ HP.out HR.out hl).mono (R' := fun r w' => r = .returned (.bool true) ∧ Below (w.alloc (.cells #[.int .i64 e, .slice a n cap] 29)).heap.size (w.alloc (.cells #[.int .i64 e, .slice a n cap] 29)) w') (fun r w' h => by rw [HD.out] at h; exact h)).mono ?_
      rintro r w1 ⟨rfl, b1⟩
      obtain ⟨d0, d1, _, _⟩ := HP.out.below b1 (by simp)
      go_wp2
      go_ret
      exact ⟨rfl, hb0.trans (b1.mono (by simp))⟩
end Go.Proofs.Ytcelgmecfmegpab
