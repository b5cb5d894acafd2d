/- The number with a text, on the side of the model. -/
import Derived.Test.YtemjohkieehojaaDoorDecSpec
import Derived.Test.YtemjohkieehojaaDoorIn64
import Derived.Lib.Walk
import Derived.Lib.Strings
namespace Go.Proofs.YtemjohkieehojaaDoor
open Go.RowKit Go.Lib
set_option linter.unusedVariables false

def sgn (neg : Bool) (u : Nat) : Int := if neg then -(u : Int) else (u : Int)
theorem great_dec {neg : Bool} {s r : ByteArray} (hs : s.data.toList = (if neg then [45] else []) ++ r.data.toList) (hh : neg = false → r.data.toList.head? ≠ some 45) (N : Int) (hN : itoa N = s.data.toList) :
    r.data.toList = decDigits N.natAbs ∧ N = sgn neg (valL r.data.toList) := by
  obtain ⟨c, q, hcq, c1, c2⟩ := dec_head N.natAbs
  by_cases h0 : N < 0
  · rw [itoa_ng h0, hs] at hN
    cases neg with
    | true =>
      have h1 : decDigits N.natAbs = r.data.toList := by simpa using hN
      rw [← h1]
      exact ⟨rfl, by rw [val_dec _ _ (Nat.le_refl _)]; simp [sgn]; omega⟩
    | false =>
      have h1 : 45 :: decDigits N.natAbs = r.data.toList := by simpa using hN
      exact absurd (by rw [← h1]; rfl) (hh rfl)
  · rw [itoa_nn (by omega), hs] at hN
    cases neg with
    | true =>
      rw [hcq] at hN
      have h1 : c = 45 := by
        have : c :: q = 45 :: r.data.toList := by simpa using hN
        injection this
      subst h1
      exact absurd c1 (by decide)
    | false =>
      have h1 : decDigits N.natAbs = r.data.toList := by simpa using hN
      rw [← h1]
      exact ⟨rfl, by rw [val_dec _ _ (Nat.le_refl _)]; simp [sgn]; omega⟩
theorem great_size {neg : Bool} {s r : ByteArray} (hs : s.data.toList = (if neg then [45] else []) ++ r.data.toList) (hh : neg = false → r.data.toList.head? ≠ some 45) (hb : r.size < 1 ∨ 19 < r.size) : rd 1000000000000000000 s.data.toList = none :=
  rd_none (by decide) fun N hN e => by
    obtain ⟨h1, _⟩ := great_dec hs hh N e
    have l1 := dec_len 18 N.natAbs (by omega)
    have l2 := dec_len_pos N.natAbs
    rw [← h1, size_toList] at l1 l2
    omega
theorem great_digit {neg : Bool} {s r : ByteArray} (hs : s.data.toList = (if neg then [45] else []) ++ r.data.toList) (hh : neg = false → r.data.toList.head? ≠ some 45) (k : Nat) (hk : k < r.size) (hb : ¬ (48 ≤ r[k].toNat ∧ r[k].toNat ≤ 57)) : rd 1000000000000000000 s.data.toList = none :=
  rd_none (by decide) fun N hN e => by
    obtain ⟨h1, _⟩ := great_dec hs hh N e
    exact hb (dig_dec N.natAbs N.natAbs (Nat.le_refl _) r[k] (by rw [← h1]; simp [ByteArray.getElem_eq_getElem_data]))
theorem great_big {neg : Bool} {s r : ByteArray} (hs : s.data.toList = (if neg then [45] else []) ++ r.data.toList) (hh : neg = false → r.data.toList.head? ≠ some 45) (k : Nat) (hk : k < r.size) (hb : 100000000000000000 < valL (r.data.toList.take k)) : rd 1000000000000000000 s.data.toList = none :=
  rd_none (by decide) fun N hN e => by
    obtain ⟨h1, _⟩ := great_dec hs hh N e
    have := pre_dec N.natAbs N.natAbs (Nat.le_refl _) k (by rw [← h1, size_toList]; exact hk)
    rw [← h1] at this
    omega
theorem great_end {neg : Bool} {s r : ByteArray} (hs : s.data.toList = (if neg then [45] else []) ++ r.data.toList) (hh : neg = false → r.data.toList.head? ≠ some 45) (hb : ¬ (valL r.data.toList ≤ 1000000000000000000 ∧ itoa (sgn neg (valL r.data.toList)) = s.data.toList)) : rd 1000000000000000000 s.data.toList = none :=
  rd_none (by decide) fun N hN e => by
    obtain ⟨h1, h2⟩ := great_dec hs hh N e
    refine hb ⟨?_, by rw [← h2]; exact e⟩
    rw [h2] at hN
    unfold sgn at hN
    split at hN <;> omega
theorem great_ok {neg : Bool} {s r : ByteArray} (h1 : valL r.data.toList ≤ 1000000000000000000) (h2 : itoa (sgn neg (valL r.data.toList)) = s.data.toList) : rd 1000000000000000000 s.data.toList = some (sgn neg (valL r.data.toList)) := by
  rw [← h2]
  exact rd_itoa _ (by decide) _ (by unfold sgn; split <;> omega)
theorem valL_take (r : ByteArray) (k : Nat) (hk : k < r.size) : valL (r.data.toList.take (k + 1)) = 10 * valL (r.data.toList.take k) + (r[k].toNat - 48) := by
  rw [take_snoc r k hk, valL_snoc]
theorem u8sub (c : Nat) (h : 48 ≤ c ∧ c ≤ 57) : ((c : Int) - 48) % 256 = ((c - 48 : Nat) : Int) := by omega
theorem str_ne' {X s : ByteArray} (h : X ≠ s) : (X.toList == s.toList) = false := by
  rw [Lib.toList_data, Lib.toList_data]
  exact beq_eq_false_iff_ne.2 fun e => h (ByteArray.ext (Array.toList_inj.1 e))
theorem bytes_same' {s : ByteArray} {l : List UInt8} (h : l = s.data.toList) : (⟨l.toArray⟩ : ByteArray) = s := by
  subst h; cases s; simp
theorem bytes_other' {s : ByteArray} {l : List UInt8} (h : l ≠ s.data.toList) : (⟨l.toArray⟩ : ByteArray) ≠ s := by
  intro e; subst e; simp at h

/-- some number and whether the text is its numeral -/
def GreatR (l : List UInt8) (w : World) (e : Ending) (w' : World) : Prop := ∃ (m : Int) (b : Bool), e = .returned (.tuple #[.int .i64 m, .bool b]) ∧ rd 1000000000000000000 l = (if b then some m else none) ∧ Below w.heap.size w w'
theorem itoa_posR (n : Int) : 0 < (itoa n).length := by
  by_cases h : n < 0
  · rw [itoa_ng h]; simp
  · rw [itoa_nn (by omega)]; exact dec_len_pos _
theorem below_drewN2 (w : World) (q : Nat) : Below w.heap.size w (w.drewN q) := ⟨rfl, rfl, rfl, Nat.le_refl _, fun _ _ => rfl⟩

set_option maxHeartbeats 4000000 in
set_option maxRecDepth 100000 in
theorem great_neg (s r : ByteArray) (w : World) (hs2 : s.size ≤ 1048576) (hpos : 0 < s.size) (hs45 : (s[0].toNat : Int) = 45) (hr : s.extract 1 s.size = r) (hsz : s.size = r.size + 1) (hs : s.data.toList = (if true then [45] else []) ++ r.data.toList) (hh : true = false → r.data.toList.head? ≠ some 45) :
    Calls Tryd.prog 57 #[.string s] w fun e w' => GreatR s.data.toList w e w' := by
  have GS := Lib.hid (fun h => great_size (neg := true) (s := s) hs hh h)
  have GD := Lib.hid (fun k hk h => great_digit (neg := true) (s := s) hs hh k hk h)
  have GB := Lib.hid (fun k hk h => great_big (neg := true) (s := s) hs hh k hk h)
  have GE := Lib.hid (fun h => great_end (neg := true) (s := s) hs hh h)
  have GO := Lib.hid (fun h1 h2 => great_ok (neg := true) (s := s) (r := r) h1 h2)
  clear hs hh
  have hp1 : decide ((0 : Int) < (s.size : Int)) = true := decide_eq_true (by omega)
  have hlt : decide ((r.size : Int) < (s.size : Int)) = true := decide_eq_true (by omega)
  have hlt2 : r.size < s.size := by omega
  clear hsz
  by_cases hbad : r.size < 1 ∨ 19 < r.size
  · have HG := Lib.hid (GS.out hbad)
    go_enter Tryd.func57, Tryd.ntmps57
    go_wp2
    all_goals go_ret2
    all_goals exact ⟨0, false, rfl, HG.out, Below.refl _ _⟩
  · have hr1 : 1 ≤ r.size := by omega
    have hr19 : r.size ≤ 19 := by omega
    have hc1 : decide ((r.size : Int) < 1) = false := by simp; omega
    have hc2 : decide ((19 : Int) < (r.size : Int)) = false := by simp; omega
    clear hbad
    go_enter Tryd.func57, Tryd.ntmps57
    go_wp2
    go_loop [5, 6] (fun u i => ∃ k : Nat, k ≤ r.size ∧ i = .int .i64 (k : Int) ∧ u = .int .i64 ((valL (r.data.toList.take k) : Nat) : Int) ∧ valL (r.data.toList.take k) ≤ 1000000000000000009) (fun _ i => r.size - (RowKit.intOf i).toNat)
    case atStart => exact ⟨0, Nat.zero_le _, rfl, rfl, by simp [valL]⟩
    case round =>
      obtain ⟨k, hk, rfl, rfl, hu9⟩ := hrel
      by_cases hlt2 : k < r.size
      · have HV := Lib.hid (valL_take r k hlt2)
        have GD2 := Lib.hid (GD.out k hlt2)
        have GB2 := Lib.hid (GB.out k hlt2)
        obtain ⟨u, hu⟩ : ∃ u, valL (r.data.toList.take k) = u := ⟨_, rfl⟩
        rw [hu] at hu9 HV GB2
        rw [hu]
        clear hu
        obtain ⟨c, hc⟩ : ∃ c, r[k].toNat = c := ⟨_, rfl⟩
        rw [hc] at HV GD2
        by_cases hdig : 48 ≤ c ∧ c ≤ 57
        · have e1 : decide ((c : Int) < 48) = false := by simp; omega
          have e2 : decide ((57 : Int) < (c : Int)) = false := by simp; omega
          by_cases hbig : 100000000000000000 < u
          · have HG := Lib.hid (GB2.out hbig)
            have e3 : decide ((100000000000000000 : Int) < (u : Int)) = true := by simp; omega
            go_wp2
            go_ret2
            exact ⟨0, false, rfl, HG.out, Below.refl _ _⟩
          · have e3 : decide ((100000000000000000 : Int) < (u : Int)) = false := by simp; omega
            have e4 := u8sub c hdig
            go_wp2
            go_round
            case rel => exact ⟨k + 1, by omega, by go_num, by rw [HV.out]; go_num, by rw [HV.out]; omega⟩
            case measure => simp [RowKit.intOf]; omega
        · have HG := Lib.hid (GD2.out hdig)
          by_cases h48 : c < 48
          · have e1 : decide ((c : Int) < 48) = true := by simp; omega
            go_wp2
            go_ret2
            exact ⟨0, false, rfl, HG.out, Below.refl _ _⟩
          · have e1 : decide ((c : Int) < 48) = false := by simp; omega
            have e2 : decide ((57 : Int) < (c : Int)) = true := by simp; omega
            go_wp2
            go_ret2
            exact ⟨0, false, rfl, HG.out, Below.refl _ _⟩
      · have HTK := Lib.hid (take_all r k (by omega))
        rw [HTK.out] at hu9
        rw [HTK.out]
        obtain ⟨u, hu⟩ : ∃ u, valL r.data.toList = u := ⟨_, rfl⟩
        rw [hu] at hu9 GE GO
        rw [hu]
        have hkr : k = r.size := by omega
        subst hkr
        clear hu HTK
        have HBq := Lib.hid (Below.refl w.heap.size w)
        by_cases hin : u ≤ 1000000000000000000
        · have HSD := Lib.hid (fun w => specDec (-(u : Int)) w (by omega) (by omega))
          by_cases he : itoa (-(u : Int)) = s.data.toList
          · have HG := Lib.hid (GO.out hin he)
            have hbs := bytes_same' he
            clear he
            go_wp2_with fail
            refine (l00In_t _ _ _ _ (by omega) (by omega)).mono ?_; rintro e w' ⟨rfl, rfl⟩
            go_wp2_with fail
            refine (HSD.out _).mono ?_; rintro e w2 ⟨rfl, hb2⟩
            have HB2 := Lib.hid (HBq.out.trans (hb2.mono HBq.out.size))
            clear hb2
            rw [hbs]
            go_wp2
            go_ret2
            exact ⟨-(u : Int), true, rfl, by rw [HG.out]; rfl, HB2.out⟩
          · have HG := Lib.hid (GE.out (fun h => he h.2))
            have hbs := bytes_other' he
            obtain ⟨X, hX⟩ : ∃ X : ByteArray, (⟨(itoa (-(u : Int))).toArray⟩ : ByteArray) = X := ⟨_, rfl⟩
            rw [hX] at hbs HSD
            clear he hX
            have n1 := str_ne' hbs
            go_wp2_with fail
            refine (l00In_t _ _ _ _ (by omega) (by omega)).mono ?_; rintro e w' ⟨rfl, rfl⟩
            go_wp2_with fail
            refine (HSD.out _).mono ?_; rintro e w2 ⟨rfl, hb2⟩
            have HB2 := Lib.hid (HBq.out.trans (hb2.mono HBq.out.size))
            clear hb2
            go_wp2
            go_ret2
            exact ⟨-(u : Int), false, rfl, by rw [HG.out]; rfl, HB2.out⟩
        · have HG := Lib.hid (GE.out (fun h => hin h.1))
          go_wp2_with fail
          refine (l00In_f _ _ _ _ (by omega)).mono ?_; rintro e w' ⟨rfl, rfl⟩
          go_wp2
          go_ret2
          exact ⟨-(u : Int), false, rfl, by rw [HG.out]; rfl, HBq.out⟩

set_option maxHeartbeats 4000000 in
set_option maxRecDepth 100000 in
theorem great_pos (r : ByteArray) (w : World) (hs2 : r.size ≤ 1048576) (hpos : 0 < r.size) (h45 : ¬ (r[0].toNat : Int) = 45) (hs : r.data.toList = (if false then [45] else []) ++ r.data.toList) (hh : false = false → r.data.toList.head? ≠ some 45) :
    Calls Tryd.prog 57 #[.string r] w fun e w' => GreatR r.data.toList w e w' := by
  have GS := Lib.hid (fun h => great_size (neg := false) (s := r) hs hh h)
  have GD := Lib.hid (fun k hk h => great_digit (neg := false) (s := r) hs hh k hk h)
  have GB := Lib.hid (fun k hk h => great_big (neg := false) (s := r) hs hh k hk h)
  have GE := Lib.hid (fun h => great_end (neg := false) (s := r) hs hh h)
  have GO := Lib.hid (fun h1 h2 => great_ok (neg := false) (s := r) (r := r) h1 h2)
  clear hs hh
  have hlt : decide ((r.size : Int) < (r.size : Int)) = false := by simp
  have hp1 : decide ((0 : Int) < (r.size : Int)) = true := decide_eq_true (by omega)
  have e45 : ((r[0].toNat : Int) == 45) = false := beq_eq_false_iff_ne.2 h45
  by_cases hbad : r.size < 1 ∨ 19 < r.size
  · have HG := Lib.hid (GS.out hbad)
    go_enter Tryd.func57, Tryd.ntmps57
    go_wp2
    all_goals go_ret2
    all_goals exact ⟨0, false, rfl, HG.out, Below.refl _ _⟩
  · have hr1 : 1 ≤ r.size := by omega
    have hr19 : r.size ≤ 19 := by omega
    have hc1 : decide ((r.size : Int) < 1) = false := by simp; omega
    have hc2 : decide ((19 : Int) < (r.size : Int)) = false := by simp; omega
    clear hbad
    go_enter Tryd.func57, Tryd.ntmps57
    go_wp2
    go_loop [5, 6] (fun u i => ∃ k : Nat, k ≤ r.size ∧ i = .int .i64 (k : Int) ∧ u = .int .i64 ((valL (r.data.toList.take k) : Nat) : Int) ∧ valL (r.data.toList.take k) ≤ 1000000000000000009) (fun _ i => r.size - (RowKit.intOf i).toNat)
    case atStart => exact ⟨0, Nat.zero_le _, rfl, rfl, by simp [valL]⟩
    case round =>
      obtain ⟨k, hk, rfl, rfl, hu9⟩ := hrel
      by_cases hlt2 : k < r.size
      · have HV := Lib.hid (valL_take r k hlt2)
        have GD2 := Lib.hid (GD.out k hlt2)
        have GB2 := Lib.hid (GB.out k hlt2)
        obtain ⟨u, hu⟩ : ∃ u, valL (r.data.toList.take k) = u := ⟨_, rfl⟩
        rw [hu] at hu9 HV GB2
        rw [hu]
        clear hu
        obtain ⟨c, hc⟩ : ∃ c, r[k].toNat = c := ⟨_, rfl⟩
        rw [hc] at HV GD2
        by_cases hdig : 48 ≤ c ∧ c ≤ 57
        · have e1 : decide ((c : Int) < 48) = false := by simp; omega
          have e2 : decide ((57 : Int) < (c : Int)) = false := by simp; omega
          by_cases hbig : 100000000000000000 < u
          · have HG := Lib.hid (GB2.out hbig)
            have e3 : decide ((100000000000000000 : Int) < (u : Int)) = true := by simp; omega
            go_wp2
            go_ret2
            exact ⟨0, false, rfl, HG.out, Below.refl _ _⟩
          · have e3 : decide ((100000000000000000 : Int) < (u : Int)) = false := by simp; omega
            have e4 := u8sub c hdig
            go_wp2
            go_round
            case rel => exact ⟨k + 1, by omega, by go_num, by rw [HV.out]; go_num, by rw [HV.out]; omega⟩
            case measure => simp [RowKit.intOf]; omega
        · have HG := Lib.hid (GD2.out hdig)
          by_cases h48 : c < 48
          · have e1 : decide ((c : Int) < 48) = true := by simp; omega
            go_wp2
            go_ret2
            exact ⟨0, false, rfl, HG.out, Below.refl _ _⟩
          · have e1 : decide ((c : Int) < 48) = false := by simp; omega
            have e2 : decide ((57 : Int) < (c : Int)) = true := by simp; omega
            go_wp2
            go_ret2
            exact ⟨0, false, rfl, HG.out, Below.refl _ _⟩
      · have HTK := Lib.hid (take_all r k (by omega))
        rw [HTK.out] at hu9
        rw [HTK.out]
        obtain ⟨u, hu⟩ : ∃ u, valL r.data.toList = u := ⟨_, rfl⟩
        rw [hu] at hu9 GE GO
        rw [hu]
        have hkr : k = r.size := by omega
        subst hkr
        clear hu HTK
        have HBq := Lib.hid (Below.refl w.heap.size w)
        by_cases hin : u ≤ 1000000000000000000
        · have HSD := Lib.hid (fun w => specDec ((u : Int)) w (by omega) (by omega))
          by_cases he : itoa ((u : Int)) = r.data.toList
          · have HG := Lib.hid (GO.out hin he)
            have hbs := bytes_same' he
            clear he
            go_wp2_with fail
            refine (l00In_t _ _ _ _ (by omega) (by omega)).mono ?_; rintro e w' ⟨rfl, rfl⟩
            go_wp2_with fail
            refine (HSD.out _).mono ?_; rintro e w2 ⟨rfl, hb2⟩
            have HB2 := Lib.hid (HBq.out.trans (hb2.mono HBq.out.size))
            clear hb2
            rw [hbs]
            go_wp2
            go_ret2
            exact ⟨(u : Int), true, rfl, by rw [HG.out]; rfl, HB2.out⟩
          · have HG := Lib.hid (GE.out (fun h => he h.2))
            have hbs := bytes_other' he
            obtain ⟨X, hX⟩ : ∃ X : ByteArray, (⟨(itoa ((u : Int))).toArray⟩ : ByteArray) = X := ⟨_, rfl⟩
            rw [hX] at hbs HSD
            clear he hX
            have n1 := str_ne' hbs
            go_wp2_with fail
            refine (l00In_t _ _ _ _ (by omega) (by omega)).mono ?_; rintro e w' ⟨rfl, rfl⟩
            go_wp2_with fail
            refine (HSD.out _).mono ?_; rintro e w2 ⟨rfl, hb2⟩
            have HB2 := Lib.hid (HBq.out.trans (hb2.mono HBq.out.size))
            clear hb2
            go_wp2
            go_ret2
            exact ⟨(u : Int), false, rfl, by rw [HG.out]; rfl, HB2.out⟩
        · have HG := Lib.hid (GE.out (fun h => hin h.1))
          go_wp2_with fail
          refine (l00In_f _ _ _ _ (by omega)).mono ?_; rintro e w' ⟨rfl, rfl⟩
          go_wp2
          go_ret2
          exact ⟨(u : Int), false, rfl, by rw [HG.out]; rfl, HBq.out⟩

theorem l01Great_any (s : ByteArray) (w : World) (hs2 : s.size ≤ 1048576) :
    Calls Tryd.prog 57 #[.string s] w fun e w' => GreatR s.data.toList w e w' := by
  by_cases h45 : ∃ h : 0 < s.size, (s[0].toNat : Int) = 45
  · obtain ⟨hpos, h45⟩ := h45
    have hl : s.data.toList = 45 :: (s.extract 1 s.size).data.toList := by
      have e0 : s[0] = 45 := UInt8.toNat_inj.1 (by have h45n : (45 : UInt8).toNat = 45 := rfl; omega)
      have e1 := take_snoc s 0 hpos
      have e2 : (s.extract 1 s.size).data.toList = s.data.toList.drop 1 := by rw [Lib.extract_data, List.take_of_length_le (by simp)]
      rw [e2]
      have e3 := List.take_append_drop 1 s.data.toList
      rw [e1, List.take_zero, List.nil_append, e0] at e3
      exact e3.symm
    have hz : s.size = (s.extract 1 s.size).size + 1 := by
      have := congrArg List.length hl
      simp only [size_toList, List.length_cons] at this
      exact this
    exact great_neg s (s.extract 1 s.size) w hs2 hpos h45 rfl hz (by simpa using hl) (fun h => by cases h)
  · by_cases hpos : 0 < s.size
    case neg =>
      have hl : s.data.toList = [] := List.length_eq_zero_iff.1 (by rw [size_toList]; omega)
      have hz : decide ((0 : Int) < (s.size : Int)) = false := decide_eq_false (by omega)
      have hz1 : decide ((s.size : Int) < 1) = true := decide_eq_true (by omega)
      have HR : Hid (rd 1000000000000000000 s.data.toList = none) := rd_none (by decide) fun n _ e => by
        rw [hl] at e
        have := itoa_posR n
        rw [e] at this
        simp at this
      have hz1n : s.size < 1 := by omega
      clear hl h45
      go_enter Tryd.func57, Tryd.ntmps57
      go_wp2
      all_goals go_ret2
      all_goals exact ⟨0, false, rfl, HR.out, Below.refl _ _⟩
    refine great_pos s w hs2 hpos (fun e => h45 ⟨hpos, e⟩) (by simp) (fun _ e => ?_)
    refine h45 ⟨hpos, ?_⟩
    have e1 : s.data.toList[0]'(by rw [size_toList]; exact hpos) = 45 := by
      rw [List.head?_eq_getElem?, List.getElem?_eq_getElem (by rw [size_toList]; exact hpos)] at e
      exact Option.some.inj e
    have e2 : s[0] = s.data.toList[0]'(by rw [size_toList]; exact hpos) := by simp [ByteArray.getElem_eq_getElem_data]
    rw [e2, e1]; rfl
theorem rd_value (l : List UInt8) : rd 1000000000000000 l = match rd 1000000000000000000 l with
    | some m => if m.natAbs ≤ 1000000000000000 then some m else none
    | none => none := by
  cases h : rd 1000000000000000000 l with
  | some m =>
    have hm := rd_some h
    by_cases hv : m.natAbs ≤ 1000000000000000
    · rw [← hm.2, rd_itoa _ (by decide) m hv]; simp [hv]
    · simp only [if_neg hv]
      refine rd_none (by decide) fun n hn e => ?_
      have := rd_itoa 1000000000000000000 (by decide) n (by omega)
      rw [e, h] at this
      obtain rfl := Option.some.inj this
      exact hv hn
  | none =>
    refine rd_none (by decide) fun n hn e => ?_
    have := rd_itoa 1000000000000000000 (by decide) n (by omega)
    rw [e, h] at this
    cases this
theorem l01Value_any (s : ByteArray) (w : World) (hs2 : s.size ≤ 1048576) :
    Calls Tryd.prog 39 #[.string s] w fun e w' => e = .returned (.tuple #[.int .i64 ((rd 1000000000000000 s.data.toList).getD 0), .bool (rd 1000000000000000 s.data.toList).isSome]) ∧ Below w.heap.size w w' := by
  have HV := Lib.hid (rd_value s.data.toList)
  go_enter Tryd.func39, Tryd.ntmps39
  go_wp2_with fail
  refine (l01Great_any s _ hs2).mono ?_
  rintro e w1 ⟨m, b, rfl, hrd, hb1⟩
  have HB := Lib.hid hb1
  cases b with
  | false =>
    have HV2 : Hid (rd 1000000000000000 s.data.toList = none) := by rw [Hid, HV.out, hrd]; rfl
    clear hb1 hrd
    go_wp2
    go_ret2
    exact ⟨by rw [HV2.out]; rfl, HB.out⟩
  | true =>
    by_cases hv : m.natAbs ≤ 1000000000000000
    · have HV2 : Hid (rd 1000000000000000 s.data.toList = some m) := by rw [Hid, HV.out, hrd]; simp [hv]
      clear hb1 hrd
      go_wp2_with fail
      refine (l00In_t _ _ _ _ (by omega) (by omega)).mono ?_; rintro e w' ⟨rfl, rfl⟩
      go_wp2
      go_ret2
      exact ⟨by rw [HV2.out]; rfl, HB.out⟩
    · have HV2 : Hid (rd 1000000000000000 s.data.toList = none) := by rw [Hid, HV.out, hrd]; simp [hv]
      clear hb1 hrd
      go_wp2_with fail
      refine (l00In_f _ _ _ _ (by omega)).mono ?_; rintro e w' ⟨rfl, rfl⟩
      go_wp2
      go_ret2
      exact ⟨by rw [HV2.out]; rfl, HB.out⟩
end Go.Proofs.YtemjohkieehojaaDoor
