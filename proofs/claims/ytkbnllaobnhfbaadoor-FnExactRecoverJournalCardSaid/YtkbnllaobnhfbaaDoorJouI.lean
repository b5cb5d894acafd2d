/- The journal: the program's side. -/
import Derived.Test.YtkbnllaobnhfbaaDoorJouS
import Derived.Test.YtkbnllaobnhfbaaDoorDecLaw
import Derived.Test.YtkbnllaobnhfbaaDoorPicI
namespace Go.Proofs.YtkbnllaobnhfbaaDoor
open Go.RowKit Go.Lib
set_option linter.unusedVariables false
set_option linter.unusedSimpArgs false
set_option maxHeartbeats 1000000 in
theorem implEnt (c : Int) (x : ByteArray) (w : World) (h0 : 0 ≤ c) (h1 : c ≤ 64900) (hs : x.size ≤ 1048576) (hd : DoorW w) :
    Calls Tryd.prog 38 #[.int .i64 c, .string x] w fun e w' => e = .returned (.tuple #[.string ⟨(entL c x.data.toList).toArray⟩, .int .i64 (checkL c x.data.toList)]) ∧ Below w.heap.size w w' := by
  have HJ := Lib.hid (ent_join0 c x)
  have HCK := Lib.hid (implCheckOf_t c x w (by unfold maxLen; omega) h0 h1)
  obtain ⟨k0, k1⟩ := checkL_bd c x.data.toList h0 h1
  have HDC := Lib.hid (implDec (checkL c x.data.toList) w (by omega) (by omega) hd)
  have hil := itoa_pos_len (checkL c x.data.toList) k0 k1
  obtain ⟨c', hc'⟩ : ∃ c', checkL c x.data.toList = c' := ⟨_, rfl⟩
  rw [hc'] at HJ HDC HCK hil ⊢
  obtain ⟨X, hX⟩ : ∃ X : ByteArray, (⟨(itoa c').toArray⟩ : ByteArray) = X := ⟨_, rfl⟩
  have hXs : X.size ≤ 5 := by rw [← hX]; exact hil.2
  rw [hX] at HJ HDC
  have hz32 : (⟨#[32]⟩ : ByteArray).size = 1 := rfl
  have hz10 : (⟨#[10]⟩ : ByteArray).size = 1 := rfl
  have a1 := fun w => run_string_add_sum (P := Tryd.prog) w X ⟨#[32]⟩ (by omega)
  have z1 : (X ++ ⟨#[32]⟩).size ≤ 6 := by rw [ByteArray.size_append]; omega
  obtain ⟨Z1, hZ1⟩ : ∃ Z, X ++ ⟨#[32]⟩ = Z := ⟨_, rfl⟩
  rw [hZ1] at a1 z1 HJ
  have a2 := fun w => run_string_add_sum (P := Tryd.prog) w Z1 x (by omega)
  have z2 : (Z1 ++ x).size ≤ 2000000 := by rw [ByteArray.size_append]; omega
  obtain ⟨Z2, hZ2⟩ : ∃ Z, Z1 ++ x = Z := ⟨_, rfl⟩
  rw [hZ2] at a2 z2 HJ
  have a3 := fun w => run_string_add_sum (P := Tryd.prog) w Z2 ⟨#[10]⟩ (by omega)
  obtain ⟨Z3, hZ3⟩ : ∃ Z, Z2 ++ ⟨#[10]⟩ = Z := ⟨_, rfl⟩
  rw [hZ3] at a3 HJ
  rw [HJ.out]
  clear hZ1 hZ2 hZ3 hX hil hXs z1 z2 hz32 hz10 hc' hd HJ
  go_enter Tryd.func38, Tryd.ntmps38
  go_wp2_with fail
  refine HCK.out.mono ?_; rintro e w' ⟨rfl, rfl⟩
  go_wp2_with fail
  refine HDC.out.mono ?_; rintro e w1 ⟨rfl, hb1⟩
  have HB := Lib.hid hb1
  clear hb1
  go_wp2
  go_ret2
  exact ⟨rfl, HB.out⟩
set_option maxHeartbeats 8000000 in
set_option maxRecDepth 100000 in
theorem implJournal (a : Option Addr) (n cap : Nat) (ls : List ByteArray) (w : World) (hn : n = ls.length) (h : SRow w a ls) (hm : n ≤ 1048576) (hs : ∀ k (hk : k < ls.length), ls[k].size ≤ 1048576) (hd : DoorW w) :
    Calls Tryd.prog 19 #[.slice a n cap] w fun e w' => e = .returned (.tuple #[.string (ansJ ls), .bool (okJ ls)]) ∧ Below w.heap.size w w' := by
  have HN := Lib.hid hn
  have HA := Lib.hid h
  have HSZ := Lib.hid hs
  have HD := Lib.hid hd
  have HF := Lib.hid (BufB.fresh w)
  have hbF : Below w.heap.size w (w.alloc (.cells #[.slice none 0 0, .int .i64 0, .int .i8 0] 52)) := (Below.refl _ _).alloc (Nat.le_refl _) _
  have HBF := Lib.hid hbF
  clear hn h hs hd hbF
  go_enter Tryd.func19, Tryd.ntmps19
  go_wp2
  go_loopw [5, 7, 8, 9, 12] (fun cv lv ev nv iv wr => ∃ k : Nat, k ≤ n ∧ iv = .int .i64 (k : Int) ∧ cv = .int .i64 (jC ls k) ∧ BufB w.heap.size (jB ls k) wr ∧ Below w.heap.size w wr ∧ (jB ls k).length ≤ 4000 ∧ (List.range k).all (nlS ls) = true) (fun _ _ _ _ iv _ => n - (RowKit.intOf iv).toNat)
  case atStart => exact ⟨0, Nat.zero_le _, rfl, rfl, HF.out, HBF.out, Nat.zero_le _, rfl⟩
  case round =>
    obtain ⟨k, hk, rfl, rfl, hbuf, hB, hlen, hall⟩ := hrel
    have HAL := Lib.hid hall
    have HBU := Lib.hid hbuf
    have HBW := Lib.hid hB
    clear hall hbuf hB
    by_cases hlt : k < n
    · have hkl : k < ls.length := by have := HN.out; omega
      obtain ⟨b1, o1, rfl, l1, c1⟩ := HA.out.get k hkl
      have hs1 := HSZ.out k hkl
      rw [getD_s hkl] at hs1
      obtain ⟨j0, j1⟩ := jC_bd ls k
      have HC1 : Hid (jC ls (k + 1) = checkL (jC ls k) (ls.getD k ByteArray.empty).data.toList) := rfl
      have HB1 : Hid (jB ls (k + 1) = jB ls k ++ entL (jC ls k) (ls.getD k ByteArray.empty).data.toList) := rfl
      have HNL1 : Hid (nlS ls k = noNL (ls.getD k ByteArray.empty).data.toList) := rfl
      obtain ⟨x, hx⟩ : ∃ x, ls.getD k ByteArray.empty = x := ⟨_, rfl⟩
      rw [hx] at c1 hs1 HC1 HB1 HNL1
      obtain ⟨c, hc⟩ : ∃ c, jC ls k = c := ⟨_, rfl⟩
      rw [hc] at j0 j1 HC1 HB1 ⊢
      obtain ⟨O, hO⟩ : ∃ O, jB ls k = O := ⟨_, rfl⟩
      rw [hO] at HB1 hlen HBU
      clear hx hc hO
      have HEN := Lib.hid (implEnt c x wr j0 j1 hs1 (HD.out.on HBW.out))
      have hel := (entL_len c x.data.toList j0 j1).2
      rw [show x.data.toList.length = x.size by simp] at hel
      have HES : Hid (((⟨(entL c x.data.toList).toArray⟩ : ByteArray).size : Nat) = (entL c x.data.toList).length) := rfl
      have HEL : Hid ((⟨(entL c x.data.toList).toArray⟩ : ByteArray).data.toList = entL c x.data.toList) := by rw [Hid]
      obtain ⟨en, hen⟩ : ∃ en : ByteArray, (⟨(entL c x.data.toList).toArray⟩ : ByteArray) = en := ⟨_, rfl⟩
      rw [hen] at HEN HES HEL
      obtain ⟨L, hL⟩ : ∃ L, entL c x.data.toList = L := ⟨_, rfl⟩
      rw [hL] at hel HES HEL HB1
      obtain ⟨c', hc'⟩ : ∃ c', checkL c x.data.toList = c' := ⟨_, rfl⟩
      rw [hc'] at HEN HC1
      clear hen hL hc' j0 j1
      have e1 := (HBW.out.cell (p := ⟨b1, o1 + k, none⟩) l1).trans c1
      go_wp2_with fail
      refine HEN.out.mono ?_; rintro e w2 ⟨rfl, hb2⟩
      have HBU2 := Lib.hid (HBU.out.old hb2)
      have HBW2 := Lib.hid (HBW.out.trans (hb2.mono HBW.out.size))
      clear hb2 e1
      have HCO := Lib.hid (fun w => Tryd.strings_Contains_one x 10 w)
      rw [nl_index] at HCO
      cases hnl : noNL x.data.toList with
      | false =>
        rw [hnl] at HCO HNL1
        have HNO : Hid (okJ ls = false) := ok_nl hkl HNL1.out
        clear hnl
        go_wp2_with fail
        refine (HCO.out _).mono ?_; rintro e w3 ⟨rfl, h3⟩
        rw [h3]
        clear h3
        go_wp2
        go_ret2
        exact ⟨ret_jou (ansJ_no HNO.out).symm HNO.out.symm, HBW2.out⟩
      | true =>
        rw [hnl] at HCO HNL1
        have HST := Lib.hid (nl_step ls k HAL.out HNL1.out)
        clear hnl
        go_wp2_with fail
        refine (HCO.out _).mono ?_; rintro e w3 ⟨rfl, h3⟩
        rw [h3]
        clear h3
        go_wp2_with fail
        refine (Tryd.Buffer_Len w.heap.size w.heap.size _ _ HBU2.out).mono ?_; rintro e w' ⟨rfl, q, rfl⟩
        have HBL : Hid ((Lib.byteCells O).length = O.length) := byteCells_len O
        rw [HBL.out]
        have v1 : IntKind.i64.wrap ((O.length : Int) + (en.size : Int)) = ((O.length + L.length : Nat) : Int) := by rw [IntWalk.i64_in _ (by have := HES.out; omega)]; have := HES.out; omega
        obtain ⟨N, hN⟩ : ∃ N, O.length + L.length = N := ⟨_, rfl⟩
        rw [hN] at v1
        have HN2 : Hid ((jB ls (k + 1)).length = N) := by rw [Hid, HB1.out, List.length_append]; exact hN
        clear hN
        have HBU3 : Hid (BufB w.heap.size O (w2.drewN q)) := HBU2.out
        have HBW3 : Hid (Below w.heap.size w (w2.drewN q)) := below_dr HBW2.out q
        by_cases hbig : 4000 < N
        · have HNO : Hid (okJ ls = false) := ok_big (k := k + 1) (by omega) (by rw [HN2.out]; exact hbig)
          have t1 : (4000 : Int) < (N : Int) := by omega
          have t2 : decide ((4000 : Int) < (N : Int)) = true := decide_eq_true t1
          clear hbig
          go_wp2
          go_ret2
          exact ⟨ret_jou (ansJ_no HNO.out).symm HNO.out.symm, HBW3.out⟩
        · have t1 : ¬ (4000 : Int) < (N : Int) := by omega
          have t2 : decide ((4000 : Int) < (N : Int)) = false := decide_eq_false t1
          have hN4 : N ≤ 4000 := by omega
          clear hbig
          go_wp2_with fail
          refine (buf_str _ O en _ HBU3.out HBW3.out.size (by have := HES.out; have := HN2.out; rw [HB1.out, List.length_append] at this; omega)).mono ?_; rintro e w4 ⟨rfl, hbf, hbe⟩
          rw [HEL.out] at hbf
          have HBU4 := Lib.hid hbf
          have HBW4 := Lib.hid (HBW3.out.trans hbe)
          clear hbf hbe
          go_wp2
          go_roundw
          case rel => exact ⟨k + 1, by omega, by go_num, by rw [HC1.out], by rw [HB1.out]; exact HBU4.out, HBW4.out, by rw [HN2.out]; exact hN4, HST.out⟩
          case measure => simp [RowKit.intOf]; omega
    · obtain rfl : k = n := by omega
      have HLEN : Hid (ls.length = k) := HN.out.symm
      have HYES : Hid (okJ ls = true) := ok_yes (by rw [HLEN.out]; exact HAL.out) (by rw [HLEN.out]; omega)
      go_wp2_with fail
      refine (Tryd.Buffer_String w.heap.size w.heap.size _ _ HBU.out).mono ?_; rintro e w' ⟨rfl, q, rfl⟩
      go_wp2
      go_ret2
      exact ⟨ret_jou (by rw [ansJ_yes HYES.out, HLEN.out]) HYES.out.symm, below_dr HBW.out q⟩
end Go.Proofs.YtkbnllaobnhfbaaDoor
