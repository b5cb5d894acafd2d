/- The journal: the model's side. -/
import Derived.Test.YtkbnllaobnhfbaaDoorJouM
import Derived.Test.YtkbnllaobnhfbaaDoorScoI
import Derived.Test.YtkbnllaobnhfbaaDoorDecSpec
import Derived.Deep.RegionHeld3
namespace Go.Proofs.YtkbnllaobnhfbaaDoor
open Go.RowKit Go.Lib
set_option linter.unusedVariables false
set_option linter.unusedSimpArgs false
theorem bytes_appJ (a b : List UInt8) : ((⟨a.toArray⟩ : ByteArray) ++ (⟨b.toArray⟩ : ByteArray)) = ⟨(a ++ b).toArray⟩ := by
  apply ByteArray.ext
  rw [ByteArray.data_append]
  simp
theorem bytes_self (x : ByteArray) : x = ⟨x.data.toList.toArray⟩ := by cases x; simp
def DnJ (w W : World) : Prop := Below w.heap.size w W
theorem DnJ.dr {w W : World} (h : DnJ w W) : DnJ w W.drew := Below.drew h
theorem DnJ.call {w W W' : World} (h : DnJ w W) (b : Below W.heap.size W W') : DnJ w W' := Below.trans h (b.mono (Below.size h))
theorem cell_drJ {W : World} {a : Addr} {v : Value} (h : W.cell? a = some v) : W.drew.cell? a = some v := h
theorem cell_keptJ {w w' : World} {a : Addr} {v : Value} (b : Below w.heap.size w w') (h : w.cell? a = some v) : w'.cell? a = some v :=
  (b.cell (World.block_lt_of_cell? w _ h)).trans h
/-- the strings of one entry, joined -/
theorem ent_join (o : List UInt8) (c : Int) (x : ByteArray) : (⟨(o ++ entL c x.data.toList).toArray⟩ : ByteArray) = ⟨o.toArray⟩ ++ (((⟨(itoa (checkL c x.data.toList)).toArray⟩ ++ ⟨#[32]⟩) ++ x) ++ ⟨#[10]⟩) := by
  have e1 : (⟨#[32]⟩ : ByteArray) = ⟨([32] : List UInt8).toArray⟩ := rfl
  have e2 : (⟨#[10]⟩ : ByteArray) = ⟨([10] : List UInt8).toArray⟩ := rfl
  rw [bytes_self x, e1, e2, bytes_appJ, bytes_appJ, bytes_appJ, bytes_appJ]
  simp [entL]
theorem ent_join0 (c : Int) (x : ByteArray) : (⟨(entL c x.data.toList).toArray⟩ : ByteArray) = ((⟨(itoa (checkL c x.data.toList)).toArray⟩ ++ ⟨#[32]⟩) ++ x) ++ ⟨#[10]⟩ := by
  have e1 : (⟨#[32]⟩ : ByteArray) = ⟨([32] : List UInt8).toArray⟩ := rfl
  have e2 : (⟨#[10]⟩ : ByteArray) = ⟨([10] : List UInt8).toArray⟩ := rfl
  rw [bytes_self x, e1, e2, bytes_appJ, bytes_appJ, bytes_appJ]
  simp [entL]
set_option maxHeartbeats 8000000 in
set_option maxRecDepth 100000 in
theorem specJ (a : Option Addr) (n cap : Nat) (ls : List ByteArray) (w : World) (hn : n = ls.length) (h : SRow w a ls) (hm : n ≤ maxLen) (hs : ∀ k (hk : k < ls.length), ls[k].size ≤ maxLen) (ht : jT ls n ≤ 4000) :
    Calls Tryd.prog 37 #[.slice a n cap] w fun e w' => e = .returned (.string ⟨(jB ls n).toArray⟩) ∧ Below w.heap.size w w' := by
  have HN := Lib.hid hn
  have HA := Lib.hid h
  have HSZ := Lib.hid hs
  have HT := Lib.hid ht
  have hnb : n ≤ 1400 := by have := jT_k ls n; omega
  clear hn h hs ht hm
  go_enter Tryd.func37, Tryd.ntmps37
  go_wp2
  go_loopw [3, 4, 5] (fun ov cv iv wr => ∃ k : Nat, k ≤ n ∧ iv = .int .i64 (k : Int) ∧ cv = .int .i64 (jC ls k) ∧ ov = .string ⟨(jB ls k).toArray⟩ ∧ Below w.heap.size w wr) (fun _ _ iv _ => n - (intOf iv).toNat)
  case atStart => exact ⟨0, Nat.zero_le _, rfl, rfl, rfl, Below.refl _ _⟩
  case round =>
    obtain ⟨k, hk, rfl, rfl, rfl, hB⟩ := hrel
    by_cases hlt : k < n
    · have hkl : k < ls.length := by have := HN.out; omega
      obtain ⟨b1, o1, rfl, l1, c1⟩ := HA.out.get k hkl
      have hs1 := HSZ.out k hkl
      rw [getD_s hkl] at hs1
      obtain ⟨j0, j1⟩ := jC_bd ls k
      have hup := jB_up ls k
      have ht1 : jT ls (k + 1) ≤ 4000 := Nat.le_trans (jT_up ls (by omega)) HT.out
      have hT1 : jT ls (k + 1) = jT ls k + ((ls.getD k ByteArray.empty).size + 3) := rfl
      have hC1 : jC ls (k + 1) = checkL (jC ls k) (ls.getD k ByteArray.empty).data.toList := rfl
      have hB1 : jB ls (k + 1) = jB ls k ++ entL (jC ls k) (ls.getD k ByteArray.empty).data.toList := rfl
      obtain ⟨x, hx⟩ : ∃ x, ls.getD k ByteArray.empty = x := ⟨_, rfl⟩
      rw [hx] at c1 hs1 hT1 hC1 hB1
      obtain ⟨c, hc⟩ : ∃ c, jC ls k = c := ⟨_, rfl⟩
      obtain ⟨O, hO⟩ : ∃ O, jB ls k = O := ⟨_, rfl⟩
      rw [hc] at j0 j1 hC1 hB1
      rw [hO] at hup hB1
      obtain ⟨k0, k1⟩ := checkL_bd c x.data.toList j0 j1
      have HC1 := Lib.hid hC1
      have HJ : Hid ((⟨(jB ls (k + 1)).toArray⟩ : ByteArray) = _) := (congrArg (fun l : List UInt8 => (⟨l.toArray⟩ : ByteArray)) hB1).trans (ent_join O c x)
      have HCK := Lib.hid (specCheck c x)
      have hxs : x.size ≤ 4000 := by omega
      have hOs : O.length ≤ 10000 := by omega
      clear hT1 hC1 hB1 hx hup ht1
      rw [hc, hO]
      clear hc hO
      have e1 := (hB.cell (p := ⟨b1, o1 + k, none⟩) l1).trans c1
      go_wp2_with fail
      refine (HCK.out _ hs1 j0 j1).mono ?_; rintro e w' ⟨rfl, rfl⟩
      have HDC := Lib.hid (fun W => specDec (checkL c x.data.toList) W (by omega) (by omega))
      have hil := itoa_pos_len (checkL c x.data.toList) k0 k1
      obtain ⟨c', hc'⟩ : ∃ c', checkL c x.data.toList = c' := ⟨_, rfl⟩
      rw [hc'] at HJ HDC HC1 hil ⊢
      obtain ⟨X, hX⟩ : ∃ X : ByteArray, (⟨(itoa c').toArray⟩ : ByteArray) = X := ⟨_, rfl⟩
      have hXs : X.size ≤ 5 := by rw [← hX]; exact hil.2
      obtain ⟨OB, hOB⟩ : ∃ OB : ByteArray, (⟨O.toArray⟩ : ByteArray) = OB := ⟨_, rfl⟩
      have hOBs : OB.size ≤ 10000 := by rw [← hOB]; exact hOs
      rw [hX] at HJ HDC
      rw [hOB] at HJ ⊢
      have hz32 : (⟨#[32]⟩ : ByteArray).size = 1 := rfl
      have hz10 : (⟨#[10]⟩ : ByteArray).size = 1 := rfl
      have a1 := fun w => run_string_add_sum (P := Tryd.prog) w X ⟨#[32]⟩ (by omega)
      have z1 : (X ++ ⟨#[32]⟩).size ≤ 6 := by rw [ByteArray.size_append]; omega
      obtain ⟨Z1, hZ1⟩ : ∃ Z, X ++ ⟨#[32]⟩ = Z := ⟨_, rfl⟩
      rw [hZ1] at a1 z1 HJ
      have a2 := fun w => run_string_add_sum (P := Tryd.prog) w Z1 x (by omega)
      have z2 : (Z1 ++ x).size ≤ 4006 := by rw [ByteArray.size_append]; omega
      obtain ⟨Z2, hZ2⟩ : ∃ Z, Z1 ++ x = Z := ⟨_, rfl⟩
      rw [hZ2] at a2 z2 HJ
      have a3 := fun w => run_string_add_sum (P := Tryd.prog) w Z2 ⟨#[10]⟩ (by omega)
      have z3 : (Z2 ++ ⟨#[10]⟩).size ≤ 4007 := by rw [ByteArray.size_append]; omega
      obtain ⟨Z3, hZ3⟩ : ∃ Z, Z2 ++ ⟨#[10]⟩ = Z := ⟨_, rfl⟩
      rw [hZ3] at a3 z3 HJ
      have a4 := fun w => run_string_add_sum (P := Tryd.prog) w OB Z3 (by omega)
      obtain ⟨Z4, hZ4⟩ : ∃ Z, OB ++ Z3 = Z := ⟨_, rfl⟩
      rw [hZ4] at a4 HJ
      clear hZ1 hZ2 hZ3 hZ4 hX hOB hil hOBs hOs hXs z1 z2 z3 hz32 hz10 hc' c1
      have HD : DnJ w wr := hB
      go_wp2
      go_region_held3 (fun W => W.cell? ⟨b1, o1 + k, none⟩ = some (.string x) ∧ DnJ w W) (first | (go_split_ands; (refine ⟨?_, ?_⟩ <;> (first | (with_reducible assumption) | ((with_reducible apply cell_keptJ) <;> (with_reducible assumption)) | ((with_reducible refine cell_drJ ?_); (with_reducible assumption)) | ((with_reducible refine DnJ.dr ?_); (with_reducible assumption)) | ((with_reducible apply DnJ.call) <;> (with_reducible assumption)))))) (first | (go_at_call 43; (with_reducible refine (HDC.out _).mono ?_); rintro e w2 ⟨rfl, hb2⟩))
      all_goals go_wp2
      all_goals go_roundw
      all_goals first
        | (case rel => rename_i hHeld; exact ⟨k + 1, by omega, by go_num, by rw [HC1.out], by rw [HJ.out], hHeld.2⟩)
        | (case measure => simp [intOf]; omega)
        | skip
    · obtain rfl : k = n := by omega
      go_wp2
      go_ret
      exact ⟨rfl, hB⟩
def ansJ (ls : List ByteArray) : ByteArray := if okJ ls = true then ⟨(jB ls ls.length).toArray⟩ else ⟨#[]⟩
theorem ansJ_no {ls : List ByteArray} (h : okJ ls = false) : ansJ ls = ⟨#[]⟩ := by unfold ansJ; rw [h]; rfl
theorem ansJ_yes {ls : List ByteArray} (h : okJ ls = true) : ansJ ls = ⟨(jB ls ls.length).toArray⟩ := by unfold ansJ; rw [if_pos h]
theorem ret_jou {a b : ByteArray} {c d : Bool} (h : a = b) (h2 : c = d) : Ending.returned (.tuple #[.string a, .bool c]) = .returned (.tuple #[.string b, .bool d]) := by rw [h, h2]
set_option maxHeartbeats 8000000 in
set_option maxRecDepth 100000 in
theorem specJournal (a : Option Addr) (n cap : Nat) (ls : List ByteArray) (w : World) (hn : n = ls.length) (h : SRow w a ls) (hm : n ≤ 1048576) (hs : ∀ k (hk : k < ls.length), ls[k].size ≤ 1048576) :
    Calls Tryd.prog 17 #[.slice a n cap] w fun e w' => e = .returned (.tuple #[.string (ansJ ls), .bool (okJ ls)]) ∧ Below w.heap.size w w' := by
  have HN := Lib.hid hn
  have HA := Lib.hid h
  have HSZ := Lib.hid hs
  have HJ := Lib.hid (fun ht => specJ a n cap ls w hn h (by unfold maxLen; omega) (fun k hk => by have := hs k hk; unfold maxLen; omega) ht)
  clear hn h hs
  go_enter Tryd.func17, Tryd.ntmps17
  go_wp2
  go_loop [4, 5, 6] (fun tv iv kv => ∃ k : Nat, k ≤ n ∧ iv = .int .i64 (k : Int) ∧ tv = .int .i64 ((jT ls k : Nat) : Int) ∧ jT ls k ≤ 4000 ∧ (List.range k).all (nlS ls) = true) (fun _ iv _ => n - (intOf iv).toNat)
  case atStart => exact ⟨0, Nat.zero_le _, rfl, rfl, Nat.zero_le _, rfl⟩
  case round =>
    obtain ⟨k, hk, rfl, rfl, ht, hall⟩ := hrel
    have HAL := Lib.hid hall
    clear hall
    by_cases hlt : k < n
    · have hkl : k < ls.length := by have := HN.out; omega
      obtain ⟨b1, o1, rfl, l1, c1⟩ := HA.out.get k hkl
      have hs1 := HSZ.out k hkl
      rw [getD_s hkl] at hs1
      have HT1 : Hid (jT ls (k + 1) = jT ls k + ((ls.getD k ByteArray.empty).size + 3)) := rfl
      have HNL1 : Hid (nlS ls k = noNL (ls.getD k ByteArray.empty).data.toList) := rfl
      obtain ⟨x, hx⟩ : ∃ x, ls.getD k ByteArray.empty = x := ⟨_, rfl⟩
      rw [hx] at c1 hs1 HT1 HNL1
      obtain ⟨T, hT⟩ : ∃ T, jT ls k = T := ⟨_, rfl⟩
      rw [hT] at ht HT1 ⊢
      clear hx hT
      have w1 : IntKind.i64.wrap ((x.size : Int) + 3) = ((x.size + 3 : Nat) : Int) := by rw [IntWalk.i64_in _ (by omega)]; omega
      have w2 : IntKind.i64.wrap ((T : Int) + ((x.size + 3 : Nat) : Int)) = ((T + (x.size + 3) : Nat) : Int) := by rw [IntWalk.i64_in _ (by omega)]; omega
      have w3 : IntKind.i64.wrap ((T : Int) + ((x.size : Int) + 3)) = ((T + (x.size + 3) : Nat) : Int) := by rw [IntWalk.i64_in _ (by omega)]; omega
      obtain ⟨T', hT'⟩ : ∃ T', T + (x.size + 3) = T' := ⟨_, rfl⟩
      rw [hT'] at w2 w3 HT1
      clear hT'
      by_cases hbig : 4000 < T'
      · have HNO : Hid (okJ ls = false) := ok_tot (k := k + 1) (by omega) (by rw [HT1.out]; exact hbig)
        have t1 : (4000 : Int) < (T' : Int) := by omega
        have t2 : decide ((4000 : Int) < (T' : Int)) = true := decide_eq_true t1
        go_wp2
        go_ret2
        exact ⟨ret_jou (ansJ_no HNO.out).symm HNO.out.symm, Below.refl _ _⟩
      · have t1 : ¬ (4000 : Int) < (T' : Int) := by omega
        have t2 : decide ((4000 : Int) < (T' : Int)) = false := decide_eq_false t1
        go_wp2
        clear t1 t2 w1 w2 w3
        go_loop [6] (fun jv => ∃ j : Nat, j ≤ x.size ∧ jv = .int .i64 (j : Int) ∧ (x.data.toList.take j).all (fun b => b != 10) = true) (fun jv => x.size - (intOf jv).toNat)
        case atStart => exact ⟨0, Nat.zero_le _, rfl, rfl⟩
        case round =>
          obtain ⟨j, hj, rfl, hfr⟩ := hrel
          have HFR := Lib.hid hfr
          clear hfr
          by_cases hlt2 : j < x.size
          · by_cases h10 : x[j] = 10
            · have b10 : ((x[j].toNat : Int) == 10) = true := by rw [h10]; rfl
              have HNO : Hid (okJ ls = false) := ok_nl hkl (by rw [HNL1.out]; exact all_not _ x j hlt2 (by rw [h10]; rfl))
              clear h10
              go_wp2
              go_ret2
              exact ⟨ret_jou (ansJ_no HNO.out).symm HNO.out.symm, Below.refl _ _⟩
            · have b10 : ((x[j].toNat : Int) == 10) = false := by
                apply beq_eq_false_iff_ne.2
                intro e
                exact h10 (by apply UInt8.toNat_inj.1; rw [show (10 : UInt8).toNat = 10 from rfl]; omega)
              have HST := Lib.hid (all_step (fun b => b != 10) x j hlt2 HFR.out (by simp [h10]))
              clear h10
              go_wp2
              go_round
              case rel => exact ⟨j + 1, by omega, by go_num, HST.out⟩
              case measure => simp [intOf]; omega
          · have HST : Hid ((List.range (k + 1)).all (nlS ls) = true) := nl_step ls k HAL.out (by
              rw [HNL1.out]
              have h1 := HFR.out
              rw [take_all x j (by omega)] at h1
              exact h1)
            obtain rfl : j = x.size := by omega
            go_wp2
            go_round
            case rel => exact ⟨k + 1, by omega, by go_num, by rw [HT1.out], by rw [HT1.out]; omega, HST.out⟩
            case measure => simp [intOf]; omega
    · obtain rfl : k = n := by omega
      have HBS : Hid (((⟨(jB ls k).toArray⟩ : ByteArray).size : Int) = ((jB ls k).length : Nat)) := by rw [Hid]; rfl
      have HLEN : Hid (ls.length = k) := HN.out.symm
      obtain ⟨Y, hY⟩ : ∃ Y : ByteArray, (⟨(jB ls k).toArray⟩ : ByteArray) = Y := ⟨_, rfl⟩
      rw [hY] at HJ HBS
      have HY := Lib.hid hY
      clear hY
      go_wp2_with fail
      refine (HJ.out ht).mono ?_; rintro e w1 ⟨rfl, hb1⟩
      have HB1 := Lib.hid hb1
      clear hb1
      by_cases hbig : 4000 < (jB ls k).length
      · have HNO : Hid (okJ ls = false) := ok_big (k := k) (by have := HN.out; omega) hbig
        have t1 : (4000 : Int) < (Y.size : Int) := by have := HBS.out; omega
        have t2 : decide ((4000 : Int) < (Y.size : Int)) = true := decide_eq_true t1
        clear hbig
        go_wp2
        go_ret2
        exact ⟨ret_jou (ansJ_no HNO.out).symm HNO.out.symm, HB1.out⟩
      · have HYES : Hid (okJ ls = true) := ok_yes (by rw [HLEN.out]; exact HAL.out) (by rw [HLEN.out]; omega)
        have t1 : ¬ (4000 : Int) < (Y.size : Int) := by have := HBS.out; omega
        have t2 : decide ((4000 : Int) < (Y.size : Int)) = false := decide_eq_false t1
        clear hbig
        go_wp2
        go_ret2
        exact ⟨ret_jou (by rw [ansJ_yes HYES.out, HLEN.out, HY.out]) HYES.out.symm, HB1.out⟩
end Go.Proofs.YtkbnllaobnhfbaaDoor
