/- The law: an even pattern has its marks and is even, turned or with marks and gaps exchanged as well; a drawn pattern is even exactly if it is nowhere more uneven than by 1. -/
import Derived.Test.YtkipgeecibimoaaEvenM
import Derived.Test.YtkipgeecibimoaaDutyE
import Derived.Test.YtkipgeecibimoaaSMake
import Derived.Test.YtkipgeecibimoaaNotImplE
import Derived.Test.YtkipgeecibimoaaDrawW
import Derived.Deep.CutRange
namespace Go.Proofs.Ytkipgeecibimoaa
open Go.RowKit
set_option linter.unusedVariables false
set_option linter.unusedSimpArgs false

theorem heap_newE (w : World) (o : Obj) : (w.alloc o).heap[w.heap.size]? = some o := by unfold World.alloc; simp
theorem max2i (x y : Int) (w : World) : (Builtin.max2 (.int .i64 x) (.int .i64 y)).run Try.prog w = .ok (.int .i64 (max x y)) w := by
  simp [Builtin.max2, go_sem]
  split <;> (congr 1; omega)
theorem max3 (x y z e : Int) (he : e = max (max x y) z) (w : World) : (Builtin.max_ #[2, 2, 2] 2 #[.int .i64 x, .int .i64 y, .int .i64 z]).run Try.prog w = .ok (.int .i64 e) w := by
  subst he
  simp [Builtin.max_, go_sem, max2i, Result.andThen]
theorem acc_levels (s m : Nat) : ∀ T p, Lv (accL s m p T) := by
  intro T
  induction T with
  | zero => intro p x h; simp [accL] at h
  | succ T ih =>
    intro p
    rw [accL]
    split
    · intro x h
      rcases List.mem_cons.1 h with rfl | h
      · exact .inr rfl
      · exact ih _ x h
    · intro x h
      rcases List.mem_cons.1 h with rfl | h
      · exact .inl rfl
      · exact ih _ x h
set_option maxHeartbeats 1000000 in
set_option maxRecDepth 100000 in
theorem walk_FnEven (a : Option Addr) (n cap : Nat) (l : List Int) (a2 : Option Addr) (n2 cap2 : Nat) (l2 : List Int) (w : World) (hn : n = l.length) (hr : ByteRow w a l) (hm : n ≤ maxLen) (hn2 : n2 = l2.length) (hr2 : ByteRow w a2 l2) (hm2 : n2 ≤ maxLen) :
    Calls Try.prog 6 #[.slice a n cap, .slice a2 n2 cap2] w fun e w' => e = .returned (.bool true) ∧ Below w.heap.size w w' := by
  by_cases hlong : n ≤ 1048576 ∧ n2 ≤ 1048576
  · obtain ⟨k1, k2⟩ := hlong
    have HLO := Lib.hid (fun w => b10Long_any a a2 n cap n2 cap2 w)
    rw [decide_eq_false (show ¬ 1048576 < n by omega), decide_eq_false (show ¬ 1048576 < n2 by omega)] at HLO
    have HR1 := Lib.hid (fun W (hb : Below w.heap.size w W) => hr.keep hb (Nat.le_refl _))
    have HR2 := Lib.hid (fun W (hb : Below w.heap.size w W) => hr2.keep hb (Nat.le_refl _))
    have hv0 := b10V_bd l 0 24 (by omega)
    have HV0 := Lib.hid (fun W (hb : Below w.heap.size w W) => b10At_any a n cap l 0 24 W hn (HR1.out W hb) (by omega) (by omega) (by omega))
    obtain ⟨V0, e0⟩ := Int.eq_ofNat_of_zero_le hv0.1
    rw [e0] at HV0 hv0
    obtain ⟨S, hS0⟩ : ∃ m, 1 + V0 = m := ⟨_, rfl⟩
    have HS0 : Hid ((1 : Int) + (V0 : Int) = (S : Int)) := by show _ = _; omega
    have hwS : IntKind.i64.wrap (1 + (V0 : Int)) = (S : Int) := by rw [HS0.out]; exact IntWalk.i64_in _ (by omega)
    have hS1 : 1 ≤ S := by omega
    have hS24 : S ≤ 24 := by omega
    have hv1 := b10V_bd l 1 ((S : Int) + 1) (by omega)
    have HV1 := Lib.hid (fun W (hb : Below w.heap.size w W) => b10At_any a n cap l 1 ((S : Int) + 1) W hn (HR1.out W hb) (by omega) (by omega) (by omega))
    obtain ⟨mk, e1⟩ := Int.eq_ofNat_of_zero_le hv1.1
    rw [e1] at HV1 hv1
    have hmS : mk ≤ S := by omega
    have hv2 := b10V_bd l2 0 (S : Int) (by omega)
    have HV2 := Lib.hid (fun W (hb : Below w.heap.size w W) => b10At_any a2 n2 cap2 l2 0 (S : Int) W hn2 (HR2.out W hb) (by omega) (by omega) (by omega))
    obtain ⟨t, e2⟩ := Int.eq_ofNat_of_zero_le hv2.1
    rw [e2] at HV2 hv2
    have htS : t < S := by omega
    have HLV := Lib.hid (fun W (hb : Below w.heap.size w W) => levels_w a2 n2 cap2 l2 S W hn2 k2 (HR2.out W hb) (by omega))
    -- the pattern and its turns
    have HE := Lib.hid (fun w => implEven_t S mk w hS1 (by omega) hmS)
    obtain ⟨A, hA⟩ : ∃ A : ByteArray, (⟨(accL mk S 0 S).toArray⟩ : ByteArray) = A := ⟨_, rfl⟩
    rw [hA] at HE
    have hAs : A.size = S := by rw [← hA, ← size_toList]; exact accL_len mk S S 0
    have hAw : waveB A.data.toList = true := by rw [← hA]; exact txt_wave _ (acc_levels mk S S 0) (by rw [accL_len]; omega)
    obtain ⟨U, hU⟩ : ∃ U : ByteArray, A.extract t S ++ A.extract 0 t = U := ⟨_, rfl⟩
    have hUl : U.data.toList = A.data.toList.drop t ++ A.data.toList.take t := by
      rw [← hU, ByteArray.data_append, Array.toList_append, ByteArray.data_extract, ByteArray.data_extract, Array.toList_extract, Array.toList_extract]
      have hl : A.data.toList.length = S := by rw [size_toList]; exact hAs
      simp [List.extract]
      rw [List.take_of_length_le (by rw [List.length_drop, hl]; exact Nat.le_refl _)]
    obtain ⟨O, hO⟩ : ∃ O : ByteArray, (⟨(notL U.data.toList).toArray⟩ : ByteArray) = O := ⟨_, rfl⟩
    have hOl : O.data.toList = notL U.data.toList := by rw [← hO]
    obtain ⟨hUs, hOs, uA, uU, uO, hon⟩ := even_three A U O mk S t (by omega) hmS htS hA.symm hAs hUl hOl hAw
    clear e0 e1 e2 hv0 hv1 hv2 hS0 hn hr hn2 hr2
    have hUw : waveB U.data.toList = true := by
      have hall : A.data.toList.all lvlB = true := by unfold waveB at hAw; simp only [Bool.and_eq_true] at hAw; exact hAw.1
      have h2 : U.data.toList.all lvlB = true := by
        rw [hUl, List.all_append]
        rw [List.all_eq_true] at hall
        simp only [Bool.and_eq_true, List.all_eq_true]
        exact ⟨fun x hx => hall x (List.mem_of_mem_drop hx), fun x hx => hall x (List.mem_of_mem_take hx)⟩
      unfold waveB
      rw [h2, size_toList]
      simp; omega
    have hOw : waveB O.data.toList = true := by
      rw [hOl]
      have h2 : ∀ x ∈ U.data.toList, x = 48 ∨ x = 49 := by
        intro x hx
        unfold waveB at hUw
        simp only [Bool.and_eq_true] at hUw
        have h := List.all_eq_true.1 hUw.1 x hx
        have h2 : (x.toNat : Int) = 48 ∨ (x.toNat : Int) = 49 := by simpa [lvlB] using h
        rcases h2 with h2 | h2
        · exact .inl (UInt8.toNat_inj.1 (show x.toNat = 48 by omega))
        · exact .inr (UInt8.toNat_inj.1 (show x.toNat = 49 by omega))
      have h3 : Lv (notL U.data.toList) := by
        intro x hx
        unfold notL at hx
        obtain ⟨y, hy, rfl⟩ := List.mem_map.1 hx
        rcases h2 y hy with h | h <;> rw [h]
        · exact .inr (by decide)
        · exact .inl (by decide)
      exact txt_wave (notL U.data.toList) h3 (by unfold notL; rw [List.length_map, size_toList]; omega)
    have pA : patB A = true := by unfold patB; rw [hAw]; simp; omega
    have pU : patB U = true := by unfold patB; rw [hUw]; simp; omega
    have pO : patB O = true := by unfold patB; rw [hOw]; simp; omega
    have HNU := Lib.hid (fun w => implNot_t U w (by unfold maxLen; omega) hUw)
    rw [hO] at HNU
    have HDA := Lib.hid (fun w => implDuty_t A w (by unfold maxLen; omega) hAw (by omega))
    have hdn : dutN A = mkN (mk : Int) (S : Int) := by unfold dutN; rw [hon, hAs]
    have hdd : dutD A = mkD (mk : Int) (S : Int) := by unfold dutD; rw [hon, hAs]
    rw [hdn, hdd] at HDA
    have HSM := Lib.hid (fun w => specMake_t (mk : Int) (S : Int) w (by omega) (by omega) (by omega) (by omega) (by omega))
    have ev : ∀ X : ByteArray, patB X = true → unS X ≤ 1 → X.size ≤ 100 → ∀ w, Calls Try.prog 31 #[.string X] w fun e w' => e = .returned (.bool true) ∧ Below w.heap.size w w' := by
      intro X hX h1 hs w
      have h := implIsEven X (unS X) w (by unfold maxLen; omega) rfl
      rw [hX, decide_eq_true h1] at h
      exact h
    have HEA := Lib.hid (ev A pA uA (by omega))
    have HEU := Lib.hid (ev U pU uU (by omega))
    have HEO := Lib.hid (ev O pO uO (by omega))
    obtain ⟨N1, hN1⟩ : ∃ N, mkN (mk : Int) (S : Int) = N := ⟨_, rfl⟩
    obtain ⟨D1, hD1⟩ : ∃ N, mkD (mk : Int) (S : Int) = N := ⟨_, rfl⟩
    rw [hN1, hD1] at HDA HSM
    have HUU := Lib.hid hU
    have hAe : ((A.size : Int) != (S : Int)) = false := by rw [hAs]; simp
    have hAe2 : (A.size != S) = false := by rw [hAs]; simp
    have hAS1 : S ≤ A.size := by omega
    have hAS2 : A.size ≤ S := by omega
    have HAS := Lib.hid hAs
    clear hA hAs hAw hU hUl hO hOl hUs hOs uA uU uO hon hUw hOw pA pU pO hdn hdd ev hN1 hD1
    go_enter Try.func6, Try.ntmps6
    go_wp2_with fail
    refine (HLO.out _).mono ?_; rintro e w' ⟨rfl, rfl⟩
    go_wp2_with fail
    refine (HV0.out _ (Below.refl _ _)).mono ?_; rintro e w' ⟨rfl, rfl⟩
    go_wp2_with fail
    refine (HV1.out _ (Below.refl _ _)).mono ?_; rintro e w' ⟨rfl, rfl⟩
    go_wp2_with fail
    refine (HE.out _).mono ?_; rintro e w1 ⟨rfl, b1⟩
    have HB1 := Lib.hid b1
    clear b1
    go_wp2_with fail
    refine (HV2.out _ HB1.out).mono ?_; rintro e w' ⟨rfl, rfl⟩
    go_wp2_with fail
    have ht0 : (0 : Int) ≤ (t : Int) := by omega
    have htA : (t : Int) ≤ (A.size : Int) := by omega
    have htA2 : t ≤ A.size := by omega
    have hx1 : (A.extract t A.size).size = S - t := by rw [ByteArray.size_extract, HAS.out]; omega
    have hx2 : (A.extract 0 t).size = t := by rw [ByteArray.size_extract, HAS.out]; omega
    have hcat : (A.extract t A.size).size + (A.extract 0 t).size ≤ maxLen := by rw [hx1, hx2]; unfold maxLen; omega
    have hadd := fun w => run_string_add_sum (P := Try.prog) w (A.extract t A.size) (A.extract 0 t) hcat
    rw [show A.extract t A.size ++ A.extract 0 t = U from by rw [HAS.out]; exact HUU.out] at hadd
    clear hx1 hx2 hcat
    go_quiet (fail)
    obtain ⟨w1q, hw1q⟩ : ∃ W, w1.drewN nq = W := ⟨_, rfl⟩
    have HBq : Hid (Below w.heap.size w w1q) := by rw [← hw1q]; exact ⟨HB1.out.os, HB1.out.tape, HB1.out.output, HB1.out.size, HB1.out.block⟩
    rw [hw1q]
    clear hw1q hadd
    go_wp2_with fail
    refine (HNU.out _).mono ?_; rintro e w2 ⟨rfl, b2⟩
    have HB2 := Lib.hid (HBq.out.trans (b2.mono HBq.out.size))
    clear b2
    go_wp2_with fail
    refine (HDA.out _).mono ?_; rintro e w3 ⟨rfl, b3⟩
    have HB3 := Lib.hid (HB2.out.trans (b3.mono HB2.out.size))
    clear b3
    obtain ⟨R3, hR3⟩ : ∃ B, w3.heap.size = B := ⟨_, rfl⟩
    obtain ⟨W3, hW3⟩ : ∃ W, w3.alloc (.cells #[.int .i64 N1, .int .i64 D1] 37) = W := ⟨_, rfl⟩
    have HBW3 : Hid (Below w.heap.size w W3) := by rw [← hW3]; exact HB3.out.alloc HB3.out.size _
    have q3 : W3.heap[R3]? = some (.cells #[.int .i64 N1, .int .i64 D1] 37 (0, 0)) := by rw [← hW3, ← hR3]; exact heap_newE w3 _
    have z3 : W3.heap.size = R3 + 1 := by rw [← hW3, ← hR3]; simp
    have HQ3 := Lib.hid q3
    have HZ3 := Lib.hid z3
    clear q3 z3
    go_wp2_with fail
    clear hW3 hR3
    refine (HSM.out _).mono ?_; rintro e w4 ⟨rfl, b4⟩
    have HB4 := Lib.hid b4
    clear b4
    obtain ⟨R4, hR4⟩ : ∃ B, w4.heap.size = B := ⟨_, rfl⟩
    obtain ⟨W4, hW4⟩ : ∃ W, w4.alloc (.cells #[.int .i64 N1, .int .i64 D1] 37) = W := ⟨_, rfl⟩
    have HK4 : Hid (Below (R3 + 1) W3 W4) := by rw [← hW4, ← HZ3.out]; exact HB4.out.alloc HB4.out.size _
    have q4 : W4.heap[R4]? = some (.cells #[.int .i64 N1, .int .i64 D1] 37 (0, 0)) := by rw [← hW4, ← hR4]; exact heap_newE w4 _
    have l34 : R3 < R4 := by have := HB4.out.size; have := HZ3.out; omega
    have p0 : W4.cell? ⟨R3, 0, none⟩ = some (.int .i64 N1) := by rw [Lib.cell_of_heap ((HK4.out.block R3 (by omega)).trans HQ3.out)]; rfl
    have p1 : W4.cell? ⟨R3, 1, none⟩ = some (.int .i64 D1) := by rw [Lib.cell_of_heap ((HK4.out.block R3 (by omega)).trans HQ3.out)]; rfl
    have p2 : W4.cell? ⟨R4, 0, none⟩ = some (.int .i64 N1) := by rw [Lib.cell_of_heap q4]; rfl
    have p3 : W4.cell? ⟨R4, 1, none⟩ = some (.int .i64 D1) := by rw [Lib.cell_of_heap q4]; rfl
    have HBW4 : Hid (Below w.heap.size w W4) := HBW3.out.trans (HK4.out.mono (by have := HBW3.out.size; have := HZ3.out; omega))
    clear q4
    go_wp2_with fail
    clear hW4 hR4 p0 p1 p2 p3
    refine (HEA.out _).mono ?_; rintro e w5 ⟨rfl, b5⟩
    have HB5 := Lib.hid (HBW4.out.trans (b5.mono HBW4.out.size))
    clear b5
    go_wp2_with fail
    refine (HEU.out _).mono ?_; rintro e w6 ⟨rfl, b6⟩
    have HB6 := Lib.hid (HB5.out.trans (b6.mono HB5.out.size))
    clear b6
    go_wp2_with fail
    refine (HEO.out _).mono ?_; rintro e w7 ⟨rfl, b7⟩
    have HB7 := Lib.hid (HB6.out.trans (b7.mono HB6.out.size))
    clear b7
    go_wp2_with fail
    refine (HLV.out _ HB7.out).mono ?_; rintro e w8 ⟨s, rfl, hsw, hss, b8⟩
    have HB8 := Lib.hid (HB7.out.trans (b8.mono HB7.out.size))
    have pS : patB s = true := by unfold patB; rw [hsw, hss]; simp; omega
    obtain ⟨Y, hY⟩ : ∃ Y, unS s = Y := ⟨_, rfl⟩
    have HMU := Lib.hid (fun w => implMost_t s w (by unfold maxLen; omega) pS)
    have HIE := Lib.hid (fun w => implIsEven s Y w (by unfold maxLen; omega) hY)
    rw [pS, Bool.true_and] at HIE
    rw [show unF (cU s) (fun _ => s.size) s.size s.size = Y from hY] at HMU
    have hY64 : Y ≤ S := by rw [← hY, ← hss]; exact unS_le s s.size (fun j hj i i' _ _ => by have := cntN_le (bR s) i j; omega)
    have hge := fun j i i' => unS_ge s j i i'
    have hle := fun d => unS_le s d
    rw [hY] at hge hle
    rw [hss] at hge hle
    have HGE := Lib.hid hge
    have HLE := Lib.hid hle
    have HSS := Lib.hid hss
    have HSW := Lib.hid hsw
    clear b8 hsw hss pS hY hge hle
    go_wp2_with fail
    refine (HMU.out _).mono ?_; rintro e w9 ⟨rfl, b9⟩
    have HB9 := Lib.hid (HB8.out.trans (b9.mono HB8.out.size))
    clear b9
    obtain ⟨yb, hyb⟩ : ∃ b, decide (Y ≤ 1) = b := ⟨_, rfl⟩
    have hyb2 : decide ((Y : Int) ≤ 1) = yb := by rw [← hyb, decide_eq_decide]; omega
    rw [hyb] at HIE
    have hyy : (yb != yb) = false := by cases yb <;> rfl
    go_wp2_with fail
    refine (HIE.out _).mono ?_; rintro e w10 ⟨rfl, b10⟩
    have HB10 := Lib.hid (HB9.out.trans (b10.mono HB9.out.size))
    clear b10
    have hcat : s.size + s.size ≤ maxLen := by have := HSS.out; unfold maxLen; omega
    obtain ⟨s2, hs2⟩ : ∃ s2, s ++ s = s2 := ⟨_, rfl⟩
    have hadd := fun w => run_string_add_sum (P := Try.prog) w s s hcat
    rw [hs2] at hadd
    have hs2z : s2.size = S + S := by rw [← hs2, ByteArray.size_append, HSS.out]
    have h2at : ∀ j (h : j < s2.size), (s2[j].toNat : Int) = if bR s j then 49 else 48 := by
      intro j hj
      have hl : s2.data.toList = s.data.toList ++ s.data.toList := by rw [← hs2, ByteArray.data_append, Array.toList_append]
      have h1 := bR_two s j (by rw [← hl, size_toList]; exact hj)
      rw [← hl, get_toList s2 j hj] at h1
      have hm : s2[j] ∈ s2.data.toList := by simp [ByteArray.getElem_eq_getElem_data]
      rw [hl] at hm
      have hm2 : s2[j] ∈ s.data.toList := by simpa using hm
      have hw := HSW.out
      unfold waveB at hw
      simp only [Bool.and_eq_true] at hw
      have h := List.all_eq_true.1 hw.1 _ hm2
      have h2 : (s2[j].toNat : Int) = 48 ∨ (s2[j].toNat : Int) = 49 := by simpa [lvlB] using h
      rw [h1]
      by_cases h9 : s2[j] = 49
      · rw [h9]; rfl
      · have : (s2[j] == 49) = false := by simpa using h9
        rw [this]
        rcases h2 with h2 | h2
        · rw [h2]; rfl
        · exact absurd (UInt8.toNat_inj.1 (show s2[j].toNat = 49 by omega)) h9
    have H2 := Lib.hid h2at
    clear hs2 h2at
    go_wp2_with fail
    go_loopw [20, 22] (fun fv zv wr => ∃ fd z : Nat, 1 ≤ z ∧ z ≤ S + 1 ∧ fv = .int .i64 (fd : Int) ∧ zv = .int .i64 (z : Int) ∧ fd ≤ Y ∧ Hid (∀ z', 1 ≤ z' → z' < z → ∀ i, i < S → cntN (bR s) i z' ≤ cntN (bR s) 0 z' + fd ∧ cntN (bR s) 0 z' ≤ cntN (bR s) i z' + fd) ∧ w10 = wr) (fun _ zv _ => S + 1 - (intOf zv).toNat)
    case atStart => exact ⟨0, 1, Nat.le_refl _, by omega, rfl, rfl, Nat.zero_le _, fun z' h1 h2 => absurd h2 (by omega), rfl⟩
    case round =>
      obtain ⟨fd, z, hz1, hz2, rfl, rfl, hfY, HP, rfl⟩ := hrel
      by_cases hlt : z ≤ S
      · go_wp2
        go_loopw [20, 23] (fun fv iv wr => ∃ fe i : Nat, i ≤ S ∧ fv = .int .i64 (fe : Int) ∧ iv = .int .i64 (i : Int) ∧ fe ≤ Y ∧ fd ≤ fe ∧ Hid (∀ i', i' < i → cntN (bR s) i' z ≤ cntN (bR s) 0 z + fe ∧ cntN (bR s) 0 z ≤ cntN (bR s) i' z + fe) ∧ w10 = wr) (fun _ iv _ => S - (intOf iv).toNat)
        case atStart => exact ⟨fd, 0, Nat.zero_le _, rfl, rfl, hfY, Nat.le_refl _, fun i' h => absurd h (by omega), rfl⟩
        case round =>
          obtain ⟨fe, i, hi, rfl, rfl, hfe, hfd, HI, rfl⟩ := hrel
          by_cases hli : i < S
          · go_wp2
            go_loopw [24, 25, 26] (fun nv mv kv wr => ∃ k P Q : Nat, k ≤ z ∧ kv = .int .i64 (k : Int) ∧ nv = .int .i64 (P : Int) ∧ mv = .int .i64 (Q : Int) ∧ Hid (P = cntN (bR s) i k) ∧ Hid (Q = cntN (bR s) 0 k) ∧ w10 = wr) (fun _ _ kv _ => z - (intOf kv).toNat)
            case atStart => exact ⟨0, 0, 0, Nat.zero_le _, rfl, rfl, rfl, rfl, rfl, rfl⟩
            case round =>
              obtain ⟨k, P, Q, hk, rfl, rfl, rfl, HPP, HQQ, rfl⟩ := hrel
              have hPk : P ≤ k := by rw [HPP.out]; exact cntN_le _ _ _
              have hQk : Q ≤ k := by rw [HQQ.out]; exact cntN_le _ _ _
              by_cases hlk : k < z
              · obtain ⟨j, hj⟩ : ∃ j, i + k = j := ⟨_, rfl⟩
                have hj2 : j < s2.size := by omega
                have hk2 : k < s2.size := by omega
                have wj : IntKind.i64.wrap ((i : Int) + (k : Int)) = (j : Int) := by rw [show (i : Int) + (k : Int) = (j : Int) by omega]; exact IntWalk.i64_in _ (by omega)
                have wj2 : (i : Int) + (k : Int) = (j : Int) := by omega
                have x1 := H2.out j hj2
                have x2 := H2.out k hk2
                have HP2 : Hid (cntN (bR s) i (k + 1) = P + (if bR s j then 1 else 0)) := by show _ = _; rw [cntN, HPP.out, hj]
                have HQ2 : Hid (cntN (bR s) 0 (k + 1) = Q + (if bR s k then 1 else 0)) := by show _ = _; rw [cntN, HQQ.out, Nat.zero_add]
                obtain ⟨u, hu⟩ : ∃ u, bR s j = u := ⟨_, rfl⟩
                obtain ⟨v, hv⟩ : ∃ v, bR s k = v := ⟨_, rfl⟩
                rw [hu] at x1 HP2
                rw [hv] at x2 HQ2
                have y1 : IntKind.u8.wrap (49 - 48) = 1 := by decide
                have y2 : IntKind.u8.wrap (48 - 48) = 0 := by decide
                clear hu hv hj
                have WJ2 := Lib.hid wj2
                clear wj2
                cases u <;> cases v
                all_goals
                  simp only [if_true, if_false, Bool.false_eq_true] at x1 x2
                  go_wp2
                  go_roundw
                  case rel => exact ⟨k + 1, _, _, by omega, by go_num, by first | rfl | go_num, by first | rfl | go_num, HP2.out.symm, HQ2.out.symm, by first | trivial | rfl⟩
                  case measure => simp [intOf]; omega
              · have hkz : k = z := by omega
                have hPz := HPP.out
                have hQz := HQQ.out
                rw [hkz] at hPz hQz
                have hPQ : P ≤ Q + Y ∧ Q ≤ P + Y := by
                  rw [hPz, hQz]
                  rcases Nat.lt_or_ge z S with h | h
                  · exact ⟨HGE.out z i 0 h hli (by omega), HGE.out z 0 i h (by omega) hli⟩
                  · have hzS : z = S := by omega
                    have := cnt_round s i
                    rw [HSS.out] at this
                    rw [hzS, this]; omega
                obtain ⟨e9, he9⟩ : ∃ e9, max (max fe (P - Q)) (Q - P) = e9 := ⟨_, rfl⟩
                have w1 : IntKind.i64.wrap ((P : Int) - (Q : Int)) = (P : Int) - (Q : Int) := IntWalk.i64_in _ (by omega)
                have w2 : IntKind.i64.wrap ((Q : Int) - (P : Int)) = (Q : Int) - (P : Int) := IntWalk.i64_in _ (by omega)
                have HE9 : Hid (fe ≤ e9 ∧ e9 ≤ Y ∧ P ≤ Q + e9 ∧ Q ≤ P + e9 ∧ (e9 : Int) = max (max (fe : Int) ((P : Int) - (Q : Int))) ((Q : Int) - (P : Int))) := by
                  refine ⟨by omega, by omega, by omega, by omega, by omega⟩
                have HPZ := Lib.hid hPz
                have HQZ := Lib.hid hQz
                clear hkz hPz hQz he9 hPQ
                have HREL : Hid (∀ i', i' < i + 1 → cntN (bR s) i' z ≤ cntN (bR s) 0 z + e9 ∧ cntN (bR s) 0 z ≤ cntN (bR s) i' z + e9) := by
                  intro i' hi'
                  by_cases h : i' = i
                  · subst h
                    rw [← HPZ.out, ← HQZ.out]
                    exact ⟨HE9.out.2.2.1, HE9.out.2.2.2.1⟩
                  · have h1 := HI.out i' (by omega)
                    have := HE9.out.1
                    omega
                have hmax := fun w => max3 (fe : Int) ((P : Int) - (Q : Int)) ((Q : Int) - (P : Int)) (e9 : Int) HE9.out.2.2.2.2 w
                go_wp2
                go_roundw
                case rel => exact ⟨e9, i + 1, by omega, by first | rfl | go_num, by go_num, HE9.out.2.1, Nat.le_trans hfd HE9.out.1, HREL, by first | trivial | rfl⟩
                case measure => simp [intOf]; omega
          · obtain rfl : i = S := by omega
            have HP2 : Hid (∀ z', 1 ≤ z' → z' < z + 1 → ∀ i', i' < i → cntN (bR s) i' z' ≤ cntN (bR s) 0 z' + fe ∧ cntN (bR s) 0 z' ≤ cntN (bR s) i' z' + fe) := by
              intro z' h1 h2 i' h3
              by_cases h : z' = z
              · subst h; exact HI.out i' h3
              · have := HP.out z' h1 (by omega) i' h3
                omega
            go_wp2
            go_roundw
            case rel => exact ⟨fe, z + 1, by omega, by omega, rfl, by go_num, hfe, HP2, by first | trivial | rfl⟩
            case measure => simp [intOf]; omega
      · have hY2 : Y ≤ 2 * fd := HLE.out (2 * fd) (fun j hj i i' hi hi' => by
          rcases Nat.eq_zero_or_pos j with h | h
          · subst h; simp [cntN]
          · have h1 := HP.out j h (by omega) i hi
            have h2 := HP.out j h (by omega) i' hi'
            omega)
        have f1 : (fd : Int) ≤ (Y : Int) := by omega
        have f2 : (Y : Int) ≤ 2 * (fd : Int) := by omega
        have f3 : decide ((fd : Int) ≤ (Y : Int)) = true := decide_eq_true f1
        have f4 : decide ((Y : Int) ≤ 2 * (fd : Int)) = true := decide_eq_true f2
        have wf : IntKind.i64.wrap (2 * (fd : Int)) = 2 * (fd : Int) := IntWalk.i64_in _ (by omega)
        go_wp2
        go_ret
        exact ⟨rfl, HB10.out⟩
  · have HLO := Lib.hid (fun w => b10Long_any a a2 n cap n2 cap2 w)
    have hb : (decide (1048576 < n) || decide (1048576 < n2)) = true := by simp; omega
    rw [hb] at HLO
    clear hb hr hr2 hn hn2
    go_enter Try.func6, Try.ntmps6
    go_wp2_with fail
    refine (HLO.out _).mono ?_; rintro e w' ⟨rfl, rfl⟩
    go_wp2
    go_ret
    exact ⟨rfl, Below.refl _ _⟩
end Go.Proofs.Ytkipgeecibimoaa
