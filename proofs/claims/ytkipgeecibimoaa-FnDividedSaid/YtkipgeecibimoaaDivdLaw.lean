/- The law: a divided wave changes only where the wave goes up, and by the number of times; a toggled one changes at the first of each so many edges. -/
import Derived.Test.YtkipgeecibimoaaDivM
import Derived.Test.YtkipgeecibimoaaChain
import Derived.Test.YtkipgeecibimoaaTogLaw
import Derived.Test.YtkipgeecibimoaaDrawW
import Derived.Deep.CutRange
namespace Go.Proofs.Ytkipgeecibimoaa
open Go.RowKit
set_option linter.unusedVariables false
set_option linter.unusedSimpArgs false

theorem below_dW {B : Nat} {w w' : World} (n : Nat) (h : Below B w w') : Below B w (w'.drewN n) := ⟨h.os, h.tape, h.output, h.size, h.block⟩
set_option maxHeartbeats 1000000 in
set_option maxRecDepth 100000 in
theorem walk_FnDivided (a : Option Addr) (n cap : Nat) (l : List Int) (a2 : Option Addr) (n2 cap2 : Nat) (l2 : List Int) (w : World) (hn : n = l.length) (hr : ByteRow w a l) (hm : n ≤ maxLen) (hn2 : n2 = l2.length) (hr2 : ByteRow w a2 l2) (hm2 : n2 ≤ maxLen) :
    Calls Try.prog 11 #[.slice a n cap, .slice a2 n2 cap2] w fun e w' => e = .returned (.bool true) ∧ Below w.heap.size w w' := by
  by_cases hlong : n ≤ 1048576 ∧ n2 ≤ 1048576
  · obtain ⟨k1, k2⟩ := hlong
    have HLO := Lib.hid (fun w => b10Long_any a a2 n cap n2 cap2 w)
    rw [decide_eq_false (show ¬ 1048576 < n by omega), decide_eq_false (show ¬ 1048576 < n2 by omega)] at HLO
    have HWV := Lib.hid (wave_w a n cap l w hn k1 hr)
    have HR2 := Lib.hid (fun W (hb : Below w.heap.size w W) => hr2.keep hb (Nat.le_refl _))
    have hv0 := b10V_bd l2 0 6 (by omega)
    have HV0 := Lib.hid (fun W (hb : Below w.heap.size w W) => b10At_any a2 n2 cap2 l2 0 6 W hn2 (HR2.out W hb) (by omega) (by omega) (by omega))
    obtain ⟨V0, e0⟩ := Int.eq_ofNat_of_zero_le hv0.1
    rw [e0] at HV0 hv0
    obtain ⟨m, hm0⟩ : ∃ m, 1 + V0 = m := ⟨_, rfl⟩
    have hmi : IntKind.i64.wrap (1 + (V0 : Int)) = (m : Int) := by rw [show (1 : Int) + (V0 : Int) = (m : Int) by omega]; exact IntWalk.i64_in _ (by omega)
    have hmb : 1 ≤ m ∧ m ≤ 6 := by omega
    have hv1 := b10V_bd l2 1 ((m : Int) + 1) (by omega)
    have HV1 := Lib.hid (fun W (hb : Below w.heap.size w W) => b10At_any a2 n2 cap2 l2 1 ((m : Int) + 1) W hn2 (HR2.out W hb) (by omega) (by omega) (by omega))
    obtain ⟨gh, e1⟩ := Int.eq_ofNat_of_zero_le hv1.1
    rw [e1] at HV1 hv1
    have hgm : gh ≤ m := by omega
    have hv2 := b10V_bd l2 2 4 (by omega)
    have HV2 := Lib.hid (fun W (hb : Below w.heap.size w W) => b10At_any a2 n2 cap2 l2 2 4 W hn2 (HR2.out W hb) (by omega) (by omega) (by omega))
    obtain ⟨V2, e2⟩ := Int.eq_ofNat_of_zero_le hv2.1
    rw [e2] at HV2 hv2
    obtain ⟨mE, hmE⟩ : ∃ m, 1 + V2 = m := ⟨_, rfl⟩
    have hei : IntKind.i64.wrap (1 + (V2 : Int)) = (mE : Int) := by rw [show (1 : Int) + (V2 : Int) = (mE : Int) by omega]; exact IntWalk.i64_in _ (by omega)
    have heb : 1 ≤ mE ∧ mE ≤ 4 := by omega
    have hv3 := b10V_bd l2 3 5 (by omega)
    have HV3 := Lib.hid (fun W (hb : Below w.heap.size w W) => b10At_any a2 n2 cap2 l2 3 5 W hn2 (HR2.out W hb) (by omega) (by omega) (by omega))
    obtain ⟨V3, e3⟩ := Int.eq_ofNat_of_zero_le hv3.1
    rw [e3] at HV3 hv3
    obtain ⟨ev, hev⟩ : ∃ m, 1 + V3 = m := ⟨_, rfl⟩
    have hvi : IntKind.i64.wrap (1 + (V3 : Int)) = (ev : Int) := by rw [show (1 : Int) + (V3 : Int) = (ev : Int) by omega]; exact IntWalk.i64_in _ (by omega)
    have hvb : 1 ≤ ev ∧ ev ≤ 5 := by omega
    have hS1 : (1 : Int) + (V0 : Int) = (m : Int) := by omega
    have hS2 : (1 : Int) + (V2 : Int) = (mE : Int) := by omega
    have hS3 : (1 : Int) + (V3 : Int) = (ev : Int) := by omega
    obtain ⟨hm1, hm6⟩ := hmb
    obtain ⟨he1, he4⟩ := heb
    obtain ⟨hv1', hv5⟩ := hvb
    clear e0 e1 e2 e3 hv0 hv1 hv2 hv3 hm0 hmE hev hn hr hn2 hr2
    have HS1 := Lib.hid hS1
    have HS2 := Lib.hid hS2
    have HS3 := Lib.hid hS3
    clear hS1 hS2 hS3
    go_enter Try.func11, Try.ntmps11
    go_wp2_with fail
    refine (HLO.out _).mono ?_; rintro e w' ⟨rfl, rfl⟩
    go_wp2_with fail
    refine HWV.out.mono ?_; rintro e w1 ⟨s, rfl, hwv, hs40, b1⟩
    have HB1 := Lib.hid b1
    have HW := Lib.hid hwv
    have hs : s.size ≤ maxLen := by unfold maxLen; omega
    have HD := Lib.hid (fun w => implDv_t m gh s w hm1 (by omega) hgm hs hwv)
    have HT := Lib.hid (fun w => implTog_t ev s w hv1' (by omega) hs hwv)
    have HVD := Lib.hid (fun w => implDivider (m : Int) (gh : Int) w)
    have hlen := dvL_len m gh s.data.toList s.size
    obtain ⟨O, hO⟩ : ∃ O : ByteArray, (⟨(dvL m gh s.data.toList s.size).toArray⟩ : ByteArray) = O := ⟨_, rfl⟩
    obtain ⟨U, hU⟩ : ∃ O : ByteArray, (⟨(togL ev s.data.toList s.size).toArray⟩ : ByteArray) = O := ⟨_, rfl⟩
    rw [hO] at HD
    rw [hU] at HT
    have hOs : O.size = s.size := by rw [← hO, ← size_toList]; exact dvL_len m gh _ _
    have hUs : U.size = s.size := by rw [← hU, ← size_toList]; exact togL_len ev _ _
    clear b1 hwv hlen
    go_wp2_with fail
    refine (HV0.out _ HB1.out).mono ?_; rintro e w' ⟨rfl, rfl⟩
    go_wp2_with fail
    refine (HV1.out _ HB1.out).mono ?_; rintro e w' ⟨rfl, rfl⟩
    go_wp2_with fail
    refine (HV2.out _ (HB1.out.alloc HB1.out.size _)).mono ?_; rintro e w' ⟨rfl, rfl⟩
    have HOS := Lib.hid hOs
    have HUS := Lib.hid hUs
    clear hOs hUs
    go_wp2_with fail
    refine (HD.out _).mono ?_; rintro e w3 ⟨rfl, b3⟩
    obtain ⟨D, hD⟩ : ∃ D, w1.heap.size = D := ⟨_, rfl⟩
    obtain ⟨W2, hW2⟩ : ∃ W2, ((w1.alloc (.cells #[.int .i64 (m : Int), .int .i64 (gh : Int)] 84)).alloc (.cells #[.int .i64 (mE : Int), .int .i64 1] 84)) = W2 := ⟨_, rfl⟩
    have hb2 : Below w.heap.size w W2 := by rw [← hW2]; exact (HB1.out.alloc HB1.out.size _).alloc (by have := HB1.out.size; simp; omega) _
    have hs2 : W2.heap.size = D + 2 := by rw [← hW2, ← hD]; simp
    have q0 : W2.heap[D]? = some (.cells #[.int .i64 (m : Int), .int .i64 (gh : Int)] 84 (0, 0)) := by
      rw [← hW2, ← hD]; exact (Below.heap_alloc _ _ _ (by simp)).trans (World.alloc_heap_new w1 _)
    have q1 : W2.heap[D + 1]? = some (.cells #[.int .i64 (mE : Int), .int .i64 1] 84 (0, 0)) := by
      have h := World.alloc_heap_new (w1.alloc (.cells #[.int .i64 (m : Int), .int .i64 (gh : Int)] 84)) (.cells #[.int .i64 (mE : Int), .int .i64 1] 84)
      rw [World.size_alloc, hW2, hD] at h
      exact h
    rw [hW2, hs2] at b3
    rw [hD]
    have HC : Hid (∀ W, Below (D + 2) W2 W → W.cell? ⟨D, 0, none⟩ = some (.int .i64 (m : Int)) ∧ W.cell? ⟨D, 1, none⟩ = some (.int .i64 (gh : Int)) ∧ W.cell? ⟨D + 1, 0, none⟩ = some (.int .i64 (mE : Int)) ∧ W.cell? ⟨D + 1, 1, none⟩ = some (.int .i64 1)) := fun W hW => by
      have r0 := (hW.block D (by omega)).trans q0
      have r1 := (hW.block (D + 1) (by omega)).trans q1
      exact ⟨by rw [Lib.cell_of_heap r0]; rfl, by rw [Lib.cell_of_heap r0]; rfl, by rw [Lib.cell_of_heap r1]; rfl, by rw [Lib.cell_of_heap r1]; rfl⟩
    have HB2 := Lib.hid hb2
    have HZ2 := Lib.hid hs2
    have HB3 := Lib.hid b3
    have hOw : waveB O.data.toList = true := by
      rw [← hO]
      exact txt_wave _ (fun x hx => by
        unfold dvL at hx
        obtain ⟨j, -, rfl⟩ := List.mem_map.1 hx
        exact dvF_lev _ _ _ _) (by rw [dvL_len]; omega)
    have HOW := Lib.hid hOw
    have HE := Lib.hid (fun w => implDv_t mE 1 O w he1 (by omega) he1 (by rw [HOS.out]; exact hs) hOw)
    obtain ⟨N, hN⟩ : ∃ N : ByteArray, (⟨(dvL mE 1 O.data.toList O.size).toArray⟩ : ByteArray) = N := ⟨_, rfl⟩
    rw [hN] at HE
    have hch : chRes [(m : Int), (gh : Int), (mE : Int), 1] s 2 = (N, true) := by
      rw [chRes_ok]
      · rw [← hN, ← hO]; rfl
      · have d1 : dvdB (m : Int) (gh : Int) = true := by unfold dvdB; simp; omega
        have d2 : dvdB (mE : Int) 1 = true := by unfold dvdB; simp; omega
        show (List.range 2).all (dvK [(m : Int), (gh : Int), (mE : Int), 1]) = true
        rw [show List.range 2 = [0, 1] from rfl]
        show (dvdB (m : Int) (gh : Int) && (dvdB (mE : Int) 1 && true)) = true
        rw [d1, d2]; rfl
    have HCH := Lib.hid hch
    obtain ⟨c0, c1, c2, c3⟩ := HC.out _ b3
    clear hOw hch q0 q1 hW2 hb2 hs2 b3
    have HDD := Lib.hid hD
    have hOO := Lib.hid hO
    have hUU := Lib.hid hU
    have hNN := Lib.hid hN
    clear hD hO hU hN
    go_wp2_with fail
    refine (HE.out _).mono ?_; rintro e w4 ⟨rfl, b4⟩
    have hB4 : Below (D + 2) W2 w4 := HB3.out.trans (b4.mono (by have := HB3.out.size; have := HZ2.out; omega))
    have HB4 := Lib.hid hB4
    clear b4 c0 c1 c2 c3
    obtain ⟨c0, c1, c2, c3⟩ := HC.out _ hB4
    clear hB4
    go_wp2_with fail
    have hrec : Recs (w4.alloc (.cells #[.int .i64 (m : Int), .int .i64 (gh : Int), .int .i64 (mE : Int), .int .i64 1] 84)) w4.heap.size (.slice (some ⟨w4.heap.size, 0, none⟩) 2 2) 2 [(m : Int), (gh : Int), (mE : Int), 1] :=
      ⟨rfl, World.ownsRow_lit w4 #[.int .i64 (m : Int), .int .i64 (gh : Int), .int .i64 (mE : Int), .int .i64 1] 2 (Nat.le_refl _) (by unfold maxLen; omega) rfl⟩
    have HCC := Lib.hid (implChain w4.heap.size (some ⟨w4.heap.size, 0, none⟩) 2 2 [(m : Int), (gh : Int), (mE : Int), 1] s _ hrec (by omega) hs HW.out)
    rw [HCH.out] at HCC
    clear hrec
    refine HCC.out.mono ?_; rintro e w5 ⟨rfl, b5⟩
    have hB5 : Below (D + 2) W2 w5 := (HB4.out.alloc (by have := HB4.out.size; have := HZ2.out; omega) _).trans (b5.mono (by have := HB4.out.size; have := HZ2.out; simp; omega))
    have HB5 := Lib.hid hB5
    clear b5 c0 c1 c2 c3 HCC
    have HBW5 : Hid (Below w.heap.size w w5) := HB2.out.trans (hB5.mono (by have := HB2.out.size; have := HZ2.out; omega))
    obtain ⟨c0, c1, c2, c3⟩ := HC.out _ hB5
    clear hB5
    go_wp2_with fail
    refine (HV3.out _ HBW5.out).mono ?_; rintro e w' ⟨rfl, rfl⟩
    have hOe : ((O.size : Int) != (s.size : Int)) = false := by have := HOS.out; simp; omega
    have hUe : ((U.size : Int) != (s.size : Int)) = false := by have := HUS.out; simp; omega
    have hOe2 : (O.size != s.size) = false := by have := HOS.out; simp; omega
    have hUe2 : (U.size != s.size) = false := by have := HUS.out; simp; omega
    clear c0 c1 c2 c3
    go_wp2_with fail
    refine (HT.out _).mono ?_; rintro e w6 ⟨rfl, b6⟩
    have hB6 : Below (D + 2) W2 w6 := HB5.out.trans (b6.mono (by have := HB5.out.size; have := HZ2.out; omega))
    have HB6 := Lib.hid hB6
    have HBW6 : Hid (Below w.heap.size w w6) := HB2.out.trans (hB6.mono (by have := HB2.out.size; have := HZ2.out; omega))
    obtain ⟨c0, c1, c2, c3⟩ := HC.out _ hB6
    clear b6 hB6
    go_wp2_with fail
    refine (HVD.out _).mono ?_; rintro e w7 ⟨rfl, b7⟩
    have hdv : dvdB (m : Int) (gh : Int) = true := by unfold dvdB; simp; omega
    rw [hdv]
    have HBW7 : Hid (Below w.heap.size w w7) := HBW6.out.trans (b7.mono HBW6.out.size)
    clear b7 hdv c0 c1 c2 c3
    go_wp2
    go_loopw [19, 20, 21] (fun ed cg iv wr => ∃ k E C : Nat, k ≤ s.size ∧ iv = .int .i64 (k : Int) ∧ ed = .int .i64 (E : Int) ∧ cg = .int .i64 (C : Int) ∧ Hid (E = (togF ev s.data.toList k).2.2) ∧ Hid (C = chC ev E) ∧ Hid (Below w.heap.size w wr)) (fun _ _ iv _ => s.size - (intOf iv).toNat)
    case atStart => exact ⟨0, 0, 0, Nat.zero_le _, rfl, rfl, rfl, rfl, by show 0 = chC ev 0; have := chC_le ev 0 hv1'; omega, HBW7⟩
    case round =>
      obtain ⟨k, E, C, hk, rfl, rfl, rfl, HE9, HC9, HBR⟩ := hrel
      have hEk : E ≤ k := by rw [HE9.out]; exact tog_le _ _ _
      have hCE : C ≤ E := by rw [HC9.out]; exact chC_le _ _ hv1'
      by_cases hlt : k < s.size
      · obtain ⟨K, hK⟩ : ∃ K, cntN (upB s) 0 (k + 1) = K := ⟨_, rfl⟩
        have HUB : Hid (∀ W, Calls Try.prog 21 #[.string s, .int .i64 ((k : Int) + 1)] W fun e w' => e = .returned (.int .i64 (K : Int)) ∧ W = w') := fun W => by
          have h := upsB_any s (k + 1) W HW.out (by omega)
          rw [hK, show ((k + 1 : Nat) : Int) = (k : Int) + 1 by omega] at h
          exact h
        have hKk : K ≤ k + 1 := by rw [← hK]; exact cntN_le _ _ _
        have hkO : k < O.size := by rw [HOS.out]; exact hlt
        have hkU : k < U.size := by rw [HUS.out]; exact hlt
        obtain ⟨c, hc⟩ : ∃ c, decide (0 < K ∧ (K - 1) % m < gh) = c := ⟨_, rfl⟩
        have hO9 : (O[k].toNat : Int) = if c then 49 else 48 := by
          rw [txt_get _ O hOO.out.symm k hkO]
          have h := (dv_eq m gh s HW.out (k + 1) (by omega)).2
          rw [hK] at h
          have e9 : (dvL m gh s.data.toList s.size).getD k 0 = (dvF m gh s.data.toList (k + 1)).1 := by
            rw [List.getD_eq_getElem?_getD, dvL]; simp [hlt]
          rw [e9, h, ← hc]
          by_cases hz : 0 < K ∧ (K - 1) % m < gh
          · rw [if_pos hz, decide_eq_true hz]; rfl
          · rw [if_neg hz, decide_eq_false hz]; rfl
        have HO9 := Lib.hid hO9
        have HCD := Lib.hid hc
        clear hc hO9 hK
        go_wp2_with fail
        refine (HUB.out _).mono ?_; rintro e w' ⟨rfl, rfl⟩
        go_upto_region 22 with fail
        go_cut [129] from 120 to 129 (fun v wx => v = .bool c ∧ wr = wx)
        case first =>
          by_cases hK0 : K = 0
          · have hc0 : c = false := by rw [← HCD.out]; exact decide_eq_false (fun q => by omega)
            have t1 : ¬ 0 < K := by omega
            have t2 : decide (0 < K) = false := decide_eq_false t1
            have t3 : ¬ (0 : Int) < (K : Int) := by omega
            have t4 : decide ((0 : Int) < (K : Int)) = false := decide_eq_false t3
            clear hK0
            go_wp2
            go_meet
            exact ⟨by rw [hc0], rfl⟩
          · obtain ⟨K1, hK1⟩ : ∃ K1, K = K1 + 1 := ⟨K - 1, by omega⟩
            obtain ⟨r, hr⟩ : ∃ r, K1 % m = r := ⟨_, rfl⟩
            have hc0 : c = decide (r < gh) := by
              rw [← HCD.out, hK1, Nat.add_sub_cancel, hr, decide_eq_decide]
              exact ⟨fun q => q.2, fun q => ⟨by omega, q⟩⟩
            have t1 : 0 < K := by omega
            have t2 : decide (0 < K) = true := decide_eq_true t1
            have t3 : (0 : Int) < (K : Int) := by omega
            have w1 : IntKind.i64.wrap ((K : Int) - 1) = (K1 : Int) := by rw [show (K : Int) - 1 = (K1 : Int) by omega]; exact IntWalk.i64_in _ (by omega)
            have r1 : (K1 : Int) % (m : Int) = (r : Int) := by rw [← hr]; omega
            have r2 : Int.tmod (K1 : Int) (m : Int) = (r : Int) := by rw [Int.tmod_eq_emod_of_nonneg (by omega)]; exact r1
            have r3 : IntKind.i64.wrap (r : Int) = (r : Int) := IntWalk.i64_in _ (by have := Nat.mod_lt K1 (show 0 < m by omega); omega)
            have m0 : ((m : Int) == 0) = false := by simp; omega
            have m1 : ¬ (m : Int) = 0 := by omega
            have HC0 := Lib.hid hc0
            clear hK0 hr hc0 hK1
            by_cases hrg : r < gh
            · have g1 : decide (r < gh) = true := decide_eq_true hrg
              have g2 : (r : Int) < (gh : Int) := by omega
              go_wp2
              go_meet
              exact ⟨by rw [HC0.out, g1], rfl⟩
            · have g1 : decide (r < gh) = false := decide_eq_false hrg
              have g2 : ¬ (r : Int) < (gh : Int) := by omega
              go_wp2
              go_meet
              exact ⟨by rw [HC0.out, g1], rfl⟩
        case rest =>
          obtain ⟨rfl, rfl⟩ := hcut
          obtain ⟨eb, heb⟩ : ∃ eb, edB s k = eb := ⟨_, rfl⟩
          obtain ⟨st1, st2⟩ := tog_step ev s HW.out k hlt
          have hcg := tog_chg ev s HW.out hv1' hv5 k hlt
          rw [heb] at st1 st2
          obtain ⟨ta, hta⟩ : ∃ ta, (togF ev s.data.toList k).1 = ta := ⟨_, rfl⟩
          obtain ⟨tb, htb⟩ : ∃ tb, (togF ev s.data.toList (k + 1)).1 = tb := ⟨_, rfl⟩
          have hla : ta = 48 ∨ ta = 49 := by rw [← hta]; exact tog_lev _ _ _
          have hlb : tb = 48 ∨ tb = 49 := by rw [← htb]; exact tog_lev _ _ _
          rw [hta, htb] at hcg
          rw [← HE9.out] at st1 hcg
          rw [← HC9.out] at hcg
          rw [st1] at hcg
          have hUk : U[k] = tb := by
            rw [txt_get _ U hUU.out.symm k hkU, List.getD_eq_getElem?_getD, togL]
            simp [hlt, htb]
          have hU0 : k = 0 → ta = 48 := fun q => by rw [← hta, q]; rfl
          have hUj : ∀ j (hj : j < U.size), k = j + 1 → U[j] = ta := fun j hj q => by
            rw [txt_get _ U hUU.out.symm j hj, List.getD_eq_getElem?_getD, togL]
            have : j < s.size := by omega
            simp [this, ← q, hta]
          have HUK := Lib.hid hUk
          have HU0 := Lib.hid hU0
          have HUJ := Lib.hid hUj
          have HST := Lib.hid st1
          have HCG := Lib.hid hcg
          have HEB := Lib.hid heb
          have HO99 := HO9.out
          clear st1 st2 hcg hta htb hUk hU0 hUj heb
          cases c
          all_goals
            simp only [if_true, if_false, Bool.false_eq_true] at HO99
            go_upto_region 26 with fail
            go_cut [156] from 135 to 156 (fun v wx => v = .bool eb ∧ Hid (Below w.heap.size w wx))
            case first =>
              obtain ⟨x, hx⟩ : ∃ x, bit s k = x := ⟨_, rfl⟩
              have hk9 := wave_at HW.out k hlt
              rw [hx] at hk9
              have hE : eb = if k = 0 then x else x != bit s (k - 1) := by
                rw [← HEB.out, edB]
                by_cases q : k = 0
                · rw [if_pos q, if_pos q, ← hx, q]
                · rw [if_neg q, if_neg q, hx]
              by_cases hk0 : k = 0
              · have T0 : Hid (eb = x) := by show _ = _; rw [hE, if_pos hk0]
                have t1 : ((k : Int) == 0) = true := by simp; omega
                have t2 : (k == 0) = true := by simp; omega
                have t3 : ¬ 0 < k := by omega
                have t4 : decide (0 < k) = false := decide_eq_false t3
                have t5 : ¬ (0 : Int) < (k : Int) := by omega
                have t6 : decide ((0 : Int) < (k : Int)) = false := decide_eq_false t5
                clear hk0 hE hx
                cases x
                all_goals
                  simp only [if_true, if_false, Bool.false_eq_true] at hk9
                  go_quiet (fail)
                  go_wp2
                  go_meet
                  exact ⟨by rw [T0.out], Lib.hid (below_dW _ HBR.out)⟩
              · obtain ⟨j, hj⟩ : ∃ j, k = j + 1 := ⟨k - 1, by omega⟩
                have hjs : j < s.size := by omega
                have hj9 := wave_at HW.out j hjs
                obtain ⟨z, hz⟩ : ∃ z, bit s j = z := ⟨_, rfl⟩
                rw [hz] at hj9
                have T0 : Hid (eb = (x != z)) := by show _ = _; rw [hE, if_neg hk0, hj, Nat.add_sub_cancel, hz]
                have t1 : ((k : Int) == 0) = false := by simp; omega
                have t2 : (k == 0) = false := by simp; omega
                have t3 : 0 < k := by omega
                have t4 : decide (0 < k) = true := decide_eq_true t3
                have t5 : (0 : Int) < (k : Int) := by omega
                have t6 : decide ((0 : Int) < (k : Int)) = true := decide_eq_true t5
                have t7 : ¬ (k : Int) = 0 := by omega
                have wj : IntKind.i64.wrap ((k : Int) - 1) = (j : Int) := by rw [show (k : Int) - 1 = (j : Int) by omega]; exact IntWalk.i64_in _ (by omega)
                clear hk0 hE hx hz hj
                cases x <;> cases z
                all_goals
                  simp only [if_true, if_false, Bool.false_eq_true] at hk9 hj9
                  go_quiet (fail)
                  go_wp2
                  go_meet
                  exact ⟨by rw [T0.out]; rfl, Lib.hid (below_dW _ HBR.out)⟩
            case rest =>
              obtain ⟨rfl, hbx⟩ := hcut
              have HBX := Lib.hid hbx.out
              clear hbx HBR
              obtain ⟨cb, hcb⟩ : ∃ cb, decide (tb ≠ ta) = cb := ⟨_, rfl⟩
              have HCB := Lib.hid hcb
              have hUkN : (U[k].toNat : Int) = (tb.toNat : Int) := by rw [HUK.out]
              have HU9 := Lib.hid hUkN
              clear hcb hUkN HO99 HO9
              cases eb
              all_goals
                go_upto_region 28 with fail
                go_cut [180] from 159 to 180 (fun v wx => v = .bool cb ∧ Hid (Below w.heap.size w wx))
                case first =>
                  have hk9 := HU9.out
                  by_cases hk0 : k = 0
                  · have hta0 := HU0.out hk0
                    have T0 : Hid (cb = decide (tb = 49)) := by
                      show _ = _
                      rw [← HCB.out, hta0, decide_eq_decide]
                      rcases hlb with h | h <;> rw [h] <;> decide
                    have t1 : ((k : Int) == 0) = true := by simp; omega
                    have t2 : (k == 0) = true := by simp; omega
                    have t3 : ¬ 0 < k := by omega
                    have t4 : decide (0 < k) = false := decide_eq_false t3
                    have t5 : ¬ (0 : Int) < (k : Int) := by omega
                    have t6 : decide ((0 : Int) < (k : Int)) = false := decide_eq_false t5
                    clear hk0 hta0
                    rcases hlb with h | h
                    · have n1 : (U[k].toNat : Int) = 48 := by rw [hk9, h]; decide
                      have T1 : Hid (cb = false) := by show _ = _; rw [T0.out, h]; decide
                      clear hk9 h
                      go_quiet (fail)
                      go_wp2
                      go_meet
                      exact ⟨by rw [T1.out], Lib.hid (below_dW _ HBX.out)⟩
                    · have n1 : (U[k].toNat : Int) = 49 := by rw [hk9, h]; decide
                      have T1 : Hid (cb = true) := by show _ = _; rw [T0.out, h]; decide
                      clear hk9 h
                      go_quiet (fail)
                      go_wp2
                      go_meet
                      exact ⟨by rw [T1.out], Lib.hid (below_dW _ HBX.out)⟩
                  · obtain ⟨j, hj⟩ : ∃ j, k = j + 1 := ⟨k - 1, by omega⟩
                    have hjs : j < U.size := by omega
                    have hUjN : (U[j].toNat : Int) = (ta.toNat : Int) := by rw [HUJ.out j hjs hj]
                    have t1 : ((k : Int) == 0) = false := by simp; omega
                    have t2 : (k == 0) = false := by simp; omega
                    have t3 : 0 < k := by omega
                    have t4 : decide (0 < k) = true := decide_eq_true t3
                    have t5 : (0 : Int) < (k : Int) := by omega
                    have t6 : decide ((0 : Int) < (k : Int)) = true := decide_eq_true t5
                    have t7 : ¬ (k : Int) = 0 := by omega
                    have wj : IntKind.i64.wrap ((k : Int) - 1) = (j : Int) := by rw [show (k : Int) - 1 = (j : Int) by omega]; exact IntWalk.i64_in _ (by omega)
                    clear hk0 hj
                    rcases hla with ha | ha <;> rcases hlb with hb | hb
                    all_goals
                      have T1 := Lib.hid (show cb = decide (tb ≠ ta) from HCB.out.symm)
                      rw [ha, hb] at T1
                      rw [ha] at hUjN
                      rw [hb] at hk9
                      try rw [show (((48 : UInt8).toNat : Nat) : Int) = 48 from by decide] at hk9
                      try rw [show (((49 : UInt8).toNat : Nat) : Int) = 49 from by decide] at hk9
                      try rw [show (((48 : UInt8).toNat : Nat) : Int) = 48 from by decide] at hUjN
                      try rw [show (((49 : UInt8).toNat : Nat) : Int) = 49 from by decide] at hUjN
                      go_quiet (fail)
                      go_wp2
                      go_meet
                      exact ⟨by rw [T1.out]; rfl, Lib.hid (below_dW _ HBX.out)⟩
                case rest =>
                  obtain ⟨rfl, hbx⟩ := hcut
                  have HBY := Lib.hid hbx.out
                  clear hbx HBX
                  have hst := HST.out
                  have hcg := HCG.out
                  simp only [if_true, if_false, Bool.false_eq_true, Nat.add_zero] at hst hcg
                  have HCB2 := HCB.out
                  have HST2 := Lib.hid hst.symm
                  clear hst
                  cases cb
                  · have he : tb = ta := by
                      rcases Decidable.em (tb = ta) with h | h
                      · exact h
                      · rw [decide_eq_true h] at HCB2; cases HCB2
                    rw [if_pos he, Nat.add_zero] at hcg
                    have HCG2 := Lib.hid hcg.symm
                    clear hcg HCB2 he
                    go_wp2
                    go_roundw
                    case rel => exact ⟨k + 1, _, C, by omega, by go_num, by first | rfl | go_num, by go_num, HST2, HCG2, HBY⟩
                    case measure => simp [intOf]; omega
                  · have he : ¬ tb = ta := fun h => by rw [h] at HCB2; simp at HCB2
                    rw [if_neg he] at hcg
                    have HCG2 := Lib.hid hcg.symm
                    clear hcg HCB2 he
                    go_wp2
                    go_roundw
                    case rel => exact ⟨k + 1, _, C + 1, by omega, by go_num, by first | rfl | go_num, by go_num, HST2, HCG2, HBY⟩
                    case measure => simp [intOf]; omega
      · obtain rfl : k = s.size := by omega
        have q1 : ((E : Int) + (ev : Int) - 1) / (ev : Int) = (C : Int) := by
          rw [HC9.out]; unfold chC
          rw [show (E : Int) + (ev : Int) - 1 = ((E + ev - 1 : Nat) : Int) by omega, Int.natCast_ediv]
        have q2 : Int.tdiv ((E : Int) + (ev : Int) - 1) (ev : Int) = (C : Int) := by rw [Int.tdiv_eq_ediv_of_nonneg (by omega)]; exact q1
        have q3 : IntKind.i64.wrap (C : Int) = (C : Int) := IntWalk.i64_in _ (by omega)
        have q4 : IntKind.i64.wrap ((E : Int) + (ev : Int) - 1) = (E : Int) + (ev : Int) - 1 := IntWalk.i64_in _ (by omega)
        have q5 : IntKind.i64.wrap ((E : Int) + (ev : Int)) = (E : Int) + (ev : Int) := IntWalk.i64_in _ (by omega)
        have m0 : ((ev : Int) == 0) = false := by simp; omega
        have m1 : ¬ (ev : Int) = 0 := by omega
        go_wp2
        go_ret
        exact ⟨rfl, HBR.out⟩
  · have HLO := Lib.hid (fun w => b10Long_any a a2 n cap n2 cap2 w)
    have hb : (decide (1048576 < n) || decide (1048576 < n2)) = true := by simp; omega
    rw [hb] at HLO
    clear hb hr hr2 hn hn2
    go_enter Try.func11, Try.ntmps11
    go_wp2_with fail
    refine (HLO.out _).mono ?_; rintro e w' ⟨rfl, rfl⟩
    go_wp2
    go_ret
    exact ⟨rfl, Below.refl _ _⟩
end Go.Proofs.Ytkipgeecibimoaa
