/- The law of the filters. -/
import Derived.Test.YtafecdmcbpnniabDoorFltO
import Derived.Test.YtafecdmcbpnniabDoorFltI
import Derived.Test.YtafecdmcbpnniabDoorDropI
import Derived.Test.YtafecdmcbpnniabDoorFillI
import Derived.Test.YtafecdmcbpnniabDoorShort
import Derived.Test.YtafecdmcbpnniabDoorGapImpl
import Derived.Test.YtafecdmcbpnniabDoorPlsI
import Derived.Test.YtafecdmcbpnniabDoorDrawW
import Derived.Deep.CutRange
namespace Go.Proofs.YtafecdmcbpnniabDoor
open Go.RowKit
set_option linter.unusedVariables false
set_option linter.unusedSimpArgs false

set_option maxHeartbeats 16000000 in
set_option maxRecDepth 100000 in
theorem walk_FnFiltered (a : Option Addr) (n cap : Nat) (l : List Int) (a2 : Option Addr) (n2 cap2 : Nat) (l2 : List Int) (w : World) (hn : n = l.length) (hr : ByteRow w a l) (hm : n ≤ maxLen) (hn2 : n2 = l2.length) (hr2 : ByteRow w a2 l2) (hm2 : n2 ≤ maxLen) (mx : Int) (hmx : w.cell? ⟨0, 0, none⟩ = some (.int .i64 mx)) :
    Calls Tryd.prog 3 #[.slice a n cap, .slice a2 n2 cap2] w fun e w' => e = .returned (.bool true) ∧ Below w.heap.size w w' := by
  by_cases hlong : n ≤ 1048576 ∧ n2 ≤ 1048576
  · obtain ⟨k1, k2⟩ := hlong
    have hlt2 := World.block_lt_of_cell? w _ hmx
    have HMX : Hid (∀ W, Below w.heap.size w W → W.cell? ⟨0, 0, none⟩ = some (.int .i64 mx)) := fun W hb => (hb.cell (p := ⟨0, 0, none⟩) hlt2).trans hmx
    have HLO := Lib.hid (fun w => b10Long_any a a2 n cap n2 cap2 w)
    rw [decide_eq_false (show ¬ 1048576 < n by omega), decide_eq_false (show ¬ 1048576 < n2 by omega)] at HLO
    have HWV := Lib.hid (wave_w a n cap l w hn k1 hr)
    have hv0 := b10V_bd l2 0 6 (by omega)
    have hv1 := b10V_bd l2 1 4 (by omega)
    have HV0 := Lib.hid (fun W (hb : Below w.heap.size w W) => b10At_any a2 n2 cap2 l2 0 6 W hn2 (hr2.keep hb (Nat.le_refl _)) (by omega) (by omega) (by omega))
    have HV1 := Lib.hid (fun W (hb : Below w.heap.size w W) => b10At_any a2 n2 cap2 l2 1 4 W hn2 (hr2.keep hb (Nat.le_refl _)) (by omega) (by omega) (by omega))
    obtain ⟨V0, e0⟩ := Int.eq_ofNat_of_zero_le hv0.1
    obtain ⟨V1, e1⟩ := Int.eq_ofNat_of_zero_le hv1.1
    rw [e0] at HV0 hv0
    rw [e1] at HV1 hv1
    obtain ⟨T, hT⟩ : ∃ T, 1 + V0 = T := ⟨_, rfl⟩
    obtain ⟨U, hU⟩ : ∃ U, 2 * V1 + 1 = U := ⟨_, rfl⟩
    have hti : (1 : Int) + (V0 : Int) = (T : Int) := by omega
    have hui : (2 : Int) * (V1 : Int) + 1 = (U : Int) := by omega
    have hT1 : 1 ≤ T := by omega
    have hT6 : T ≤ 6 := by omega
    have hU1 : 1 ≤ U := by omega
    have hU9 : U ≤ 9 := by omega
    have hUo : U % 2 = 1 := by omega
    have hwt : IntKind.i64.wrap (1 + (V0 : Int)) = (T : Int) := by rw [hti]; exact IntWalk.i64_in _ (by omega)
    have hwu1 : IntKind.i64.wrap (2 * (V1 : Int)) = 2 * (V1 : Int) := IntWalk.i64_in _ (by omega)
    have hwu : IntKind.i64.wrap (2 * (V1 : Int) + 1) = (U : Int) := by rw [hui]; exact IntWalk.i64_in _ (by omega)
    clear e0 e1 hv0 hv1 hn hr hn2 hr2 hT hU hmx
    have HTI := Lib.hid hti
    have HUI := Lib.hid hui
    clear hti hui
    go_enter Tryd.func3, Tryd.ntmps3
    go_wp2_with fail
    refine (HLO.out _).mono ?_; rintro e w' ⟨rfl, rfl⟩
    go_wp2_with fail
    refine HWV.out.mono ?_; rintro e w1 ⟨s, rfl, hwv, hs40, b1⟩
    have HB1 := Lib.hid b1
    have hs : s.size ≤ maxLen := by unfold maxLen; omega
    have hc : canB s (T : Int) = true := by unfold canB; rw [hwv]; simp; omega
    have hcU : canB s (U : Int) = true := by unfold canB; rw [hwv]; simp; omega
    have hall : s.data.toList.all lvlB = true := by unfold waveB at hwv; simp only [Bool.and_eq_true] at hwv; exact hwv.1
    have hF := filt_facts s T hT1 (by omega) hall
    have HDEB := Lib.hid (fun w => implDeb_t s T w hs hc)
    have HSTR := Lib.hid (fun w => implStr_t s T w hs hc)
    have HDRO := Lib.hid (fun w => implDrop_t s T w hs hc)
    have HFIL := Lib.hid (fun w hm => implFill_t s T w mx hm hs hc)
    have HMAJ := Lib.hid (fun w => implMaj_t s U w hs hcU hUo)
    have hRs : (outS (fltL (decMaj U) U s) s.size).size = s.size := outS_size _ _
    obtain ⟨C, hC⟩ : ∃ C, outS (fltL (decDeb T) T s) s.size = C := ⟨_, rfl⟩
    obtain ⟨G, hG⟩ : ∃ C, outS (fltL decStr T s) s.size = C := ⟨_, rfl⟩
    obtain ⟨R, hR⟩ : ∃ C, outS (fltL (decMaj U) U s) s.size = C := ⟨_, rfl⟩
    obtain ⟨P, hP⟩ : ∃ C : ByteArray, (⟨(partsT 49 (T : Int) (runsL s)).toArray⟩ : ByteArray) = C := ⟨_, rfl⟩
    obtain ⟨Q, hQ⟩ : ∃ C : ByteArray, (⟨(fillP (T : Int) s.data.toList s.size ((endsL (s.size : Int) (edgesL 49 s.data.toList s.size) (edgesL 48 s.data.toList s.size)).zip (edgesL 49 s.data.toList s.size).tail)).toArray⟩ : ByteArray) = C := ⟨_, rfl⟩
    rw [hC, hG, hP, hQ] at hF
    rw [hC] at HDEB
    rw [hG] at HSTR
    rw [hP] at HDRO
    rw [hQ] at HFIL
    rw [hR] at HMAJ hRs
    have hCs := hF.cs
    have hGs := hF.gs
    have hPs := hF.ps
    have hQs := hF.qs
    have HSC : Hid (∀ w, Calls Tryd.prog 11 #[.string C, .int .i64 (T : Int)] w fun e w' => ∃ a c, e = .returned (.tuple #[.slice a 0 c, .bool true]) ∧ Below w.heap.size w w') := fun w => by
      refine (implSh_t (T : Int) C w (by omega) hF.cw (by omega) (by omega)).mono ?_
      rintro e w' ⟨v, he, hi, hb⟩
      rw [hF.csh] at hi
      obtain ⟨a, c, rfl, -, -⟩ := hi.form
      exact ⟨a, c, he, hb⟩
    have HSG : Hid (∀ w, Calls Tryd.prog 11 #[.string G, .int .i64 (T : Int)] w fun e w' => ∃ a c, e = .returned (.tuple #[.slice a 0 c, .bool true]) ∧ Below w.heap.size w w') := fun w => by
      refine (implSh_t (T : Int) G w (by omega) hF.gw (by omega) (by omega)).mono ?_
      rintro e w' ⟨v, he, hi, hb⟩
      rw [hF.gsh] at hi
      obtain ⟨a, c, rfl, -, -⟩ := hi.form
      exact ⟨a, c, he, hb⟩
    have HGAP := Lib.hid (fun w => implGaps_ok Q w (by unfold maxLen; omega) hF.qw)
    have HPLS := Lib.hid (fun w => callsIn_wide (n := 8).1 (implPls_in 8 (Nat.le_refl _) P w (by unfold maxLen; omega) hF.pw))
    obtain ⟨gl, hgl⟩ : ∃ gl, gapsL (edgesL 49 Q.data.toList Q.size) (edgesL 48 Q.data.toList Q.size) ((edgesL 49 Q.data.toList Q.size).length - 1) = gl := ⟨_, rfl⟩
    obtain ⟨pl, hpl⟩ : ∃ pl, plsL (runsL P) = pl := ⟨_, rfl⟩
    have HGL : Hid (∀ x ∈ gl, (T : Int) ≤ x) := by rw [← hgl]; exact hF.qg
    have HPL : Hid (∀ x ∈ pl, (T : Int) ≤ x) := by
      rw [← hpl]
      intro x hx
      unfold plsL at hx
      obtain ⟨y, hy, rfl⟩ := List.mem_map.1 hx
      obtain ⟨h1, h2⟩ := List.mem_filter.1 hy
      exact hF.pg y h1 (by simpa using h2)
    rw [hgl] at HGAP
    rw [hpl] at HPLS
    have HF := Lib.hid hF
    have HWB := Lib.hid hwv
    have HALL := Lib.hid hall
    clear b1 hwv hc hcU hF hall hC hG hR hP hQ hgl hpl
    go_wp2_with fail
    refine (HV0.out _ HB1.out).mono ?_; rintro e w' ⟨rfl, rfl⟩
    go_wp2_with fail
    refine (HDEB.out _).mono ?_; rintro e w2 ⟨rfl, b2⟩
    have HB2 := Lib.hid (HB1.out.trans (b2.mono HB1.out.size))
    clear b2
    go_wp2_with fail
    refine (HSTR.out _).mono ?_; rintro e w3 ⟨rfl, b3⟩
    have HB3 := Lib.hid (HB2.out.trans (b3.mono HB2.out.size))
    clear b3
    go_wp2_with fail
    refine (HDRO.out _).mono ?_; rintro e w4 ⟨rfl, b4⟩
    have HB4 := Lib.hid (HB3.out.trans (b4.mono HB3.out.size))
    clear b4
    go_wp2_with fail
    refine (HFIL.out _ (HMX.out _ HB4.out)).mono ?_; rintro e w5 ⟨rfl, b5⟩
    have HB5 := Lib.hid (HB4.out.trans (b5.mono HB4.out.size))
    clear b5
    go_wp2_with fail
    refine (HSC.out _).mono ?_; rintro e w6 ⟨a6, c6, rfl, b6⟩
    have HB6 := Lib.hid (HB5.out.trans (b6.mono HB5.out.size))
    clear b6
    go_wp2_with fail
    refine (HSG.out _).mono ?_; rintro e w7 ⟨a7, c7, rfl, b7⟩
    have HB7 := Lib.hid (HB6.out.trans (b7.mono HB6.out.size))
    clear b7
    go_wp2_with fail
    refine (HGAP.out _).mono ?_; rintro e w8 ⟨v8, rfl, i8, b8⟩
    have HB8 := Lib.hid (HB7.out.trans (b8.mono HB7.out.size))
    have HI8 := Lib.hid i8
    obtain ⟨a8, c8, rfl, hm8, -⟩ := i8.form
    unfold maxLen at hm8
    clear b8 i8
    go_wp2_with fail
    refine (HV1.out _ HB8.out).mono ?_; rintro e w' ⟨rfl, rfl⟩
    go_wp2_with fail
    refine (HMAJ.out _).mono ?_; rintro e w9 ⟨rfl, b9⟩
    have HB9 := Lib.hid (HB8.out.trans (b9.mono HB8.out.size))
    have HI9 := Lib.hid (HI8.out.keep b9 (Nat.le_refl _))
    clear b9
    have q1 : (C.size : Int) = (s.size : Int) := by omega
    have q2 : (G.size : Int) = (s.size : Int) := by omega
    have q3 : (P.size : Int) = (s.size : Int) := by omega
    have q4 : (Q.size : Int) = (s.size : Int) := by omega
    have q5 : (R.size : Int) = (s.size : Int) := by omega
    go_wp2
    go_loopw [24] (fun iv wr => ∃ k : Nat, k ≤ gl.length ∧ iv = .int .i64 (k : Int) ∧ w9 = wr) (fun iv _ => gl.length - (intOf iv).toNat)
    case atStart => exact ⟨0, Nat.zero_le _, rfl, rfl⟩
    case round =>
      obtain ⟨k, hk, rfl, rfl⟩ := hrel
      by_cases hlt : k < gl.length
      · obtain ⟨a', c', he, _, hkk⟩ := HI9.out.form
        obtain ⟨g, hg, _, _, hcell, _⟩ := hkk k hlt
        simp only [Value.slice.injEq] at he
        rw [← he.1] at hg
        subst hg
        obtain ⟨x, hx⟩ : ∃ x, gl[k] = x := ⟨_, rfl⟩
        have hge : ¬ x < (T : Int) := by have := HGL.out gl[k] (List.getElem_mem hlt); omega
        rw [hx] at hcell
        clear hkk he hx
        go_wp2
        go_roundw
        case rel => exact ⟨k + 1, by omega, by go_num, by first | rfl | trivial⟩
        case measure => simp [intOf]; omega
      · obtain rfl : k = gl.length := by omega
        go_wp2_with fail
        refine (HPLS.out _).mono ?_; rintro e w10 ⟨v10, rfl, i10, b10⟩
        have HB10 := Lib.hid (HB9.out.trans (b10.mono HB9.out.size))
        have HI10 := Lib.hid i10
        obtain ⟨a10, c10, rfl, hm10, -⟩ := i10.form
        unfold maxLen at hm10
        clear b10 i10
        go_wp2
        go_loopw [27] (fun iv wr => ∃ k : Nat, k ≤ pl.length ∧ iv = .int .i64 (k : Int) ∧ w10 = wr) (fun iv _ => pl.length - (intOf iv).toNat)
        case atStart => exact ⟨0, Nat.zero_le _, rfl, rfl⟩
        case round =>
          obtain ⟨k, hk, rfl, rfl⟩ := hrel
          by_cases hlt : k < pl.length
          · obtain ⟨a', c', he, _, hkk⟩ := HI10.out.form
            obtain ⟨g, hg, _, _, hcell, _⟩ := hkk k hlt
            simp only [Value.slice.injEq] at he
            rw [← he.1] at hg
            subst hg
            obtain ⟨x, hx⟩ : ∃ x, pl[k] = x := ⟨_, rfl⟩
            have hge : ¬ x < (T : Int) := by have := HPL.out pl[k] (List.getElem_mem hlt); omega
            rw [hx] at hcell
            clear hkk he hx
            go_wp2
            go_roundw
            case rel => exact ⟨k + 1, by omega, by go_num, by first | rfl | trivial⟩
            case measure => simp [intOf]; omega
          · obtain rfl : k = pl.length := by omega
            go_wp2
            go_loopw [28, 29] (fun sv iv wr => ∃ k q : Nat, k ≤ s.size ∧ iv = .int .i64 (k : Int) ∧ sv = .int .i64 (q : Int) ∧ q ≤ k ∧ Hid (∀ i, k ≤ i + q → i + 1 ≤ k → lvL s.data.toList i = lvL s.data.toList (k - 1)) ∧ Hid (Below w.heap.size w wr)) (fun _ iv _ => s.size - (intOf iv).toNat)
            case atStart => exact ⟨0, 0, Nat.zero_le _, rfl, rfl, Nat.le_refl _, fun i _ h => by omega, HB10⟩
            case round =>
              obtain ⟨k, q, hk, rfl, rfl, hqk, HSV, HBW⟩ := hrel
              by_cases hlt : k < s.size
              · have hltI : (k : Int) < (s.size : Int) := by omega
                have hkC : k < C.size := by omega
                have hkG : k < G.size := by omega
                have hkP : k < P.size := by omega
                have hkQ : k < Q.size := by omega
                have hx : s[k].toNat = 48 ∨ s[k].toNat = 49 := by have := lvl_at s k hlt HWB.out; omega
                have hcv : C[k].toNat = 48 ∨ C[k].toNat = 49 := by have := lvl_at C k hkC HF.out.cw; omega
                have hpv : P[k].toNat = 48 ∨ P[k].toNat = 49 := by have := lvl_at P k hkP HF.out.pw; omega
                have HSM : Hid (∀ q', T ≤ q' → q' ≤ k + 1 → (∀ i, k + 1 ≤ i + q' → i ≤ k → lvL s.data.toList i = lvL s.data.toList k) → C[k].toNat = s[k].toNat) := fun q' h1 h2 h3 => by
                  have := HF.out.same k q' hlt h1 h2 h3
                  rw [lvL_get C k hkC, lvL_get s k hlt] at this
                  omega
                have HF1 : Hid (C[k].toNat = 49 → T ≤ k + 1) := fun h => HF.out.first k hlt (by rw [lvL_get C k hkC]; omega)
                have HG1 : Hid (s[k].toNat = 49 → G[k].toNat = 49) := fun h => by
                  have := HF.out.keepG k hlt (by rw [lvL_get s k hlt]; omega)
                  rw [lvL_get G k hkG] at this; omega
                have HQ1 : Hid (s[k].toNat = 49 → Q[k].toNat = 49) := fun h => by
                  have := HF.out.keepQ k hlt (by rw [lvL_get s k hlt]; omega)
                  rw [lvL_get Q k hkQ] at this; omega
                have HP1 : Hid (P[k].toNat = 49 → s[k].toNat = 49) := fun h => by
                  have := HF.out.keepP k hlt (by rw [lvL_get P k hkP]; omega)
                  rw [lvL_get s k hlt] at this; omega
                obtain ⟨q0, d, HD, hq0, HS2⟩ : ∃ (q0 : Nat) (d : Bool), Hid ((d = false ∧ q0 = q ∧ (k = 0 ∨ s[k]! = s[k - 1]!)) ∨ (d = true ∧ q0 = 0 ∧ k ≠ 0 ∧ s[k]! ≠ s[k - 1]!)) ∧ q0 ≤ k ∧ Hid (∀ i, k + 1 ≤ i + (q0 + 1) → i ≤ k → lvL s.data.toList i = lvL s.data.toList k) := by
                  by_cases hk0 : k = 0
                  · refine ⟨q, false, .inl ⟨rfl, rfl, .inl hk0⟩, hqk, fun i h1 h2 => by rw [show i = k by omega]⟩
                  · by_cases he : s[k]! = s[k - 1]!
                    · refine ⟨q, false, .inl ⟨rfl, rfl, .inr he⟩, hqk, fun i h1 h2 => ?_⟩
                      have hk1 : k - 1 < s.size := by omega
                      have hll : lvL s.data.toList (k - 1) = lvL s.data.toList k := by
                        rw [lvL_get s (k - 1) hk1, lvL_get s k hlt]
                        rw [getElem!_pos s k hlt, getElem!_pos s (k - 1) hk1] at he
                        rw [he]
                      by_cases e : i = k
                      · rw [e]
                      · rw [HSV.out i (by omega) (by omega)]; exact hll
                    · exact ⟨0, true, .inr ⟨rfl, rfl, hk0, he⟩, Nat.zero_le _, fun i h1 h2 => by rw [show i = k by omega]⟩
                have wq : IntKind.i64.wrap ((q0 : Int) + 1) = (q0 : Int) + 1 := wrap_small _ (by omega) (by omega)
                have HX := Lib.hid hx
                have HCV := Lib.hid hcv
                have HPV := Lib.hid hpv
                clear hx hcv hpv
                go_upto_region 33 with fail
                go_cut [207] from 196 to 206 (fun v wx => v = .bool d ∧ Hid (Below w.heap.size w wx))
                case first =>
                  by_cases hk0 : k = 0
                  · have hk0I : ¬ (0 : Int) < (k : Int) := by omega
                    have hk0d : decide ((0 : Int) < (k : Int)) = false := decide_eq_false hk0I
                    have hk0e : decide (0 < k) = false := decide_eq_false (by omega)
                    have HDF : Hid (d = false) := by
                      rcases HD.out with ⟨h, -⟩ | ⟨-, -, h, -⟩
                      · exact h
                      · exact absurd hk0 h
                    have HK0 := Lib.hid hk0
                    clear hk0
                    go_wp2
                    go_quiet (fail)
                    go_wp2
                    go_meet
                    exact ⟨by rw [HDF.out], by first | exact HBW | exact ⟨HBW.out.os, HBW.out.tape, HBW.out.output, HBW.out.size, HBW.out.block⟩⟩
                  · obtain ⟨k1, hk1⟩ : ∃ k1, k = k1 + 1 := ⟨k - 1, by omega⟩
                    have hk1s : k1 < s.size := by omega
                    have hk0I : (0 : Int) < (k : Int) := by omega
                    have hk0d : decide ((0 : Int) < (k : Int)) = true := decide_eq_true hk0I
                    have hk0e : decide (0 < k) = true := decide_eq_true (by omega)
                    have wk : IntKind.i64.wrap ((k : Int) - 1) = (k1 : Int) := by rw [show (k : Int) - 1 = (k1 : Int) by omega]; exact wrap_small _ (by omega) (by omega)
                    have wk2 : (k : Int) - 1 = (k1 : Int) := by omega
                    have hy : s[k1].toNat = 48 ∨ s[k1].toNat = 49 := by have := lvl_at s k1 hk1s HWB.out; omega
                    have HDE : Hid (d = !(decide (s[k].toNat = s[k1].toNat))) := by
                      have e1 : s[k]! = s[k] := getElem!_pos s k hlt
                      have e2 : s[k - 1]! = s[k1] := by rw [show k - 1 = k1 by omega]; exact getElem!_pos s k1 hk1s
                      show _ = _
                      rcases HD.out with ⟨h, -, h2 | h2⟩ | ⟨h, -, -, h2⟩
                      · omega
                      · rw [e1, e2] at h2; rw [h, h2]; simp
                      · rw [e1, e2] at h2
                        have : ¬ s[k].toNat = s[k1].toNat := fun h3 => h2 (UInt8.toNat_inj.1 h3)
                        rw [h]; simp [this]
                    have HK1 := Lib.hid hk1
                    clear hk1 hk0
                    rcases HX.out with hx | hx
                    all_goals
                      rcases hy with hy | hy
                      all_goals
                        have HDD := Lib.hid HDE.out
                        go_wp2
                        go_quiet (fail)
                        go_wp2
                        go_meet
                        exact ⟨by rw [HDD.out, hx, hy]; rfl, by first | exact HBW | exact ⟨HBW.out.os, HBW.out.tape, HBW.out.output, HBW.out.size, HBW.out.block⟩⟩
                case rest =>
                  obtain ⟨rfl, HBW1⟩ := hcut
                  go_upto_if 207 with fail
                  go_cut [28] from 196 to 206 (fun v wx => v = .int .i64 (q0 : Int) ∧ wc = wx)
                  case first =>
                    rcases HD.out with ⟨rfl, hqq, -⟩ | ⟨rfl, hqq, -, -⟩
                    · go_wp2
                      go_meet
                      exact ⟨by rw [hqq], rfl⟩
                    · go_wp2
                      go_meet
                      exact ⟨by rw [hqq]; rfl, rfl⟩
                  case rest =>
                    obtain ⟨rfl, rfl⟩ := hcut
                    have HBW := HBW1
                    have hx := HX.out
                    have hcv := HCV.out
                    have hpv := HPV.out
                    clear HD hqk HSV HX HCV HPV
                    rcases hx with hx | hx
                    · have hcx : T ≤ (q0 + 1) → C[k].toNat = 48 := fun h => by have := HSM.out ((q0 + 1)) h (by omega) HS2.out; omega
                      have hp : P[k].toNat = 48 := by have := HP1.out; omega
                      clear hpv
                      by_cases hq : T ≤ (q0 + 1)
                      · have hqI : (T : Int) ≤ (q0 : Int) + 1 := by omega
                        have hcc : C[k].toNat = 48 := hcx hq
                        clear hcx hcv hq
                        as_aux_lemma =>
                          go_wp2
                          go_quiet (fail)
                          go_wp2
                          go_roundw
                          case rel => exact ⟨k + 1, (q0 + 1), by omega, by go_num, by go_num, by omega, by intro i h1 h2; exact HS2.out i h1 (by omega), by first | exact HBW.out | exact ⟨HBW.out.os, HBW.out.tape, HBW.out.output, HBW.out.size, HBW.out.block⟩⟩
                          case measure => simp [intOf]; omega
                      · have hqI : ¬ (T : Int) ≤ (q0 : Int) + 1 := by omega
                        have hqd : decide ((T : Int) ≤ (q0 : Int) + 1) = false := decide_eq_false hqI
                        clear hcx hq
                        rcases hcv with hcc | hcc
                        · as_aux_lemma =>
                            go_wp2
                            go_quiet (fail)
                            go_wp2
                            go_roundw
                            case rel => exact ⟨k + 1, (q0 + 1), by omega, by go_num, by go_num, by omega, by intro i h1 h2; exact HS2.out i h1 (by omega), by first | exact HBW.out | exact ⟨HBW.out.os, HBW.out.tape, HBW.out.output, HBW.out.size, HBW.out.block⟩⟩
                            case measure => simp [intOf]; omega
                        · have hf : ¬ (k : Int) + 1 < (T : Int) := by have := HF1.out hcc; omega
                          as_aux_lemma =>
                            go_wp2
                            go_quiet (fail)
                            go_wp2
                            go_roundw
                            case rel => exact ⟨k + 1, (q0 + 1), by omega, by go_num, by go_num, by omega, by intro i h1 h2; exact HS2.out i h1 (by omega), by first | exact HBW.out | exact ⟨HBW.out.os, HBW.out.tape, HBW.out.output, HBW.out.size, HBW.out.block⟩⟩
                            case measure => simp [intOf]; omega
                    · have hcx : T ≤ (q0 + 1) → C[k].toNat = 49 := fun h => by have := HSM.out ((q0 + 1)) h (by omega) HS2.out; omega
                      have hg : G[k].toNat = 49 := HG1.out hx
                      have hqq : Q[k].toNat = 49 := HQ1.out hx
                      by_cases hq : T ≤ (q0 + 1)
                      · have hqI : (T : Int) ≤ (q0 : Int) + 1 := by omega
                        have hcc : C[k].toNat = 49 := hcx hq
                        have hf : ¬ (k : Int) + 1 < (T : Int) := by have := HF1.out hcc; omega
                        clear hcx hcv hq
                        rcases hpv with hp | hp
                        all_goals
                          as_aux_lemma =>
                            go_wp2
                            go_quiet (fail)
                            go_wp2
                            go_roundw
                            case rel => exact ⟨k + 1, (q0 + 1), by omega, by go_num, by go_num, by omega, by intro i h1 h2; exact HS2.out i h1 (by omega), by first | exact HBW.out | exact ⟨HBW.out.os, HBW.out.tape, HBW.out.output, HBW.out.size, HBW.out.block⟩⟩
                            case measure => simp [intOf]; omega
                      · have hqI : ¬ (T : Int) ≤ (q0 : Int) + 1 := by omega
                        have hqd : decide ((T : Int) ≤ (q0 : Int) + 1) = false := decide_eq_false hqI
                        clear hcx hq
                        rcases hcv with hcc | hcc
                        · rcases hpv with hp | hp
                          all_goals
                            as_aux_lemma =>
                              go_wp2
                              go_quiet (fail)
                              go_wp2
                              go_roundw
                              case rel => exact ⟨k + 1, (q0 + 1), by omega, by go_num, by go_num, by omega, by intro i h1 h2; exact HS2.out i h1 (by omega), by first | exact HBW.out | exact ⟨HBW.out.os, HBW.out.tape, HBW.out.output, HBW.out.size, HBW.out.block⟩⟩
                              case measure => simp [intOf]; omega
                        · have hf : ¬ (k : Int) + 1 < (T : Int) := by have := HF1.out hcc; omega
                          rcases hpv with hp | hp
                          all_goals
                            as_aux_lemma =>
                              go_wp2
                              go_quiet (fail)
                              go_wp2
                              go_roundw
                              case rel => exact ⟨k + 1, (q0 + 1), by omega, by go_num, by go_num, by omega, by intro i h1 h2; exact HS2.out i h1 (by omega), by first | exact HBW.out | exact ⟨HBW.out.os, HBW.out.tape, HBW.out.output, HBW.out.size, HBW.out.block⟩⟩
                              case measure => simp [intOf]; omega
              · obtain rfl : k = s.size := by omega
                go_wp2
                go_ret
                exact ⟨rfl, HBW.out⟩
  · have HLO := Lib.hid (fun w => b10Long_any a a2 n cap n2 cap2 w)
    have hb : (decide (1048576 < n) || decide (1048576 < n2)) = true := by simp; omega
    rw [hb] at HLO
    clear hb hr hr2 hn hn2 hmx
    go_enter Tryd.func3, Tryd.ntmps3
    go_wp2_with fail
    refine (HLO.out _).mono ?_; rintro e w' ⟨rfl, rfl⟩
    go_wp2
    go_ret
    exact ⟨rfl, Below.refl _ _⟩
end Go.Proofs.YtafecdmcbpnniabDoor
