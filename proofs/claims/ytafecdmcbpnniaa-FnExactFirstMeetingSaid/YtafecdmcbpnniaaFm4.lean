/- The first meeting of clocks, on the model's side. -/
import Derived.Test.YtafecdmcbpnniaaFm3
namespace Go.Proofs.Ytafecdmcbpnniaa
open Go.RowKit
set_option linter.unusedVariables false
theorem l00MaxG (a b : Int) (w : World) :
    Calls Try.prog 63 #[.int .i64 a, .int .i64 b] w fun e w' => e = .returned (.int .i64 (max a b)) ∧ w = w' := by
  by_cases h : b < a
  · rw [show max a b = a by omega]
    go_enter Try.func63, Try.ntmps63
    go_wp2
    go_ret
    exact ⟨rfl, rfl⟩
  · rw [show max a b = b by omega]
    go_enter Try.func63, Try.ntmps63
    go_wp2
    go_ret
    exact ⟨rfl, rfl⟩
/-- the state of the walk through the clocks -/
def Stat (F : List Int) (n k : Nat) (s m : Int) : Prop := (k < n ∧ MS F k (LatL F n) s m) ∨ (k = n ∧ MeetR F n m true)
theorem tried0 (m s p o : Int) : Tried m s p o 0 := fun i hi => by omega
set_option maxHeartbeats 8000000 in
set_option maxRecDepth 100000 in
theorem specFirst (B : Nat) (a : Option Addr) (n cap : Nat) (F : List Int) (R : Int) (c : Bool) (w : World) (hr : Recs w B (.slice a n cap) n F) (hM : (allC F n = true ∧ MeetR F n R c) ∨ (allC F n = false ∧ R = 0 ∧ c = false)) (hl : n ≤ 1048576) :
    Calls Try.prog 39 #[.slice a n cap] w fun e w' => e = .returned (.tuple #[.int .i64 R, .bool c]) ∧ Below w.heap.size w w' := by
  have HA := Lib.hid (l10All_any B a n cap F w hr hl)
  rcases hM with ⟨hal, hM⟩ | ⟨hal, rfl, rfl⟩
  · rw [hal] at HA
    obtain ⟨⟨hn1, hn6⟩, hal2⟩ := allC_iff hal
    have HAL := Lib.hid hal2
    have HM := Lib.hid hM
    have HR0 := Lib.hid hr
    have hlat := lat_bd F 100000 n (fun k hk => by
      have hkk := allK_at hal2 hk
      unfold ckK at hkk
      exact (clkB_iff.1 hkk).2.2) (by omega)
    clear hr hM hal hal2
    go_enter Try.func39, Try.ntmps39
    go_wp2_with fail
    refine HA.out.mono ?_; rintro e w1 ⟨rfl, hb1⟩
    have HR := Lib.hid (HR0.out.keep hb1 (Nat.le_refl _))
    have HB0 := Lib.hid hb1
    clear hb1 HA
    go_wp2
    go_loopw [4, 5] (fun lv iv wr => ∃ k : Nat, k ≤ n ∧ iv = .int .i64 (k : Int) ∧ lv = .int .i64 (LatL F k) ∧ wr = w1) (fun _ iv _ => n - (intOf iv).toNat)
    case atStart => exact ⟨0, Nat.zero_le _, rfl, rfl, rfl⟩
    case round =>
      obtain ⟨k, hk, rfl, rfl, rfl⟩ := hrel
      by_cases hlt : k < n
      · obtain ⟨g, p, o, rfl, -, hgl, ⟨e0, e1⟩, x0, x1⟩ := HR.out.at k hlt
        have HL := Lib.hid (show LatL F (k + 1) = max (LatL F k) o by rw [LatL, e1])
        clear e0 e1
        go_wp2_with fail
        refine (l00MaxG _ _ _).mono ?_; rintro e w' ⟨rfl, rfl⟩
        go_wp2
        go_roundw
        case rel => exact ⟨k + 1, by omega, by go_num, by rw [HL.out], by first | rfl | trivial⟩
        case measure => simp [intOf]; omega
      · obtain rfl : n = k := by omega
        obtain ⟨wA, rfl⟩ : ∃ wA, wA = wr := ⟨_, rfl⟩
        have HS0 : Hid (Stat F n 0 1 (LatL F n)) := .inl ⟨by omega, ms_start F _ hlat.1 (by have : lastM = 1000000000000 := rfl; omega)⟩
        obtain ⟨L, hL⟩ : ∃ L, LatL F n = L := ⟨_, rfl⟩
        have HL := Lib.hid hL
        rw [hL] at HS0 hlat ⊢
        clear hL
        go_wp2
        go_loopw [6, 7, 8] (fun mv sv iv W => ∃ (k : Nat) (s m : Int), k ≤ n ∧ iv = .int .i64 (k : Int) ∧ mv = .int .i64 m ∧ sv = .int .i64 s ∧ Hid (Stat F n k s m) ∧ Hid (Below wA.heap.size wA W)) (fun _ _ iv _ => n - (intOf iv).toNat)
        case atStart => exact ⟨0, 1, L, Nat.zero_le _, rfl, rfl, rfl, HS0, Below.refl _ _⟩
        case round =>
          obtain ⟨k, s, m, hk, rfl, rfl, rfl, HST, HB⟩ := hrel
          obtain ⟨wB, rfl⟩ : ∃ wB, wB = wr := ⟨_, rfl⟩
          by_cases hlt : k < n
          · have hms : MS F k L s m := by
              rcases HST.out with ⟨-, h⟩ | ⟨h, -⟩
              · rw [HL.out] at h; exact h
              · omega
            have HMS := Lib.hid hms
            obtain ⟨b0, b1, b2, b3, b4, -⟩ := hms
            have hlm : lastM = 1000000000000 := rfl
            rw [hlm] at b2 b4
            have HLM := Lib.hid hlm
            obtain ⟨g, p, o, rfl, -, hgl, ⟨e0, e1⟩, x0, x1⟩ := (HR.out.keep HB.out (Nat.le_refl _)).at k hlt
            have hkk := allK_at HAL.out hlt
            unfold ckK at hkk
            rw [e0, e1] at hkk
            obtain ⟨⟨p1, p2⟩, o1, o2⟩ := clkB_iff.1 hkk
            have hoL := lat_le F n k hlt
            rw [e1, HL.out] at hoL
            have HE0 := Lib.hid e0
            have HE1 := Lib.hid e1
            obtain ⟨u1, u2, u3⟩ := rounds_pos s p b3 p1
            have HG := Lib.hid (fun w => specGcd s p w (by omega) (by omega) (by omega) (by omega))
            have HHIT := Lib.hid (fun (j : Nat) => @ms_hit F k j L s m p o HMS.out HE0.out HE1.out p1 hoL)
            have HALL := Lib.hid (fun (j : Nat) => @ms_all F k j L s m p o HMS.out HE0.out HE1.out p1)
            have HLATE := Lib.hid (fun (j : Nat) => @ms_late F k j L s m p o HMS.out HE0.out HE1.out)
            have htd : p.tdiv (Int.gcd s p : Int) = p / (Int.gcd s p : Int) := Int.tdiv_eq_ediv_of_nonneg (by omega)
            obtain ⟨G, hG⟩ : ∃ G : Int, (Int.gcd s p : Int) = G := ⟨_, rfl⟩
            rw [hG] at u1 u2 u3 HG HHIT HALL htd
            obtain ⟨T, hT⟩ : ∃ T, p / G = T := ⟨_, rfl⟩
            rw [hT] at u1 u2 HHIT HALL htd
            have hne : (G == 0) = false := by simp; omega
            have hn0 : ¬ G = 0 := by omega
            have v1 : IntKind.i64.wrap (p.tdiv G) = T := by rw [htd]; exact IntWalk.i64_in _ (by omega)
            have v2 : IntKind.i64.wrap T = T := IntWalk.i64_in _ (by omega)
            have sT1 : 1 * 1 ≤ s * T := Int.mul_le_mul b3 u1 (by omega) (by omega)
            have sT2 : s * T ≤ 1000000000000 * 100000 := Int.mul_le_mul b4 (by omega) (by omega) (by omega)
            have v3 : IntKind.i64.wrap (s * T) = s * T := IntWalk.i64_in _ (by omega)
            obtain ⟨S2, hS2⟩ : ∃ S2, s * T = S2 := ⟨_, rfl⟩
            rw [hS2] at sT1 sT2 v3 HHIT
            have v3b : IntKind.i64.wrap S2 = S2 := IntWalk.i64_in _ (by omega)
            have v0 : IntKind.i64.wrap ((k : Int) + 1) = (k : Int) + 1 := IntWalk.i64_in _ (by omega)
            have HTT := Lib.hid hT
            have HGG := Lib.hid hG
            clear e0 e1 hkk hT hG htd
            have hcA0 : (wB.alloc (.cells #[.int .i64 p, .int .i64 o] 25)).cell? ⟨wB.heap.size, 0, none⟩ = some (.int .i64 p) := by simp
            have hcA1 : (wB.alloc (.cells #[.int .i64 p, .int .i64 o] 25)).cell? ⟨wB.heap.size, 1, none⟩ = some (.int .i64 o) := by simp
            go_wp2_with fail
            go_quiet ((go_at_call 58; exact quiet_eqc (HG.out _)))
            have A2 := Lib.hid ((CkAt.new wB p o 25).drewN nq)
            have HB2 := Lib.hid (below_drk (HB.out.trans ((bel_alloc wB (.cells #[.int .i64 p, .int .i64 o] 25)).mono HB.out.size)) nq)
            obtain ⟨W, hW⟩ : ∃ W, (wB.alloc (.cells #[.int .i64 p, .int .i64 o] 25)).drewN nq = W := ⟨_, rfl⟩
            rw [hW] at A2 HB2 ⊢
            have HR2 := Lib.hid (HR.out.keep HB2.out (Nat.le_refl _))
            obtain ⟨-, c20, c21⟩ := A2.out
            clear hW hcA0 hcA1 v1 hne hn0 x0 x1 u3
            go_wp2
            go_loop [6, 11] (fun mv kv => ∃ (j : Nat) (mm : Int), mv = .int .i64 mm ∧ kv = .int .i64 (j : Int) ∧ Hid (mm = m + (j : Int) * s) ∧ m ≤ mm ∧ mm ≤ 1000000000000 ∧ (j : Int) < T ∧ Hid (Tried m s p o j)) (fun _ kv => (T - intOf kv).toNat)
            case atStart => exact ⟨0, m, rfl, rfl, by show m = m + 0 * s; omega, by omega, b2, by omega, tried0 m s p o⟩
            case round =>
              obtain ⟨j, mm, rfl, rfl, HMM, hmm1, hmm2, hjT, HTR⟩ := hrel
              have hmm := HMM.out
              have w0 : IntKind.i64.wrap (mm - o) = mm - o := IntWalk.i64_in _ (by omega)
              have w2 : IntKind.i64.wrap (mm + s) = mm + s := IntWalk.i64_in _ (by omega)
              have w3 : IntKind.i64.wrap ((j : Int) + 1) = (j : Int) + 1 := IntWalk.i64_in _ (by omega)
              have hpe : (p == 0) = false := by simp; omega
              have hpn : ¬ p = 0 := by omega
              have hmo : 0 ≤ mm - o := by omega
              by_cases hz : (mm - o) % p = 0
              · have hz2 : (mm - o).tmod p = 0 := (tmod_zero _ _ (by omega)).2 hz
                have hz3 : ((mm - o).tmod p != 0) = false := by simp [hz2]
                have hz4 : ((mm - o) % p != 0) = false := by simp [hz]
                have hhit := HHIT.out j hjT (by rw [← hmm]; exact hz)
                rw [← hmm] at hhit
                have HH := Lib.hid hhit
                clear hhit hmm
                by_cases hk1 : k + 1 < n
                · have hk1I : (k : Int) + 1 < (n : Int) := by omega
                  by_cases hgt : S2 ≤ 1000000000000
                  · have hgd : decide (1000000000000 < S2) = false := by simp; omega
                    have hgn : ¬ 1000000000000 < S2 := by omega
                    have HST2 : Hid (Stat F n (k + 1) S2 mm) := .inl ⟨hk1, by rw [HL.out]; exact ⟨b0, by omega, hmm2, by omega, hgt, HH.out⟩⟩
                    go_wp2
                    go_roundw
                    case rel => exact ⟨k + 1, S2, mm, by omega, by go_num, rfl, rfl, HST2, HB2⟩
                    case measure => simp [intOf]; omega
                  · have hgd : decide (1000000000000 < S2) = true := by simp; omega
                    have hgn : 1000000000000 < S2 := by omega
                    have hoff : LatL F n ≤ mm := by rw [HL.out]; omega
                    have HREST := Lib.hid (@ms_rest F n (k + 1) S2 mm (by omega) hoff hmm2 hgn (by rw [HL.out]; exact HH.out) (by rw [HL.out]; exact b0))
                    have HNOT := Lib.hid (fun (j : Nat) => @ms_not F n (k + 1) j S2 mm (by omega) hoff hmm2 hgn (by rw [HL.out]; exact HH.out) (by rw [HL.out]; exact b0))
                    go_wp2
                    clear hz hz2 hz3 hz4 hmo w0 w2 w3 hpe hpn hoff
                    go_loopw [12] (fun jv wr => ∃ i : Nat, k + 1 ≤ i ∧ i ≤ n ∧ jv = .int .i64 (i : Int) ∧ Hid (∀ j, k + 1 ≤ j → j < i → (mm - F.getD (j * 2 + 1) 0) % F.getD (j * 2) 0 = 0) ∧ Hid (Below W.heap.size W wr)) (fun jv _ => n - (intOf jv).toNat)
                    case atStart => exact ⟨k + 1, Nat.le_refl _, by omega, by go_num, fun j h1 h2 => by omega, Below.refl _ _⟩
                    case round =>
                      obtain ⟨i, hi1, hi2, rfl, HALLJ, HB4⟩ := hrel
                      by_cases hin : i < n
                      · obtain ⟨g', p', o', hg', -, hgl', ⟨e0, e1⟩, x0, x1⟩ := (HR2.out.keep HB4.out (Nat.le_refl _)).at i hin
                        simp only [Option.some.injEq, Addr.mk.injEq, and_true] at hg'
                        subst hg'
                        have hkk := allK_at HAL.out hin
                        unfold ckK at hkk
                        rw [e0, e1] at hkk
                        obtain ⟨⟨p1', p2'⟩, o1', o2'⟩ := clkB_iff.1 hkk
                        have hoL' := lat_le F n i hin
                        rw [e1, HL.out] at hoL'
                        have HE0' := Lib.hid e0
                        have HE1' := Lib.hid e1
                        clear e0 e1 hkk
                        have w0 : IntKind.i64.wrap (mm - o') = mm - o' := IntWalk.i64_in _ (by omega)
                        have hpe : (p' == 0) = false := by simp; omega
                        have hpn : ¬ p' = 0 := by omega
                        have hmo : 0 ≤ mm - o' := by omega
                        have viw : IntKind.i64.wrap ((i : Int) + 1) = (i : Int) + 1 := IntWalk.i64_in _ (by omega)
                        by_cases hz : (mm - o') % p' = 0
                        · have hz2 : (mm - o').tmod p' = 0 := (tmod_zero _ _ (by omega)).2 hz
                          have hz3 : ((mm - o').tmod p' != 0) = false := by simp [hz2]
                          have hz4 : ((mm - o') % p' != 0) = false := by simp [hz]
                          have HALL2 : Hid (∀ j, k + 1 ≤ j → j < i + 1 → (mm - F.getD (j * 2 + 1) 0) % F.getD (j * 2) 0 = 0) := fun j h1 h2 => by
                            by_cases e : j = i
                            · rw [e, HE0'.out, HE1'.out]; exact hz
                            · exact HALLJ.out j h1 (by omega)
                          go_wp2
                          go_quiet (fail)
                          have HB5 := Lib.hid (below_drk HB4.out nq)
                          go_wp2
                          go_roundw
                          case rel => exact ⟨i + 1, by omega, by omega, by go_num, HALL2, HB5⟩
                          case measure => simp [intOf]; omega
                        · have hz2 : ¬ (mm - o').tmod p' = 0 := fun h => hz ((tmod_zero _ _ (by omega)).1 h)
                          have hz3 : ((mm - o').tmod p' != 0) = true := by simp [hz2]
                          have hz4 : ((mm - o') % p' != 0) = true := by simp [hz]
                          obtain ⟨rfl, rfl⟩ := meetR_one HM.out (HNOT.out i hin (by rw [HE0'.out, HE1'.out]; exact hz))
                          go_wp2
                          go_quiet (fail)
                          have HB5 := Lib.hid (below_drk HB4.out nq)
                          go_wp2
                          go_ret2
                          exact ⟨rfl, bel_call HB0.out (bel_call HB2.out HB5.out)⟩
                      · obtain ⟨rfl, rfl⟩ := meetR_one HM.out (HREST.out (fun j h1 h2 => HALLJ.out j h1 (by omega)))
                        go_wp2
                        go_ret2
                        exact ⟨rfl, bel_call HB0.out (bel_call HB2.out HB4.out)⟩
                · have hk1I : ¬ (k : Int) + 1 < (n : Int) := by omega
                  have hkn : k + 1 = n := by omega
                  have HST2 : Hid (Stat F n (k + 1) s mm) := .inr ⟨hkn, by
                    have hh := HH.out
                    rw [hkn] at hh
                    exact ms_end (by rw [HL.out]; exact b0) (by rw [HL.out]; omega) hmm2 (by rw [HL.out]; exact hh)⟩
                  clear hkn
                  go_wp2
                  go_roundw
                  case rel => exact ⟨k + 1, s, mm, by omega, by go_num, rfl, rfl, HST2, HB2⟩
                  case measure => simp [intOf]; omega
              · have hz2 : ¬ (mm - o).tmod p = 0 := fun h => hz ((tmod_zero _ _ (by omega)).1 h)
                have hz3 : ((mm - o).tmod p != 0) = true := by simp [hz2]
                have hz4 : ((mm - o) % p != 0) = true := by simp [hz]
                have HTR2 := Lib.hid (tried_next HTR.out (by rw [← hmm]; exact hz))
                have hnx : mm + s = m + ((j + 1 : Nat) : Int) * s := by rw [hmm, Int.natCast_add, Int.add_mul]; omega
                have HNX := Lib.hid hnx
                clear hmm hnx
                by_cases hT : (j : Int) + 1 < T
                · have hTd : decide (T ≤ (j : Int) + 1) = false := by simp; omega
                  have hTn : ¬ T ≤ (j : Int) + 1 := by omega
                  by_cases hM2 : mm + s ≤ 1000000000000
                  · have hMd : decide (1000000000000 < mm + s) = false := by simp; omega
                    have hMn : ¬ 1000000000000 < mm + s := by omega
                    go_wp2
                    go_round
                    case rel => exact ⟨j + 1, mm + s, rfl, by go_num, HNX, by omega, hM2, by omega, HTR2⟩
                    case measure => simp [intOf]; omega
                  · have hMd : decide (1000000000000 < mm + s) = true := by simp; omega
                    have hMn : 1000000000000 < mm + s := by omega
                    obtain ⟨rfl, rfl⟩ := meetR_one HM.out (ms_none (show k + 1 ≤ n by omega) (fun t h0 h1 => HLATE.out (j + 1) (by rw [← HNX.out, HLM.out]; exact hMn) HTR2.out t (by rw [HL.out] at h0; exact h0) h1))
                    go_wp2
                    go_ret2
                    exact ⟨rfl, bel_call HB0.out HB2.out⟩
                · have hTd : decide (T ≤ (j : Int) + 1) = true := by simp; omega
                  have hTn : T ≤ (j : Int) + 1 := by omega
                  obtain ⟨rfl, rfl⟩ := meetR_one HM.out (ms_none (show k + 1 ≤ n by omega) (fun t h0 h1 => HALL.out (j + 1) (by omega) HTR2.out t (by rw [HL.out] at h0; exact h0)))
                  go_wp2
                  go_ret2
                  exact ⟨rfl, bel_call HB0.out HB2.out⟩
          · obtain rfl : n = k := by omega
            have hme : MeetR F n m true := by
              rcases HST.out with ⟨h, -⟩ | ⟨-, h⟩
              · omega
              · exact h
            obtain ⟨rfl, rfl⟩ := meetR_one HM.out hme
            clear hme
            go_wp2
            go_ret2
            exact ⟨rfl, bel_call HB0.out HB.out⟩
  · rw [hal] at HA
    clear hal hr
    go_enter Try.func39, Try.ntmps39
    go_wp2_with fail
    refine HA.out.mono ?_; rintro e w1 ⟨rfl, hb1⟩
    go_wp2
    go_ret2
    exact ⟨rfl, hb1⟩
end Go.Proofs.Ytafecdmcbpnniaa
