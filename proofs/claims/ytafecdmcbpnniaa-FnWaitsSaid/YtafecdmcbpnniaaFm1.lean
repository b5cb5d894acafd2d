/- The first meeting of clocks: the program's side. -/
import Derived.Test.YtafecdmcbpnniaaCmn
import Derived.Test.YtafecdmcbpnniaaMeetM
import Derived.Test.YtafecdmcbpnniaaGap2
import Derived.Deep.RegionHeld3
namespace Go.Proofs.Ytafecdmcbpnniaa
open Go.RowKit
set_option linter.unusedVariables false
theorem firstA_ex (F : List Int) (n : Nat) : ∃ r c, (allC F n = true ∧ MeetR F n r c) ∨ (allC F n = false ∧ r = 0 ∧ c = false) := by
  cases h : allC F n with
  | false => exact ⟨0, false, .inr ⟨rfl, rfl, rfl⟩⟩
  | true =>
    by_cases hm : ∃ t : Nat, (t : Int) ≤ lastM ∧ comE F n (t : Int)
    · obtain ⟨t, h1, h2⟩ := hm
      -- the least one
      have key : ∀ m : Nat, (∃ t : Nat, t ≤ m ∧ comE F n (t : Int)) → ∃ t : Nat, t ≤ m ∧ comE F n (t : Int) ∧ ∀ s : Nat, comE F n (s : Int) → t ≤ s := by
        intro m
        induction m with
        | zero => rintro ⟨t, ht, hc⟩; exact ⟨t, ht, hc, fun s _ => by omega⟩
        | succ m ih =>
          rintro ⟨t, ht, hc⟩
          by_cases hx : ∃ t : Nat, t ≤ m ∧ comE F n (t : Int)
          · obtain ⟨u, hu, hc2, hl⟩ := ih hx
            exact ⟨u, by omega, hc2, hl⟩
          · refine ⟨t, ht, hc, fun s hs => ?_⟩
            apply Decidable.byContradiction
            intro hlt
            exact hx ⟨s, by omega, hs⟩
      obtain ⟨u, hu, hc, hl⟩ := key t ⟨t, Nat.le_refl _, h2⟩
      refine ⟨(u : Int), true, .inl ⟨rfl, .inl ⟨rfl, by omega, by omega, hc, fun s hs0 hs => ?_⟩⟩⟩
      have := hl s.toNat (by rw [Int.toNat_of_nonneg hs0]; exact hs)
      omega
    · refine ⟨0, false, .inl ⟨rfl, .inr ⟨rfl, rfl, fun t h0 h1 hc => hm ⟨t.toNat, by rw [Int.toNat_of_nonneg h0]; exact h1, by rw [Int.toNat_of_nonneg h0]; exact hc⟩⟩⟩⟩
set_option maxHeartbeats 2000000 in
theorem bezout_any (P p : Int) (w : World) (hP : 1 ≤ P) (hP2 : P ≤ 1000000000000000) (hp : 1 ≤ p) (hp2 : p ≤ 100000) :
    Calls Try.prog 69 #[.int .i64 P, .int .i64 p] w fun e w' => ∃ fa, e = .returned (.tuple #[.int .i64 (Int.gcd P p : Int), .int .i64 fa]) ∧ (∃ y, fa * P + y * p = (Int.gcd P p : Int)) ∧ -100000 ≤ fa ∧ fa ≤ 100000 ∧ ∃ q, w' = w.drewN q := by
  go_enter Try.func69, Try.ntmps69
  go_wp2
  go_loopw [0, 1, 6, 7] (fun av bv fv xv wr => ∃ a b fa x : Int, av = .int .i64 a ∧ bv = .int .i64 b ∧ fv = .int .i64 fa ∧ xv = .int .i64 x ∧ Hid (BZ P p fa x a b) ∧ a ≤ 1000000000000000 ∧ b ≤ 1000000000000000 ∧ ∃ q, wr = w.drewN q) (fun _ bv _ _ _ => (intOf bv).toNat)
  case atStart => exact ⟨P, p, 1, 0, rfl, rfl, rfl, rfl, bz_start P p (by omega) hp, hP2, by omega, 0, rfl⟩
  case round =>
    obtain ⟨a, b, fa, x, rfl, rfl, rfl, rfl, HBZ, ha2, hb2, n, rfl⟩ := hrel
    obtain ⟨f1, f2, x1, x2, a1, b1⟩ := bz_bd HBZ.out
    by_cases hlt : 0 < b
    · have hne : (b != 0) = true := by simp; omega
      have hne2 : (b == 0) = false := by simp; omega
      have hn0 : ¬ b = 0 := by omega
      obtain ⟨hst, q1, q2⟩ := bz_step HBZ.out hlt
      have HST := Lib.hid hst
      clear hst
      have m0 : 0 ≤ a % b := Int.emod_nonneg _ (by omega)
      have m1 : a % b < b := Int.emod_lt_of_pos _ hlt
      have d0 : 0 ≤ a / b := Int.ediv_nonneg (by omega) (by omega)
      have d1 : a / b ≤ a := Int.ediv_le_self _ (by omega)
      have htd : a.tdiv b = a / b := Int.tdiv_eq_ediv_of_nonneg (by omega)
      have htm : a.tmod b = a % b := Int.tmod_eq_emod_of_nonneg (by omega)
      obtain ⟨q, hq⟩ : ∃ q, a / b = q := ⟨_, rfl⟩
      rw [hq] at d0 d1 htd q1 q2 HST
      have v1 : IntKind.i64.wrap (a.tdiv b) = q := by rw [htd]; exact IntWalk.i64_in _ (by omega)
      have v2 : IntKind.i64.wrap q = q := IntWalk.i64_in _ (by omega)
      have v3 : IntKind.i64.wrap (q * x) = q * x := IntWalk.i64_in _ (by omega)
      have v4 : IntKind.i64.wrap (fa - q * x) = fa - q * x := IntWalk.i64_in _ (by omega)
      have HQ := Lib.hid hq
      clear htd htm HBZ
      go_wp2
      go_quiet (fail)
      go_wp2
      go_quiet (fail)
      go_wp2
      go_roundw
      case rel => exact ⟨b, a % b, x, fa - q * x, rfl, rfl, rfl, rfl, HST, by omega, by omega, _, by first | rfl | exact World.drewN_drewN _ _ _ | (rw [World.drewN_drewN, World.drewN_drewN])⟩
      case measure => simp [intOf]; omega
    · obtain rfl : b = 0 := by omega
      obtain ⟨e1, y, hy⟩ := bz_end HBZ.out
      have HE := Lib.hid e1
      have HY := Lib.hid hy
      clear e1 hy
      go_wp2
      go_ret2
      exact ⟨fa, by rw [← HE.out]; rfl, ⟨y, by rw [← HE.out]; exact HY.out⟩, by omega, by omega, n, rfl⟩
end Go.Proofs.Ytafecdmcbpnniaa
