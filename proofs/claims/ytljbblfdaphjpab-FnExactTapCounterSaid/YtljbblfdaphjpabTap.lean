/- The counter that shifts in a parity, on both sides. -/
import Derived.Test.YtljbblfdaphjpabState
import Derived.Test.YtljbblfdaphjpabInts
import Derived.Test.YtljbblfdaphjpabTab
import Derived.Test.YtljbblfdaphjpabPair
import Derived.Test.YtljbblfdaphjpabCtrLaw
import Derived.Test.YtljbblfdaphjpabBits
import Derived.Test.YtljbblfdaphjpabRipple
import Derived.Test.YtljbblfdaphjpabOnes
import Derived.Deep.RegionLaw
import Derived.OwnWalk
import Derived.Deep.RegionHeld3
import Derived.Deep.RegionWith
import Derived.StillTailTactics
namespace Go.Proofs.Ytljbblfdaphjpab
open Go.RowKit

set_option maxHeartbeats 4000000 in
set_option maxRecDepth 100000 in
theorem shiftTap (b : Nat) (t : Nat) (w : World) (hb1 : 1 ≤ b) (hb2 : b ≤ 8) (ht : t < 256) :
    Calls Try.prog 55 #[.int .i64 (b : Int), .int .i64 2, .int .i64 (t : Int)] w fun e w' => ∃ v, e = .returned (.agg #[.int .i64 (b : Int), v]) ∧ Ints w' w.heap.size v (tabL (2 ^ b) (fun s => (mvN b s (onesN (s &&& t) % 2) : Int))) ∧ Below w.heap.size w w' := by
  obtain ⟨i0, hi, hz0, hz1, hz2⟩ := info_parts info_i64
  have hst : st (b : Int) = ((2 ^ b : Nat) : Int) := rfl
  have hsb := st_bd (b : Int) (by omega) (by omega)
  obtain ⟨n, hn⟩ : ∃ n, 2 ^ b = n := ⟨_, rfl⟩
  rw [hst, hn] at hsb
  rw [hn] at hst ⊢
  have hn256 : n ≤ 256 := by omega
  have HN := Lib.hid hn
  have st2 : ∀ w, Calls Try.prog 51 #[.int .i64 (b : Int)] w fun e w' => e = .returned (.int .i64 (n : Int)) ∧ w = w' := fun w =>
    (l02Size_any (b : Int) w (by omega) (by omega)).mono fun e w' h => by rw [hst] at h; exact h
  have ST := Lib.hid st2
  obtain ⟨p, hp⟩ : ∃ p : Nat, b - 1 = p := ⟨_, rfl⟩
  have hbp : (b : Int) - 1 = (p : Int) := by omega
  have hbw : IntKind.i64.wrap ((b : Int) - 1) = (p : Int) := by rw [hbp]; exact wrap_i64_nat _ (by omega)
  obtain ⟨m1, hm1⟩ : ∃ m1 : Nat, n - 1 = m1 := ⟨_, rfl⟩
  have hnm : (n : Int) - 1 = (m1 : Int) := by omega
  have hnw : IntKind.i64.wrap ((n : Int) - 1) = (m1 : Int) := by rw [hnm]; exact wrap_i64_nat _ (by omega)
  have hp7 : p ≤ 7 := by omega
  have HP := Lib.hid hp
  have HM := Lib.hid hm1
  clear st2 hst hn hp hm1
  go_enter Try.func55, Try.ntmps55
  go_wp2
  go_loopw [8, 9] (fun x _ wr => ∃ (k : Nat) (v : Value), k ≤ n ∧ x = .int .i64 (k : Int) ∧ Ints wr (w.heap.size + 1) v (tabL k (fun s => (mvN b s (onesN (s &&& t) % 2) : Int))) ∧ Below w.heap.size w wr ∧ At2 wr (w.heap.size + 1 + 1) (.int .i64 (b : Int)) v ∧ At2 wr w.heap.size (.int .i64 0) (.slice none 0 0) ∧ (∀ g, v.ownBlock = some g → g ≠ w.heap.size + 1 + 1)) (fun x _ _ => n - (intOf x).toNat)
  case atStart => exact ⟨0, _, Nat.zero_le _, rfl, by have := (Ints.lit (w.alloc (.cells #[.int .i64 0, .slice none 0 0] 24))).keep ((Below.refl _ _).alloc (Nat.le_refl _) (.cells #[.int .i64 (b : Int), .slice (some ⟨w.heap.size + 1, 0, none⟩) 0 0] 24)) (Nat.le_refl _); simpa [tabL] using this, (((Below.refl _ _).alloc (Nat.le_refl _) _).alloc (by simp) _).alloc (by simp; omega) _, by have := At2.new ((w.alloc (.cells #[.int .i64 0, .slice none 0 0] 24)).alloc (.cells #[] 2)) (.int .i64 (b : Int)) (.slice (some ⟨w.heap.size + 1, 0, none⟩) 0 0) 24; simpa using this, ((At2.new w _ _ _).alloc _).alloc _, by intro g e; simp [Value.ownBlock] at e; omega⟩
  case round =>
    obtain ⟨k, v, hk, rfl, hbuf, hB, hp2, hp3, hog⟩ := hrel
    have HP2 := Lib.hid hp2
    have HP3 := Lib.hid hp3
    have HOG := Lib.hid hog
    have HL := Lib.hid (tabL_len k (fun s => (mvN b s (onesN (s &&& t) % 2) : Int)))
    clear hp2 hp3 hog
    obtain ⟨av, cv, rfl, -, -⟩ := hbuf.form
    rw [HL.out] at hbuf HP2 HOG
    have HBUF := Lib.hid hbuf
    obtain ⟨hc0, hc1, hf0, hf1⟩ := HP2.out
    have hsz := hB.size
    have hlt2 := HP2.out.lt
    clear hbuf
    by_cases hlt : k < n
    · have hmv := mv_facts b k (onesN (k &&& t) % 2) hb1 hb2 (by rw [HN.out]; exact hlt) (by omega)
      obtain ⟨f1, f2, f3, f4⟩ := hmv
      rw [HN.out] at f1 f4
      rw [HM.out] at f1
      have hkw : IntKind.i64.wrap ((k : Int) * 2) = ((k * 2 : Nat) : Int) := by
        rw [show (k : Int) * 2 = ((k * 2 : Nat) : Int) from by simp]; exact wrap_i64_nat _ (by omega)
      have hmw : IntKind.i64.wrap (m1 : Int) = (m1 : Int) := wrap_i64_nat _ (by omega)
      have hkt : bits .and .i64 ((k : Int) / 2 ^ p) 1 = ((topN b k : Nat) : Int) := by
        have e : ((k : Int) / 2 ^ p) = ((k / 2 ^ p : Nat) : Int) := by simp
        have hd : k / 2 ^ p ≤ k := Nat.div_le_self _ _
        rw [e, show (1 : Int) = ((1 : Nat) : Int) from rfl, and_i64 _ _ (by omega) (by omega)]
        unfold topN at f2 ⊢
        rw [HP.out] at f2 ⊢
        rw [f2]
      have hkl : k &&& t ≤ k := Nat.and_le_left
      have hka2 : bits .and .i64 (k : Int) (t : Int) = ((k &&& t : Nat) : Int) := and_i64 _ _ (by omega) (by omega)
      have hon := l02Ones_nat (k &&& t)
      obtain ⟨r, hr⟩ : ∃ r, onesN (k &&& t) = r := ⟨_, rfl⟩
      have hrm : (r : Int) % 2 = ((r % 2 : Nat) : Int) := by omega
      rw [hr] at f1 f4 hon
      have HR := Lib.hid hr
      obtain ⟨y, hy⟩ : ∃ y, k &&& t = y := ⟨_, rfl⟩
      rw [hy] at hka2 hon hkl
      have HY := Lib.hid hy
      have HON := Lib.hid hon
      have hy256 : y < 256 := by omega
      obtain ⟨i, hi2⟩ : ∃ i, r % 2 = i := ⟨_, rfl⟩
      rw [hi2] at f1 f4 hrm
      have hi3 : onesN (k &&& t) % 2 = i := by rw [hr]; exact hi2
      have HI2 := Lib.hid hi3
      have hil : i ≤ 1 := by omega
      obtain ⟨tp, htp⟩ : ∃ tp, topN b k = tp := ⟨_, rfl⟩
      rw [htp] at hkt f2 f3
      clear hi2 hi3 hr hy hon htp
      have hka : bits .and .i64 ((k * 2 : Nat) : Int) (m1 : Int) = ((k * 2 &&& m1 : Nat) : Int) := and_i64 _ _ (by omega) (by omega)
      have hko : bits .or .i64 ((k * 2 &&& m1 : Nat) : Int) (i : Int) = ((mvN b k i : Nat) : Int) := by
        have : k * 2 &&& m1 ≤ k * 2 := Nat.and_le_left
        rw [or_i64 _ _ (by omega) (by omega), ← f1]
      generalize hz : mvN b k i = z at *
      have HZ := Lib.hid hz
      generalize k * 2 &&& m1 = q at *
      generalize k * 2 = k2 at *
      clear f1 f2 f3 f4 hz
      go_wp2_with fail
      refine (ST.out _).mono ?_; rintro e w' ⟨rfl, rfl⟩
      go_wp2_with fail
      refine (HON.out _ hy256).mono ?_; rintro e w' ⟨rfl, rfl⟩
      have hnc : (some (w.heap.size + 1 + 1) : Option Nat) ≠ (Value.slice av k cv).ownBlock := fun e => HOG.out _ e.symm rfl
      have lc : w.heap.size + 1 + 1 < wr.heap.size := hlt2
      have q0 : (0 : Int) ≤ (k : Int) := by omega
      go_wp2
      go_region_law (first | (go_simp; go_at_call 51; refine (ST.out _).mono ?_; rintro e w' ⟨rfl, rfl⟩) | (refine step_append_lies _ (by rfl) _ _ _ (by rfl) (w.heap.size + 1) 2 i0 _ 1 8 Try.underlying22 hi hz0 hz1 hz2 rfl (by omega) _ _ _ (by rfl) ((HBUF.out.alloc _).drew) ⟨wr.heap.size, 0, none⟩ 1 1 [.int .i64 (z : Int)] (by rfl) (by rfl) (World.news_of_block (cs := #[.int .i64 (z : Int)]) (t := 2) (fr := (0, 0)) (heap_alloc_new wr _)) (by simp [Value.oneCell']) (by omega) (by rw [HL.out]; unfold maxLen; omega) (by rw [HL.out]; omega) (by simp; omega) (wr.heap.size + 1) (by simp) ?_; intro gg cap w3 hown3 hgrow hat hlt3; have hfz : w3.frozen? ⟨w.heap.size + 1 + 1, 1, none⟩ = false := (hgrow.frozen_far _ (by simp; omega) hnc).trans ((((Below.refl wr.heap.size wr).alloc (Nat.le_refl _) _).drew.frozen (p := ⟨w.heap.size + 1 + 1, 1, none⟩) lc).trans hf1); have hcl3 : w3.cell? ⟨w.heap.size + 1 + 1, 1, none⟩ = some (.slice av k cv) := (hgrow.cell_far _ (by simp; omega) hnc).trans ((((Below.refl wr.heap.size wr).alloc (Nat.le_refl _) _).drew.cell (p := ⟨w.heap.size + 1 + 1, 1, none⟩) lc).trans hc1)))
      all_goals
        have hgc : gg ≠ w.heap.size + 1 + 1 := by
          rcases hat with h | h
          · exact HOG.out _ h
          · omega
        have hn0 : (some w.heap.size : Option Nat) ≠ (Value.slice av k cv).ownBlock := fun e => by have := HBUF.out.block_ge _ e.symm; omega
        have ht : tabL k (fun s => (mvN b s (onesN (s &&& t) % 2) : Int)) ++ [(z : Int)] = tabL (k + 1) (fun s => (mvN b s (onesN (s &&& t) % 2) : Int)) := by
          rw [tabL_snoc, ← HZ.out, ← HI2.out]
        have hI := Ints.snoc hown3
        rw [ht] at hI
        have HI := Lib.hid (hI.setNe (fun e => hgc e.symm) 1 (.slice (some ⟨gg, 0, none⟩) ((tabL k (fun s => (mvN b s (onesN (s &&& t) % 2) : Int))).length + 1) cap))
        have HA := Lib.hid ((((HP2.out.alloc _).drew).grown hgrow hnc).set1 (.slice (some ⟨gg, 0, none⟩) ((tabL k (fun s => (mvN b s (onesN (s &&& t) % 2) : Int))).length + 1) cap))
        have HA0 := Lib.hid ((((HP3.out.alloc _).drew).grown hgrow hn0).set_ne (g' := w.heap.size + 1 + 1) (by omega) 1 (.slice (some ⟨gg, 0, none⟩) ((tabL k (fun s => (mvN b s (onesN (s &&& t) % 2) : Int))).length + 1) cap))
        have hW : Below w.heap.size w (w3.setCell ⟨w.heap.size + 1 + 1, 1, none⟩ (.slice (some ⟨gg, 0, none⟩) ((tabL k (fun s => (mvN b s (onesN (s &&& t) % 2) : Int))).length + 1) cap)) := ((hB.alloc hsz _).drew.grown hgrow (by simp; omega) (fun j e => Nat.le_of_succ_le (World.ownsRow.lt HBUF.out j e).1)).setCell (by simp; omega) _
        have HW := Lib.hid hW
        clear hW
        have HGC := Lib.hid hgc
        clear hown3 hgrow hat hgc hn0 ht hI hnc
        go_wp2
        go_roundw
        case rel => exact ⟨k + 1, _, by omega, by go_num, HI.out, HW.out, HA.out, HA0.out, by intro g e; simp [Value.ownBlock] at e; subst e; exact HGC.out⟩
        case measure => simp [intOf]; omega
    · obtain rfl : k = n := by omega
      have HBF := Lib.hid HBUF.out
      obtain ⟨hc2, hc3, hf2, hf3⟩ := HP3.out
      have q0 := HP3.out.set0 (.int .i64 (b : Int))
      have q1 := q0.set1 (.slice av k cv)
      have Q0 := Lib.hid q0.1
      have Q1 := Lib.hid q1.2.1
      have HG := Lib.hid HBUF.out.block_ge
      clear q0 q1
      go_wp2_with fail
      refine (ST.out _).mono ?_; rintro e w' ⟨rfl, rfl⟩
      go_wp2
      refine bodyPost_ret (v := .agg #[.int .i64 (b : Int), .slice av k cv]) (by simp [results, Try.results55, go_sem, Q0.out, Q1.out]) rfl ⟨_, rfl, ?_, (hB.setCell (Nat.le_refl _) _).setCell (Nat.le_refl _) _⟩
      exact ((HBF.out.weak (by omega)).setBelow HG.out (by omega) _ _).setBelow HG.out (by omega) _ _

theorem movedStep (b s i : Nat) (w : World) (hb1 : 1 ≤ b) (hb2 : b ≤ 8) (hs : s < 2 ^ b) (hi : i < 2) :
    Calls Try.prog 61 #[.int .i64 (b : Int), .int .i64 (s : Int), .int .i64 (i : Int)] w fun e w' => e = .returned (.int .i64 (mvN b s i : Int)) ∧ w = w' := by
  have hsb := st_bd (b : Int) (by omega) (by omega)
  have hst : st (b : Int) = ((2 ^ b : Nat) : Int) := rfl
  rw [hst] at hsb
  have hkw : IntKind.i64.wrap ((s : Int) * 2) = ((s * 2 : Nat) : Int) := by
    rw [show (s : Int) * 2 = ((s * 2 : Nat) : Int) from by simp]; exact wrap_i64_nat _ (by omega)
  have hko : bits .or .i64 ((s * 2 : Nat) : Int) (i : Int) = ((s * 2 ||| i : Nat) : Int) := or_i64 _ _ (by omega) (by omega)
  have hor : s * 2 ||| i < 2 ^ 10 := Nat.or_lt_two_pow (by omega) (by omega)
  have hmd : ((s * 2 ||| i : Nat) : Int) % ((2 ^ b : Nat) : Int) = ((mvN b s i : Nat) : Int) := by unfold mvN; simp
  have st2 : ∀ w, Calls Try.prog 86 #[.int .i64 (b : Int)] w fun e w' => e = .returned (.int .i64 ((2 ^ b : Nat) : Int)) ∧ w = w' := fun w =>
    (states_any (b : Int) w (by omega) (by omega)).mono fun e w' h => by rw [hst] at h; exact h
  obtain ⟨n, hn⟩ : ∃ n, 2 ^ b = n := ⟨_, rfl⟩
  rw [hn] at st2 hmd hsb
  have ST := Lib.hid st2
  have hne : ((n : Int) == 0) = false := by simp; omega
  have hnp : (0 : Int) < (n : Int) := by omega
  obtain ⟨z, hz⟩ : ∃ z, mvN b s i = z := ⟨_, rfl⟩
  obtain ⟨q, hq⟩ : ∃ q, s * 2 ||| i = q := ⟨_, rfl⟩
  have HS2 : s * 2 < 9223372036854775808 := by omega
  obtain ⟨k2, hk2⟩ : ∃ k2, s * 2 = k2 := ⟨_, rfl⟩
  rw [hz, hq] at hmd
  rw [hq] at hko
  rw [hk2] at hko hkw HS2
  rw [hz]
  clear st2 hst hn hq hz hk2 hor
  go_enter Try.func61, Try.ntmps61
  go_wp2_with fail
  refine (ST.out _).mono ?_; rintro e w' ⟨rfl, rfl⟩
  go_wp2
  go_ret
  exact ⟨ret_int hmd, rfl⟩

theorem tapStep (g b s t : Nat) (w : World) (hc : w.cell? ⟨g, 0, none⟩ = some (.int .i64 (t : Int))) (ht : t < 256) (hb1 : 1 ≤ b) (hb2 : b ≤ 8) (hs : s < 2 ^ b) (hs2 : s < 256) :
    Calls Try.prog 60 #[.int .i64 (b : Int), .int .i64 (s : Int), .pointer (some ⟨g, 0, none⟩)] w fun e w' => e = .returned (.int .i64 (mvN b s (onesN (s &&& t) % 2) : Int)) ∧ w = w' := by
  have hka2 : bits .and .i64 (s : Int) (t : Int) = ((s &&& t : Nat) : Int) := and_i64 _ _ (by omega) (by omega)
  have hkl : s &&& t ≤ s := Nat.and_le_left
  have hrm : ((onesN (s &&& t) : Nat) : Int) % 2 = ((onesN (s &&& t) % 2 : Nat) : Int) := by omega
  have hM := movedStep b s (onesN (s &&& t) % 2)
  have hon := onesOf_nat (s &&& t)
  obtain ⟨r, hr⟩ : ∃ r, onesN (s &&& t) = r := ⟨_, rfl⟩
  rw [hr] at hrm hM hon ⊢
  obtain ⟨y, hy⟩ : ∃ y, s &&& t = y := ⟨_, rfl⟩
  rw [hy] at hka2 hkl hon
  obtain ⟨i, hi2⟩ : ∃ i, r % 2 = i := ⟨_, rfl⟩
  rw [hi2] at hrm hM ⊢
  have hil : i < 2 := by omega
  have HM := Lib.hid hM
  have HON := Lib.hid hon
  clear hM hon hr hy hi2
  go_enter Try.func60, Try.ntmps60
  go_wp2_with fail
  refine (HON.out _ (by omega)).mono ?_; rintro e w' ⟨rfl, rfl⟩
  go_wp2_with fail
  refine (HM.out _ hb1 hb2 hs hil).mono ?_; rintro e w' ⟨rfl, rfl⟩
  go_wp2
  go_ret
  exact ⟨rfl, rfl⟩

set_option maxHeartbeats 2000000 in
set_option maxRecDepth 100000 in
theorem counterOfTap (g b t : Nat) (w : World) (hb1 : 1 ≤ b) (hb2 : b ≤ 8) (ht : t < 256) (hc : w.cell? ⟨g, 0, none⟩ = some (.int .i64 (t : Int))) (hg : g < w.heap.size) :
    Calls Try.prog 53 #[.int .i64 (b : Int), .func (.func 60) #[] #[.pointer (some ⟨g, 0, none⟩)]] w fun e w' => ∃ v, e = .returned (.tuple #[.agg #[.int .i64 (b : Int), v], .bool true]) ∧ Ints w' w.heap.size v (tabL (2 ^ b) (fun s => (mvN b s (onesN ( s &&& t) % 2) : Int))) ∧ Below w.heap.size w w' := by
  obtain ⟨i0, hi, hz0, hz1, hz2⟩ := info_parts info_i64
  have hst : st (b : Int) = ((2 ^ b : Nat) : Int) := rfl
  have hsb := st_bd (b : Int) (by omega) (by omega)
  obtain ⟨n, hn⟩ : ∃ n, 2 ^ b = n := ⟨_, rfl⟩
  rw [hst, hn] at hsb
  rw [hn] at hst ⊢
  have hn256 : n ≤ 256 := by omega
  have HN := Lib.hid hn
  have st2 : ∀ w, Calls Try.prog 86 #[.int .i64 (b : Int)] w fun e w' => e = .returned (.int .i64 (n : Int)) ∧ w = w' := fun w =>
    (states_any (b : Int) w (by omega) (by omega)).mono fun e w' h => by rw [hst] at h; exact h
  have ST := Lib.hid st2
  clear st2 hst hn
  go_enter Try.func53, Try.ntmps53
  go_wp2_with fail
  refine (isValid_t _ _ (by omega) (by omega)).mono ?_; rintro e w' ⟨rfl, rfl⟩
  go_wp2_with fail
  refine (ST.out _).mono ?_; rintro e w' ⟨rfl, rfl⟩
  go_wp2_with (at_make; refine wpList_make_full _ rfl _ _ 22 rfl w.heap.size 2 i0 (.int .i64 0) 1 Try.underlying22 hi hz0 hz1 .i64 .i64 (n : Int) (n : Int) n rfl rfl rfl rfl (by rw [hz2]; omega) (by unfold maxLen; omega) (by simp) ?_; intro w1 hown1 hgrow1)
  have hb1w : Below w.heap.size w w1 := ((Below.refl _ _).alloc (Nat.le_refl _) _).grown hgrow1 (by simp) (fun k e => by cases e)
  have hi1 : Ints w1 w.heap.size (.slice (some ⟨w.heap.size + 1, 0, none⟩) n n) (List.replicate n 0) := by
    unfold Ints
    rw [← zeros_list, List.length_replicate]
    have h : w1.ownsRow w.heap.size 2 1 (.slice (some ⟨w.heap.size + 1, 0, none⟩) n n) n (madeCells (Value.int IntKind.i64 0).cells n).toList := by simpa using hown1
    exact h
  have hs1 : w.heap.size + 1 < w1.heap.size := by
    obtain ⟨a, c, he, _, hk⟩ := hi1.form
    obtain ⟨g', hg', _, hlt, _⟩ := hk 0 (by rw [List.length_replicate]; omega)
    simp only [Value.slice.injEq] at he
    rw [hg'] at he
    have := he.1
    simp at this
    omega
  have hp1 : At2 w1 w.heap.size (.int .i64 0) (.slice none 0 0) := (At2.new w _ _ _).grown hgrow1 (by simp)
  have HP1 := Lib.hid hp1
  have hg1 : w1.cell? ⟨g, 0, none⟩ = some (.int .i64 (t : Int)) := by rw [hb1w.cell (p := ⟨g, 0, none⟩) hg]; exact hc
  have HG1 := Lib.hid hg1
  have HI1 := Lib.hid hi1
  have HB1 := Lib.hid hb1w
  clear hi1 hb1w hown1 hgrow1 hp1 hg1 hc
  refine (ST.out _).mono ?_; rintro e w' ⟨rfl, rfl⟩
  go_wp2
  go_loopw [8, 21] (fun _ i wr => ∃ k : Nat, k ≤ n ∧ i = .int .i64 (k : Int) ∧ Ints wr w.heap.size (.slice (some ⟨w.heap.size + 1, 0, none⟩) n n) (tabL n (fun s => if decide (s < k) then (mvN b s (onesN ( s &&& t) % 2) : Int) else 0)) ∧ Below w.heap.size w wr ∧ wr.heap.size = w1.heap.size + 1 ∧ At2 wr w1.heap.size (.int .i64 (b : Int)) (.slice (some ⟨w.heap.size + 1, 0, none⟩) n n) ∧ At2 wr w.heap.size (.int .i64 0) (.slice none 0 0)) (fun _ i _ => n - (intOf i).toNat)
  case atStart => exact ⟨0, Nat.zero_le _, rfl, by simpa [tabL_zero] using HI1.out.keep ((Below.refl w1.heap.size _).alloc (Nat.le_refl _) _) (Nat.le_refl _), HB1.out.alloc (by omega) _, by simp, At2.new _ _ _ _, HP1.out.alloc _⟩
  case round =>
    obtain ⟨k, hk, rfl, hbuf, hB, hsz, hp2, hp3⟩ := hrel
    have HP2 := Lib.hid hp2
    have HP3 := Lib.hid hp3
    obtain ⟨hc0, hc1, _, _⟩ := hp2
    clear hp3
    by_cases hlt : k < n
    · obtain ⟨a', cap', hv, _, kk⟩ := hbuf.form
      simp only [Value.slice.injEq] at hv
      obtain ⟨g', hg', _, hgs, hcell, hfr⟩ := kk k (by rw [tabL_len]; exact hlt)
      obtain ⟨rfl, -, rfl⟩ := hv
      simp only [Option.some.injEq, Addr.mk.injEq, and_true] at hg'
      subst hg'
      obtain ⟨xx, hcx⟩ : ∃ xx, wr.cell? ⟨w.heap.size + 1, k, none⟩ = some xx := ⟨_, hcell⟩
      have hcg : wr.cell? ⟨g, 0, none⟩ = some (.int .i64 (t : Int)) := by rw [hB.cell (p := ⟨g, 0, none⟩) hg, ← HB1.out.cell (p := ⟨g, 0, none⟩) hg]; exact HG1.out
      have hput := hbuf.put k ((mvN b k (onesN ( k &&& t) % 2) : Int))
      rw [tabL_upto n (fun s => (mvN b s (onesN ( s &&& t) % 2) : Int)) k] at hput
      have HI := Lib.hid hput
      have HSZ := Lib.hid hsz
      clear hbuf kk hcell hsz hput
      go_wp2
      go_region_with ((go_at_call 60; refine (tapStep g b k t _ (by assumption) ht hb1 hb2 (by rw [HN.out]; exact hlt) (by omega)).mono ?_; rintro e w' ⟨rfl, rfl⟩))
      all_goals
        go_wp2
        go_roundw
        case rel => exact ⟨k + 1, by omega, by go_num, by first | exact HI.out | exact HI.out.keep ((Below.refl _ _).drew) (Nat.le_refl _), by first | exact (hB.setCell (by simp) _) | exact (hB.setCell (by simp) _).drew | exact (hB.drew.setCell (by simp) _), by simp; exact HSZ.out, by first | exact HP2.out.set_ne (by omega) _ _ | exact (HP2.out.set_ne (by omega) _ _).drew | exact HP2.out.drew.set_ne (by omega) _ _, by first | exact HP3.out.set_ne (by omega) _ _ | exact (HP3.out.set_ne (by omega) _ _).drew | exact HP3.out.drew.set_ne (by omega) _ _⟩
        case measure => simp [intOf]; omega
    · rw [tabL_whole n (fun s => (mvN b s (onesN ( s &&& t) % 2) : Int)) k (by omega)] at hbuf
      have HI := Lib.hid hbuf
      clear hbuf hsz
      obtain ⟨hc2, hc3, hf2, hf3⟩ := HP3.out
      have q0 := HP3.out.set0 (.int .i64 (b : Int))
      have q1 := q0.set1 (.slice (some ⟨w.heap.size + 1, 0, none⟩) n n)
      have Q0 := Lib.hid q0.1
      have Q1 := Lib.hid q1.2.1
      clear q0 q1
      go_wp2
      refine bodyPost_ret (v := .tuple #[.agg #[.int .i64 (b : Int), .slice (some ⟨w.heap.size + 1, 0, none⟩) n n], .bool true]) (by simp [results, Try.results53, go_sem, Q0.out, Q1.out]) rfl ⟨_, rfl, ?_, (hB.setCell (Nat.le_refl _) _).setCell (Nat.le_refl _) _⟩
      exact (HI.out.setNe (by omega) _ _).setNe (by omega) _ _

theorem counterOf_f (b : Int) (fv : Value) (w : World) (h : b < 1 ∨ 8 < b) :
    Calls Try.prog 53 #[.int .i64 b, fv] w fun e w' => e = .returned (.tuple #[.agg #[.int .i64 0, .slice none 0 0], .bool false]) ∧ Below w.heap.size w w' := by
  go_enter Try.func53, Try.ntmps53
  go_wp2_with fail
  refine (isValid_f _ _ h).mono ?_; rintro e w' ⟨rfl, rfl⟩
  go_wp2
  refine bodyPost_ret (v := .tuple #[.agg #[.int .i64 0, .slice none 0 0], .bool false]) (by simp [results, Try.results53, go_sem]) rfl ⟨rfl, ?_⟩
  first | exact ((Below.refl _ _).alloc (Nat.le_refl _) _) | exact (((Below.refl _ _).alloc (Nat.le_refl _) _).setCell (Nat.le_refl _) _).setCell (Nat.le_refl _) _

set_option maxRecDepth 100000 in
theorem implTap_t (b t : Nat) (w : World) (h : StateOk (b : Int) (t : Int)) (h0 : t ≠ 0) :
    Calls Try.prog 25 #[.int .i64 (b : Int), .int .i64 (t : Int)] w fun e w' => ∃ v, e = .returned (.tuple #[.agg #[.int .i64 (b : Int), v], .bool true]) ∧ Ints w' w.heap.size v (tabL (2 ^ b) (fun s => (mvN b s (onesN (s &&& t) % 2) : Int))) ∧ Below w.heap.size w w' := by
  have hb1 : 1 ≤ b := by have := h.1; omega
  have hb2 : b ≤ 8 := by have := h.2.1; omega
  have hsb := st_bd (b : Int) h.1 h.2.1
  have ht : t < 256 := by have := h.2.2.2; omega
  have hz : ((t : Int) == 0) = false := by simp; omega
  have HOK := Lib.hid h
  clear h hsb
  have hmf : ∀ (fn : Fn) (first cap : Array Value) (w : World), (Instr.makeFunc fn first cap).run Try.prog w = .ok (.func fn first cap) w := fun _ _ _ _ => rfl
  go_enter Try.func25, Try.ntmps25
  go_wp2_with fail
  refine (has_t _ _ _ HOK.out).mono ?_; rintro e w' ⟨rfl, rfl⟩
  go_wp2_with fail
  refine (counterOfTap w.heap.size b t _ hb1 hb2 ht (by simp) (by simp; omega)).mono ?_
  rintro e w1 ⟨v, rfl, hi, hb⟩
  obtain ⟨av, cv, rfl, -, -⟩ := hi.form
  rw [tabL_len] at hi ⊢
  have hp := At2.new (w.alloc (.cells #[.int .i64 (t : Int)] 2)) (.int .i64 0) (.slice none 0 0) 24
  have hp1 := hp.below hb (by simp)
  simp only [World.size_alloc] at hp1
  have HI := Lib.hid hi
  have HB := Lib.hid hb
  have q0 := hp1.set0 (.int .i64 (b : Int))
  have q1 := q0.set1 (.slice av (2 ^ b) cv)
  have Q0 := Lib.hid q0.1
  have Q1 := Lib.hid q1.2.1
  obtain ⟨hc2, hc3, hf2, hf3⟩ := hp1
  have hav := hi.block_ge
  have HAV := Lib.hid hav
  clear hp q0 q1 hi hb hav
  go_wp2
  refine bodyPost_ret (v := .tuple #[.agg #[.int .i64 (b : Int), .slice av (2 ^ b) cv], .bool true]) (by simp [results, Try.results25, go_sem, Q0.out, Q1.out]) rfl ⟨_, rfl, ?_, ?_⟩
  · exact ((HI.out.weak (by simp; omega)).setBelow HAV.out (by simp) _ _).setBelow HAV.out (by simp) _ _
  · exact (((((Below.refl _ _).alloc (Nat.le_refl _) _).alloc (by simp) _).trans (HB.out.mono (by simp; omega))).setCell (by simp) _).setCell (by simp) _
theorem implTap_f (b t : Int) (w : World) (h : ¬ (StateOk b t ∧ t ≠ 0)) :
    Calls Try.prog 25 #[.int .i64 b, .int .i64 t] w fun e w' => ∃ v, e = .returned (.tuple #[.agg #[.int .i64 0, v], .bool false]) ∧ Ints w' w.heap.size v [] ∧ Below w.heap.size w w' := by
  by_cases h0 : t = 0
  · subst h0
    clear h
    go_enter Try.func25, Try.ntmps25
    go_wp2
    refine bodyPost_ret (v := .tuple #[.agg #[.int .i64 0, .slice none 0 0], .bool false]) (by simp [results, Try.results25, go_sem]) rfl ⟨_, rfl, Ints.nil _ _, ?_⟩
    first | exact (((Below.refl _ _).alloc (Nat.le_refl _) _).alloc (by simp) _) | exact ((((Below.refl _ _).alloc (Nat.le_refl _) _).alloc (by simp) _).setCell (by simp) _).setCell (by simp) _
  · have hz : (t == 0) = false := by simp [h0]
    have HH := Lib.hid (fun hs => h ⟨hs, h0⟩ : ¬ StateOk b t)
    clear h h0
    go_enter Try.func25, Try.ntmps25
    go_wp2_with fail
    refine (has_f _ _ _ HH.out).mono ?_; rintro e w' ⟨rfl, rfl⟩
    go_wp2
    refine bodyPost_ret (v := .tuple #[.agg #[.int .i64 0, .slice none 0 0], .bool false]) (by simp [results, Try.results25, go_sem]) rfl ⟨_, rfl, Ints.nil _ _, ?_⟩
    first | exact (((Below.refl _ _).alloc (Nat.le_refl _) _).alloc (by simp) _) | exact ((((Below.refl _ _).alloc (Nat.le_refl _) _).alloc (by simp) _).setCell (by simp) _).setCell (by simp) _

set_option maxRecDepth 100000 in
theorem specTap_t (b t : Nat) (w : World) (h : StateOk (b : Int) (t : Int)) (h0 : t ≠ 0) :
    Calls Try.prog 24 #[.int .i64 (b : Int), .int .i64 (t : Int)] w fun e w' => ∃ v, e = .returned (.tuple #[.agg #[.int .i64 (b : Int), v], .bool true]) ∧ Ints w' w.heap.size v (tabL (2 ^ b) (fun s => (mvN b s (onesN (s &&& t) % 2) : Int))) ∧ Below w.heap.size w w' := by
  have hb1 : 1 ≤ b := by have := h.1; omega
  have hb2 : b ≤ 8 := by have := h.2.1; omega
  have hsb := st_bd (b : Int) h.1 h.2.1
  have ht : t < 256 := by have := h.2.2.2; omega
  have hz : ((t : Int) == 0) = false := by simp; omega
  have HOK := Lib.hid h
  clear h hsb
  go_enter Try.func24, Try.ntmps24
  go_wp2_with fail
  refine (l02State_t _ _ _ HOK.out).mono ?_; rintro e w' ⟨rfl, rfl⟩
  go_wp2_with fail
  refine (shiftTap b t _ hb1 hb2 ht).mono ?_
  rintro e w1 ⟨v, rfl, hi, hb⟩
  obtain ⟨av, cv, rfl, -, -⟩ := hi.form
  rw [tabL_len] at hi ⊢
  have hp1 := (At2.new w (.int .i64 0) (.slice none 0 0) 24).below hb (by simp)
  have HI := Lib.hid hi
  have HB := Lib.hid hb
  have q0 := hp1.set0 (.int .i64 (b : Int))
  have q1 := q0.set1 (.slice av (2 ^ b) cv)
  have Q0 := Lib.hid q0.1
  have Q1 := Lib.hid q1.2.1
  obtain ⟨hc2, hc3, hf2, hf3⟩ := hp1
  have hav := hi.block_ge
  have HAV := Lib.hid hav
  clear q0 q1 hi hb hav
  go_wp2
  refine bodyPost_ret (v := .tuple #[.agg #[.int .i64 (b : Int), .slice av (2 ^ b) cv], .bool true]) (by simp [results, Try.results24, go_sem, Q0.out, Q1.out]) rfl ⟨_, rfl, ?_, ?_⟩
  · exact ((HI.out.weak (by simp)).setBelow HAV.out (by simp) _ _).setBelow HAV.out (by simp) _ _
  · exact ((((Below.refl _ _).alloc (Nat.le_refl _) _).trans (HB.out.mono (by simp))).setCell (Nat.le_refl _) _).setCell (Nat.le_refl _) _
theorem specTap_f (b t : Int) (w : World) (h : ¬ (StateOk b t ∧ t ≠ 0)) :
    Calls Try.prog 24 #[.int .i64 b, .int .i64 t] w fun e w' => ∃ v, e = .returned (.tuple #[.agg #[.int .i64 0, v], .bool false]) ∧ Ints w' w.heap.size v [] ∧ Below w.heap.size w w' := by
  by_cases hs : StateOk b t
  · obtain rfl : t = 0 := Decidable.byContradiction fun e => h ⟨hs, e⟩
    have HS := Lib.hid hs
    clear h hs
    go_enter Try.func24, Try.ntmps24
    go_wp2_with fail
    refine (l02State_t _ _ _ HS.out).mono ?_; rintro e w' ⟨rfl, rfl⟩
    go_wp2
    refine bodyPost_ret (v := .tuple #[.agg #[.int .i64 0, .slice none 0 0], .bool false]) (by simp [results, Try.results24, go_sem]) rfl ⟨_, rfl, Ints.nil _ _, ?_⟩
    first | exact ((Below.refl _ _).alloc (Nat.le_refl _) _) | exact (((Below.refl _ _).alloc (Nat.le_refl _) _).setCell (Nat.le_refl _) _).setCell (Nat.le_refl _) _
  · have HS := Lib.hid hs
    clear h hs
    go_enter Try.func24, Try.ntmps24
    go_wp2_with fail
    refine (l02State_f _ _ _ HS.out).mono ?_; rintro e w' ⟨rfl, rfl⟩
    go_wp2
    refine bodyPost_ret (v := .tuple #[.agg #[.int .i64 0, .slice none 0 0], .bool false]) (by simp [results, Try.results24, go_sem]) rfl ⟨_, rfl, Ints.nil _ _, ?_⟩
    first | exact ((Below.refl _ _).alloc (Nat.le_refl _) _) | exact (((Below.refl _ _).alloc (Nat.le_refl _) _).setCell (Nat.le_refl _) _).setCell (Nat.le_refl _) _
end Go.Proofs.Ytljbblfdaphjpab
