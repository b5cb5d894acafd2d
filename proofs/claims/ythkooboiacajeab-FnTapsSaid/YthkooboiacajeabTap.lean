/- The counter that shifts in a parity, on both sides. -/
import Derived.Test.YthkooboiacajeabState
import Derived.Test.YthkooboiacajeabInts
import Derived.Test.YthkooboiacajeabTab
import Derived.Test.YthkooboiacajeabPair
import Derived.Test.YthkooboiacajeabCtrLaw
import Derived.Test.YthkooboiacajeabBits
import Derived.Test.YthkooboiacajeabRipple
import Derived.Test.YthkooboiacajeabOnes
import Derived.Deep.RegionLaw
import Derived.OwnWalk
import Derived.Deep.RegionHeld3
import Derived.Deep.RegionWith
import Derived.StillTailTactics
namespace Go.Proofs.Ythkooboiacajeab
open Go.RowKit

theorem movedStep (b s i : Nat) (w : World) (hb1 : 1 ≤ b) (hb2 : b ≤ 8) (hs : s < 2 ^ b) (hi : i < 2) :
    Calls Try.prog 18 #[.int .i64 (b : Int), .int .i64 (s : Int), .int .i64 (i : Int)] w fun e w' => e = .returned (.int .i64 (mvN b s i : Int)) ∧ w = w' := by
  have hsb := st_bd (b : Int) (by omega) (by omega)
  have hst : st (b : Int) = ((2 ^ b : Nat) : Int) := rfl
  rw [hst] at hsb
  have hkw : IntKind.i64.wrap ((s : Int) * 2) = ((s * 2 : Nat) : Int) := by
    rw [show (s : Int) * 2 = ((s * 2 : Nat) : Int) from by simp]; exact wrap_i64_nat _ (by omega)
  have hko : bits .or .i64 ((s * 2 : Nat) : Int) (i : Int) = ((s * 2 ||| i : Nat) : Int) := or_i64 _ _ (by omega) (by omega)
  have hor : s * 2 ||| i < 2 ^ 10 := Nat.or_lt_two_pow (by omega) (by omega)
  have hmd : ((s * 2 ||| i : Nat) : Int) % ((2 ^ b : Nat) : Int) = ((mvN b s i : Nat) : Int) := by unfold mvN; simp
  have st2 : ∀ w, Calls Try.prog 14 #[.int .i64 (b : Int)] w fun e w' => e = .returned (.int .i64 ((2 ^ b : Nat) : Int)) ∧ w = w' := fun w =>
    (states_any (b : Int) w (by omega) (by omega)).mono fun e w' h => by rw [hst] at h; exact h
  obtain ⟨n, hn⟩ : ∃ n, 2 ^ b = n := ⟨_, rfl⟩
  rw [hn] at st2 hmd hsb
  have ST := Lib.hid st2
  have hne : ((n : Int) == 0) = false := by simp; omega
  have hnp : (0 : Int) < (n : Int) := by omega
  obtain ⟨z, hz⟩ : ∃ z, mvN b s i = z := ⟨_, rfl⟩
  obtain ⟨q, hq⟩ : ∃ q, s * 2 ||| i = q := ⟨_, rfl⟩
  have HS2 : s * 2 < 9223372036854775808 := by omega
  obtain ⟨k2, hk2⟩ : ∃ k2, s * 2 = k2 := ⟨_, rfl⟩
  rw [hz, hq] at hmd
  rw [hq] at hko
  rw [hk2] at hko hkw HS2
  rw [hz]
  clear st2 hst hn hq hz hk2 hor
  go_enter Try.func18, Try.ntmps18
  go_wp2_with fail
  refine (ST.out _).mono ?_; rintro e w' ⟨rfl, rfl⟩
  go_wp2
  go_ret
  exact ⟨ret_int hmd, rfl⟩

theorem tapStep (g b s t : Nat) (w : World) (hc : w.cell? ⟨g, 0, none⟩ = some (.int .i64 (t : Int))) (ht : t < 256) (hb1 : 1 ≤ b) (hb2 : b ≤ 8) (hs : s < 2 ^ b) (hs2 : s < 256) :
    Calls Try.prog 17 #[.int .i64 (b : Int), .int .i64 (s : Int), .pointer (some ⟨g, 0, none⟩)] w fun e w' => e = .returned (.int .i64 (mvN b s (onesN (s &&& t) % 2) : Int)) ∧ w = w' := by
  have hka2 : bits .and .i64 (s : Int) (t : Int) = ((s &&& t : Nat) : Int) := and_i64 _ _ (by omega) (by omega)
  have hkl : s &&& t ≤ s := Nat.and_le_left
  have hrm : ((onesN (s &&& t) : Nat) : Int) % 2 = ((onesN (s &&& t) % 2 : Nat) : Int) := by omega
  have hM := movedStep b s (onesN (s &&& t) % 2)
  have hon := onesOf_nat (s &&& t)
  obtain ⟨r, hr⟩ : ∃ r, onesN (s &&& t) = r := ⟨_, rfl⟩
  rw [hr] at hrm hM hon ⊢
  obtain ⟨y, hy⟩ : ∃ y, s &&& t = y := ⟨_, rfl⟩
  rw [hy] at hka2 hkl hon
  obtain ⟨i, hi2⟩ : ∃ i, r % 2 = i := ⟨_, rfl⟩
  rw [hi2] at hrm hM ⊢
  have hil : i < 2 := by omega
  have HM := Lib.hid hM
  have HON := Lib.hid hon
  clear hM hon hr hy hi2
  go_enter Try.func17, Try.ntmps17
  go_wp2_with fail
  refine (HON.out _ (by omega)).mono ?_; rintro e w' ⟨rfl, rfl⟩
  go_wp2_with fail
  refine (HM.out _ hb1 hb2 hs hil).mono ?_; rintro e w' ⟨rfl, rfl⟩
  go_wp2
  go_ret
  exact ⟨rfl, rfl⟩

set_option maxHeartbeats 2000000 in
set_option maxRecDepth 100000 in
theorem counterOfTap (g b t : Nat) (w : World) (hb1 : 1 ≤ b) (hb2 : b ≤ 8) (ht : t < 256) (hc : w.cell? ⟨g, 0, none⟩ = some (.int .i64 (t : Int))) (hg : g < w.heap.size) :
    Calls Try.prog 16 #[.int .i64 (b : Int), .func (.func 17) #[] #[.pointer (some ⟨g, 0, none⟩)]] w fun e w' => ∃ v, e = .returned (.tuple #[.agg #[.int .i64 (b : Int), v], .bool true]) ∧ Ints w' w.heap.size v (tabL (2 ^ b) (fun s => (mvN b s (onesN ( s &&& t) % 2) : Int))) ∧ Below w.heap.size w w' := by
  obtain ⟨i0, hi, hz0, hz1, hz2⟩ := info_parts info_i64
  have hst : st (b : Int) = ((2 ^ b : Nat) : Int) := rfl
  have hsb := st_bd (b : Int) (by omega) (by omega)
  obtain ⟨n, hn⟩ : ∃ n, 2 ^ b = n := ⟨_, rfl⟩
  rw [hst, hn] at hsb
  rw [hn] at hst ⊢
  have hn256 : n ≤ 256 := by omega
  have HN := Lib.hid hn
  have st2 : ∀ w, Calls Try.prog 14 #[.int .i64 (b : Int)] w fun e w' => e = .returned (.int .i64 (n : Int)) ∧ w = w' := fun w =>
    (states_any (b : Int) w (by omega) (by omega)).mono fun e w' h => by rw [hst] at h; exact h
  have ST := Lib.hid st2
  clear st2 hst hn
  go_enter Try.func16, Try.ntmps16
  go_wp2_with fail
  refine (isValid_t _ _ (by omega) (by omega)).mono ?_; rintro e w' ⟨rfl, rfl⟩
  go_wp2_with fail
  refine (ST.out _).mono ?_; rintro e w' ⟨rfl, rfl⟩
  go_wp2_with (at_make; refine wpList_make_full _ rfl _ _ 26 rfl w.heap.size 2 i0 (.int .i64 0) 1 Try.underlying26 hi hz0 hz1 .i64 .i64 (n : Int) (n : Int) n rfl rfl rfl rfl (by rw [hz2]; omega) (by unfold maxLen; omega) (by simp) ?_; intro w1 hown1 hgrow1)
  have hb1w : Below w.heap.size w w1 := ((Below.refl _ _).alloc (Nat.le_refl _) _).grown hgrow1 (by simp) (fun k e => by cases e)
  have hi1 : Ints w1 w.heap.size (.slice (some ⟨w.heap.size + 1, 0, none⟩) n n) (List.replicate n 0) := by
    unfold Ints
    rw [← zeros_list, List.length_replicate]
    have h : w1.ownsRow w.heap.size 2 1 (.slice (some ⟨w.heap.size + 1, 0, none⟩) n n) n (madeCells (Value.int IntKind.i64 0).cells n).toList := by simpa using hown1
    exact h
  have hs1 : w.heap.size + 1 < w1.heap.size := by
    obtain ⟨a, c, he, _, hk⟩ := hi1.form
    obtain ⟨g', hg', _, hlt, _⟩ := hk 0 (by rw [List.length_replicate]; omega)
    simp only [Value.slice.injEq] at he
    rw [hg'] at he
    have := he.1
    simp at this
    omega
  have hp1 : At2 w1 w.heap.size (.int .i64 0) (.slice none 0 0) := (At2.new w _ _ _).grown hgrow1 (by simp)
  have HP1 := Lib.hid hp1
  have hg1 : w1.cell? ⟨g, 0, none⟩ = some (.int .i64 (t : Int)) := by rw [hb1w.cell (p := ⟨g, 0, none⟩) hg]; exact hc
  have HG1 := Lib.hid hg1
  have HI1 := Lib.hid hi1
  have HB1 := Lib.hid hb1w
  clear hi1 hb1w hown1 hgrow1 hp1 hg1 hc
  refine (ST.out _).mono ?_; rintro e w' ⟨rfl, rfl⟩
  go_wp2
  go_loopw [8, 21] (fun _ i wr => ∃ k : Nat, k ≤ n ∧ i = .int .i64 (k : Int) ∧ Ints wr w.heap.size (.slice (some ⟨w.heap.size + 1, 0, none⟩) n n) (tabL n (fun s => if decide (s < k) then (mvN b s (onesN ( s &&& t) % 2) : Int) else 0)) ∧ Below w.heap.size w wr ∧ wr.heap.size = w1.heap.size + 1 ∧ At2 wr w1.heap.size (.int .i64 (b : Int)) (.slice (some ⟨w.heap.size + 1, 0, none⟩) n n) ∧ At2 wr w.heap.size (.int .i64 0) (.slice none 0 0)) (fun _ i _ => n - (intOf i).toNat)
  case atStart => exact ⟨0, Nat.zero_le _, rfl, by simpa [tabL_zero] using HI1.out.keep ((Below.refl w1.heap.size _).alloc (Nat.le_refl _) _) (Nat.le_refl _), HB1.out.alloc (by omega) _, by simp, At2.new _ _ _ _, HP1.out.alloc _⟩
  case round =>
    obtain ⟨k, hk, rfl, hbuf, hB, hsz, hp2, hp3⟩ := hrel
    have HP2 := Lib.hid hp2
    have HP3 := Lib.hid hp3
    obtain ⟨hc0, hc1, _, _⟩ := hp2
    clear hp3
    by_cases hlt : k < n
    · obtain ⟨a', cap', hv, _, kk⟩ := hbuf.form
      simp only [Value.slice.injEq] at hv
      obtain ⟨g', hg', _, hgs, hcell, hfr⟩ := kk k (by rw [tabL_len]; exact hlt)
      obtain ⟨rfl, -, rfl⟩ := hv
      simp only [Option.some.injEq, Addr.mk.injEq, and_true] at hg'
      subst hg'
      obtain ⟨xx, hcx⟩ : ∃ xx, wr.cell? ⟨w.heap.size + 1, k, none⟩ = some xx := ⟨_, hcell⟩
      have hcg : wr.cell? ⟨g, 0, none⟩ = some (.int .i64 (t : Int)) := by rw [hB.cell (p := ⟨g, 0, none⟩) hg, ← HB1.out.cell (p := ⟨g, 0, none⟩) hg]; exact HG1.out
      have hput := hbuf.put k ((mvN b k (onesN ( k &&& t) % 2) : Int))
      rw [tabL_upto n (fun s => (mvN b s (onesN ( s &&& t) % 2) : Int)) k] at hput
      have HI := Lib.hid hput
      have HSZ := Lib.hid hsz
      clear hbuf kk hcell hsz hput
      go_wp2
      go_region_with ((go_at_call 17; refine (tapStep g b k t _ (by assumption) ht hb1 hb2 (by rw [HN.out]; exact hlt) (by omega)).mono ?_; rintro e w' ⟨rfl, rfl⟩))
      all_goals
        go_wp2
        go_roundw
        case rel => exact ⟨k + 1, by omega, by go_num, by first | exact HI.out | exact HI.out.keep ((Below.refl _ _).drew) (Nat.le_refl _), by first | exact (hB.setCell (by simp) _) | exact (hB.setCell (by simp) _).drew | exact (hB.drew.setCell (by simp) _), by simp; exact HSZ.out, by first | exact HP2.out.set_ne (by omega) _ _ | exact (HP2.out.set_ne (by omega) _ _).drew | exact HP2.out.drew.set_ne (by omega) _ _, by first | exact HP3.out.set_ne (by omega) _ _ | exact (HP3.out.set_ne (by omega) _ _).drew | exact HP3.out.drew.set_ne (by omega) _ _⟩
        case measure => simp [intOf]; omega
    · rw [tabL_whole n (fun s => (mvN b s (onesN ( s &&& t) % 2) : Int)) k (by omega)] at hbuf
      have HI := Lib.hid hbuf
      clear hbuf hsz
      obtain ⟨hc2, hc3, hf2, hf3⟩ := HP3.out
      have q0 := HP3.out.set0 (.int .i64 (b : Int))
      have q1 := q0.set1 (.slice (some ⟨w.heap.size + 1, 0, none⟩) n n)
      have Q0 := Lib.hid q0.1
      have Q1 := Lib.hid q1.2.1
      clear q0 q1
      go_wp2
      refine bodyPost_ret (v := .tuple #[.agg #[.int .i64 (b : Int), .slice (some ⟨w.heap.size + 1, 0, none⟩) n n], .bool true]) (by simp [results, Try.results16, go_sem, Q0.out, Q1.out]) rfl ⟨_, rfl, ?_, (hB.setCell (Nat.le_refl _) _).setCell (Nat.le_refl _) _⟩
      exact (HI.out.setNe (by omega) _ _).setNe (by omega) _ _

theorem counterOf_f (b : Int) (fv : Value) (w : World) (h : b < 1 ∨ 8 < b) :
    Calls Try.prog 16 #[.int .i64 b, fv] w fun e w' => e = .returned (.tuple #[.agg #[.int .i64 0, .slice none 0 0], .bool false]) ∧ Below w.heap.size w w' := by
  go_enter Try.func16, Try.ntmps16
  go_wp2_with fail
  refine (isValid_f _ _ h).mono ?_; rintro e w' ⟨rfl, rfl⟩
  go_wp2
  refine bodyPost_ret (v := .tuple #[.agg #[.int .i64 0, .slice none 0 0], .bool false]) (by simp [results, Try.results16, go_sem]) rfl ⟨rfl, ?_⟩
  first | exact ((Below.refl _ _).alloc (Nat.le_refl _) _) | exact (((Below.refl _ _).alloc (Nat.le_refl _) _).setCell (Nat.le_refl _) _).setCell (Nat.le_refl _) _

set_option maxRecDepth 100000 in
theorem implTap_t (b t : Nat) (w : World) (h : StateOk (b : Int) (t : Int)) (h0 : t ≠ 0) :
    Calls Try.prog 10 #[.int .i64 (b : Int), .int .i64 (t : Int)] w fun e w' => ∃ v, e = .returned (.tuple #[.agg #[.int .i64 (b : Int), v], .bool true]) ∧ Ints w' w.heap.size v (tabL (2 ^ b) (fun s => (mvN b s (onesN (s &&& t) % 2) : Int))) ∧ Below w.heap.size w w' := by
  have hb1 : 1 ≤ b := by have := h.1; omega
  have hb2 : b ≤ 8 := by have := h.2.1; omega
  have hsb := st_bd (b : Int) h.1 h.2.1
  have ht : t < 256 := by have := h.2.2.2; omega
  have hz : ((t : Int) == 0) = false := by simp; omega
  have HOK := Lib.hid h
  clear h hsb
  have hmf : ∀ (fn : Fn) (first cap : Array Value) (w : World), (Instr.makeFunc fn first cap).run Try.prog w = .ok (.func fn first cap) w := fun _ _ _ _ => rfl
  go_enter Try.func10, Try.ntmps10
  go_wp2_with fail
  refine (has_t _ _ _ HOK.out).mono ?_; rintro e w' ⟨rfl, rfl⟩
  go_wp2_with fail
  refine (counterOfTap w.heap.size b t _ hb1 hb2 ht (by simp) (by simp; omega)).mono ?_
  rintro e w1 ⟨v, rfl, hi, hb⟩
  obtain ⟨av, cv, rfl, -, -⟩ := hi.form
  rw [tabL_len] at hi ⊢
  have hp := At2.new (w.alloc (.cells #[.int .i64 (t : Int)] 2)) (.int .i64 0) (.slice none 0 0) 31
  have hp1 := hp.below hb (by simp)
  simp only [World.size_alloc] at hp1
  have HI := Lib.hid hi
  have HB := Lib.hid hb
  have q0 := hp1.set0 (.int .i64 (b : Int))
  have q1 := q0.set1 (.slice av (2 ^ b) cv)
  have Q0 := Lib.hid q0.1
  have Q1 := Lib.hid q1.2.1
  obtain ⟨hc2, hc3, hf2, hf3⟩ := hp1
  have hav := hi.block_ge
  have HAV := Lib.hid hav
  clear hp q0 q1 hi hb hav
  go_wp2
  refine bodyPost_ret (v := .tuple #[.agg #[.int .i64 (b : Int), .slice av (2 ^ b) cv], .bool true]) (by simp [results, Try.results10, go_sem, Q0.out, Q1.out]) rfl ⟨_, rfl, ?_, ?_⟩
  · exact ((HI.out.weak (by simp; omega)).setBelow HAV.out (by simp) _ _).setBelow HAV.out (by simp) _ _
  · exact (((((Below.refl _ _).alloc (Nat.le_refl _) _).alloc (by simp) _).trans (HB.out.mono (by simp; omega))).setCell (by simp) _).setCell (by simp) _
theorem implTap_f (b t : Int) (w : World) (h : ¬ (StateOk b t ∧ t ≠ 0)) :
    Calls Try.prog 10 #[.int .i64 b, .int .i64 t] w fun e w' => ∃ v, e = .returned (.tuple #[.agg #[.int .i64 0, v], .bool false]) ∧ Ints w' w.heap.size v [] ∧ Below w.heap.size w w' := by
  by_cases h0 : t = 0
  · subst h0
    clear h
    go_enter Try.func10, Try.ntmps10
    go_wp2
    refine bodyPost_ret (v := .tuple #[.agg #[.int .i64 0, .slice none 0 0], .bool false]) (by simp [results, Try.results10, go_sem]) rfl ⟨_, rfl, Ints.nil _ _, ?_⟩
    first | exact (((Below.refl _ _).alloc (Nat.le_refl _) _).alloc (by simp) _) | exact ((((Below.refl _ _).alloc (Nat.le_refl _) _).alloc (by simp) _).setCell (by simp) _).setCell (by simp) _
  · have hz : (t == 0) = false := by simp [h0]
    have HH := Lib.hid (fun hs => h ⟨hs, h0⟩ : ¬ StateOk b t)
    clear h h0
    go_enter Try.func10, Try.ntmps10
    go_wp2_with fail
    refine (has_f _ _ _ HH.out).mono ?_; rintro e w' ⟨rfl, rfl⟩
    go_wp2
    refine bodyPost_ret (v := .tuple #[.agg #[.int .i64 0, .slice none 0 0], .bool false]) (by simp [results, Try.results10, go_sem]) rfl ⟨_, rfl, Ints.nil _ _, ?_⟩
    first | exact (((Below.refl _ _).alloc (Nat.le_refl _) _).alloc (by simp) _) | exact ((((Below.refl _ _).alloc (Nat.le_refl _) _).alloc (by simp) _).setCell (by simp) _).setCell (by simp) _

end Go.Proofs.Ythkooboiacajeab
