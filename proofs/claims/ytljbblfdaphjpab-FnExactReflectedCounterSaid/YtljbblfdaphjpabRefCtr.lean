/- The counter in reflected code, on both sides. -/
import Derived.Test.YtljbblfdaphjpabState
import Derived.Test.YtljbblfdaphjpabInts
import Derived.Test.YtljbblfdaphjpabTab
import Derived.Test.YtljbblfdaphjpabPair
import Derived.Test.YtljbblfdaphjpabCtrLaw
import Derived.Test.YtljbblfdaphjpabBits
import Derived.Test.YtljbblfdaphjpabRefl
import Derived.OwnWalk
import Derived.Deep.RegionHeld3
import Derived.Deep.RegionWith
import Derived.StillTailTactics
namespace Go.Proofs.Ytljbblfdaphjpab
open Go.RowKit

theorem refStep (b s : Nat) (w : World) (hb1 : 1 ≤ b) (hb2 : b ≤ 8) (hs : s < 2 ^ b) :
    Calls Try.prog 54 #[.int .i64 (b : Int), .int .i64 (s : Int)] w fun e w' => e = .returned (.int .i64 (nxRef b s : Int)) ∧ w = w' := by
  have hsb := st_bd (b : Int) (by omega) (by omega)
  have hst : st (b : Int) = ((2 ^ b : Nat) : Int) := rfl
  have hs256 : s < 256 := by rw [hst] at hsb; omega
  have hu := (ref_facts b s hb2 hs).2
  have hm : (unN s + 1) % 2 ^ b < 2 ^ b := Nat.mod_lt _ (by omega)
  have he : ((unN s : Int) + 1) % ((2 ^ b : Nat) : Int) = (((unN s + 1) % 2 ^ b : Nat) : Int) := by simp
  have hx : nxRef b s = codeN ((unN s + 1) % 2 ^ b) := rfl
  have HX := Lib.hid hx
  rw [hx]
  rw [hst] at hsb
  generalize (unN s + 1) % 2 ^ b = x at *
  have st2 : ∀ w, Calls Try.prog 86 #[.int .i64 (b : Int)] w fun e w' => e = .returned (.int .i64 ((2 ^ b : Nat) : Int)) ∧ w = w' := fun w =>
    (states_any (b : Int) w (by omega) (by omega)).mono fun e w' h => by rw [hst] at h; exact h
  obtain ⟨n, hn⟩ : ∃ n, 2 ^ b = n := ⟨_, rfl⟩
  rw [hn] at st2 he hm hu hsb
  have ST := Lib.hid st2
  have hne : ((n : Int) == 0) = false := by simp; omega
  have hnp : (0 : Int) < (n : Int) := by omega
  clear st2 hst hn hx
  go_enter Try.func54, Try.ntmps54
  go_wp2_with fail
  refine (fromReflected_nat s _ hs256).mono ?_; rintro e w' ⟨rfl, rfl⟩
  go_wp2_with fail
  refine (ST.out _).mono ?_; rintro e w' ⟨rfl, rfl⟩
  go_wp2_with fail
  refine (reflected_nat x _ (by omega)).mono ?_; rintro e w' ⟨rfl, rfl⟩
  go_wp2
  go_ret
  exact ⟨rfl, rfl⟩

set_option maxHeartbeats 2000000 in
set_option maxRecDepth 100000 in
theorem counterOfRef (b : Nat) (w : World) (hb1 : 1 ≤ b) (hb2 : b ≤ 8)  :
    Calls Try.prog 53 #[.int .i64 (b : Int), .func (.func 54) #[] #[]] w fun e w' => ∃ v, e = .returned (.tuple #[.agg #[.int .i64 (b : Int), v], .bool true]) ∧ Ints w' w.heap.size v (tabL (2 ^ b) (fun s => (nxRef b s  : Int))) ∧ Below w.heap.size w w' := by
  obtain ⟨i0, hi, hz0, hz1, hz2⟩ := info_parts info_i64
  have hst : st (b : Int) = ((2 ^ b : Nat) : Int) := rfl
  have hsb := st_bd (b : Int) (by omega) (by omega)
  obtain ⟨n, hn⟩ : ∃ n, 2 ^ b = n := ⟨_, rfl⟩
  rw [hst, hn] at hsb
  rw [hn] at hst ⊢
  have hn256 : n ≤ 256 := by omega
  have HN := Lib.hid hn
  have st2 : ∀ w, Calls Try.prog 86 #[.int .i64 (b : Int)] w fun e w' => e = .returned (.int .i64 (n : Int)) ∧ w = w' := fun w =>
    (states_any (b : Int) w (by omega) (by omega)).mono fun e w' h => by rw [hst] at h; exact h
  have ST := Lib.hid st2
  clear st2 hst hn
  go_enter Try.func53, Try.ntmps53
  go_wp2_with fail
  refine (isValid_t _ _ (by omega) (by omega)).mono ?_; rintro e w' ⟨rfl, rfl⟩
  go_wp2_with fail
  refine (ST.out _).mono ?_; rintro e w' ⟨rfl, rfl⟩
  go_wp2_with (at_make; refine wpList_make_full _ rfl _ _ 22 rfl w.heap.size 2 i0 (.int .i64 0) 1 Try.underlying22 hi hz0 hz1 .i64 .i64 (n : Int) (n : Int) n rfl rfl rfl rfl (by rw [hz2]; omega) (by unfold maxLen; omega) (by simp) ?_; intro w1 hown1 hgrow1)
  have hb1w : Below w.heap.size w w1 := ((Below.refl _ _).alloc (Nat.le_refl _) _).grown hgrow1 (by simp) (fun k e => by cases e)
  have hi1 : Ints w1 w.heap.size (.slice (some ⟨w.heap.size + 1, 0, none⟩) n n) (List.replicate n 0) := by
    unfold Ints
    rw [← zeros_list, List.length_replicate]
    have h : w1.ownsRow w.heap.size 2 1 (.slice (some ⟨w.heap.size + 1, 0, none⟩) n n) n (madeCells (Value.int IntKind.i64 0).cells n).toList := by simpa using hown1
    exact h
  have hs1 : w.heap.size + 1 < w1.heap.size := by
    obtain ⟨a, c, he, _, hk⟩ := hi1.form
    obtain ⟨g', hg', _, hlt, _⟩ := hk 0 (by rw [List.length_replicate]; omega)
    simp only [Value.slice.injEq] at he
    rw [hg'] at he
    have := he.1
    simp at this
    omega
  have hp1 : At2 w1 w.heap.size (.int .i64 0) (.slice none 0 0) := (At2.new w _ _ _).grown hgrow1 (by simp)
  have HP1 := Lib.hid hp1
  have HI1 := Lib.hid hi1
  have HB1 := Lib.hid hb1w
  clear hi1 hb1w hown1 hgrow1 hp1 
  refine (ST.out _).mono ?_; rintro e w' ⟨rfl, rfl⟩
  go_wp2
  go_loopw [8, 21] (fun _ i wr => ∃ k : Nat, k ≤ n ∧ i = .int .i64 (k : Int) ∧ Ints wr w.heap.size (.slice (some ⟨w.heap.size + 1, 0, none⟩) n n) (tabL n (fun s => if decide (s < k) then (nxRef b s  : Int) else 0)) ∧ Below w.heap.size w wr ∧ wr.heap.size = w1.heap.size + 1 ∧ At2 wr w1.heap.size (.int .i64 (b : Int)) (.slice (some ⟨w.heap.size + 1, 0, none⟩) n n) ∧ At2 wr w.heap.size (.int .i64 0) (.slice none 0 0)) (fun _ i _ => n - (intOf i).toNat)
  case atStart => exact ⟨0, Nat.zero_le _, rfl, by simpa [tabL_zero] using HI1.out.keep ((Below.refl w1.heap.size _).alloc (Nat.le_refl _) _) (Nat.le_refl _), HB1.out.alloc (by omega) _, by simp, At2.new _ _ _ _, HP1.out.alloc _⟩
  case round =>
    obtain ⟨k, hk, rfl, hbuf, hB, hsz, hp2, hp3⟩ := hrel
    have HP2 := Lib.hid hp2
    have HP3 := Lib.hid hp3
    obtain ⟨hc0, hc1, _, _⟩ := hp2
    clear hp3
    by_cases hlt : k < n
    · obtain ⟨a', cap', hv, _, kk⟩ := hbuf.form
      simp only [Value.slice.injEq] at hv
      obtain ⟨g', hg', _, hgs, hcell, hfr⟩ := kk k (by rw [tabL_len]; exact hlt)
      obtain ⟨rfl, -, rfl⟩ := hv
      simp only [Option.some.injEq, Addr.mk.injEq, and_true] at hg'
      subst hg'
      obtain ⟨xx, hcx⟩ : ∃ xx, wr.cell? ⟨w.heap.size + 1, k, none⟩ = some xx := ⟨_, hcell⟩
      have hput := hbuf.put k ((nxRef b k  : Int))
      rw [tabL_upto n (fun s => (nxRef b s  : Int)) k] at hput
      have HI := Lib.hid hput
      have HSZ := Lib.hid hsz
      clear hbuf kk hcell hsz hput
      go_wp2
      go_region_with ((go_at_call 54; refine (refStep b k _ hb1 hb2 (by rw [HN.out]; exact hlt)).mono ?_; rintro e w' ⟨rfl, rfl⟩))
      all_goals
        go_wp2
        go_roundw
        case rel => exact ⟨k + 1, by omega, by go_num, by first | exact HI.out | exact HI.out.keep ((Below.refl _ _).drew) (Nat.le_refl _), by first | exact (hB.setCell (by simp) _) | exact (hB.setCell (by simp) _).drew | exact (hB.drew.setCell (by simp) _), by simp; exact HSZ.out, by first | exact HP2.out.set_ne (by omega) _ _ | exact (HP2.out.set_ne (by omega) _ _).drew | exact HP2.out.drew.set_ne (by omega) _ _, by first | exact HP3.out.set_ne (by omega) _ _ | exact (HP3.out.set_ne (by omega) _ _).drew | exact HP3.out.drew.set_ne (by omega) _ _⟩
        case measure => simp [intOf]; omega
    · rw [tabL_whole n (fun s => (nxRef b s  : Int)) k (by omega)] at hbuf
      have HI := Lib.hid hbuf
      clear hbuf hsz
      obtain ⟨hc2, hc3, hf2, hf3⟩ := HP3.out
      have q0 := HP3.out.set0 (.int .i64 (b : Int))
      have q1 := q0.set1 (.slice (some ⟨w.heap.size + 1, 0, none⟩) n n)
      have Q0 := Lib.hid q0.1
      have Q1 := Lib.hid q1.2.1
      clear q0 q1
      go_wp2
      refine bodyPost_ret (v := .tuple #[.agg #[.int .i64 (b : Int), .slice (some ⟨w.heap.size + 1, 0, none⟩) n n], .bool true]) (by simp [results, Try.results53, go_sem, Q0.out, Q1.out]) rfl ⟨_, rfl, ?_, (hB.setCell (Nat.le_refl _) _).setCell (Nat.le_refl _) _⟩
      exact (HI.out.setNe (by omega) _ _).setNe (by omega) _ _

theorem counterOf_f (b : Int) (fv : Value) (w : World) (h : b < 1 ∨ 8 < b) :
    Calls Try.prog 53 #[.int .i64 b, fv] w fun e w' => e = .returned (.tuple #[.agg #[.int .i64 0, .slice none 0 0], .bool false]) ∧ Below w.heap.size w w' := by
  go_enter Try.func53, Try.ntmps53
  go_wp2_with fail
  refine (isValid_f _ _ h).mono ?_; rintro e w' ⟨rfl, rfl⟩
  go_wp2
  refine bodyPost_ret (v := .tuple #[.agg #[.int .i64 0, .slice none 0 0], .bool false]) (by simp [results, Try.results53, go_sem]) rfl ⟨rfl, ?_⟩
  first | exact ((Below.refl _ _).alloc (Nat.le_refl _) _) | exact (((Below.refl _ _).alloc (Nat.le_refl _) _).setCell (Nat.le_refl _) _).setCell (Nat.le_refl _) _

set_option maxRecDepth 100000 in
theorem implRef_t (b : Nat) (w : World) (hb1 : 1 ≤ b) (hb2 : b ≤ 8)  :
    Calls Try.prog 16 #[.int .i64 (b : Int)] w fun e w' => ∃ v, e = .returned (.tuple #[.agg #[.int .i64 (b : Int), v], .bool true]) ∧ Ints w' w.heap.size v (tabL (2 ^ b) (fun s => (nxRef b s  : Int))) ∧ Below w.heap.size w w' := by
  go_enter Try.func16, Try.ntmps16
  go_wp2_with fail
  refine (counterOfRef b _ hb1 hb2).mono ?_
  rintro e w1 ⟨v, rfl, hi, hb⟩
  obtain ⟨av, cv, rfl, -, -⟩ := hi.form
  rw [tabL_len] at hi ⊢
  have hp1 := (At2.new w (.int .i64 0) (.slice none 0 0) 24).below hb (by simp)
  have HI := Lib.hid hi
  have HB := Lib.hid hb
  have q0 := hp1.set0 (.int .i64 (b : Int))
  have q1 := q0.set1 (.slice av (2 ^ b) cv)
  have Q0 := Lib.hid q0.1
  have Q1 := Lib.hid q1.2.1
  obtain ⟨hc2, hc3, hf2, hf3⟩ := hp1
  have hav := hi.block_ge
  have HAV := Lib.hid hav
  clear q0 q1 hi hb hav
  go_wp2
  refine bodyPost_ret (v := .tuple #[.agg #[.int .i64 (b : Int), .slice av (2 ^ b) cv], .bool true]) (by simp [results, Try.results16, go_sem, Q0.out, Q1.out]) rfl ⟨_, rfl, ?_, ?_⟩
  · exact ((HI.out.weak (by simp)).setBelow HAV.out (by simp) _ _).setBelow HAV.out (by simp) _ _
  · exact ((((Below.refl _ _).alloc (Nat.le_refl _) _).trans (HB.out.mono (by simp))).setCell (Nat.le_refl _) _).setCell (Nat.le_refl _) _
theorem implRef_f (b : Int) (w : World) (h : b < 1 ∨ 8 < b) :
    Calls Try.prog 16 #[.int .i64 b] w fun e w' => ∃ v, e = .returned (.tuple #[.agg #[.int .i64 0, v], .bool false]) ∧ Ints w' w.heap.size v [] ∧ Below w.heap.size w w' := by
  go_enter Try.func16, Try.ntmps16
  go_wp2_with fail
  refine (counterOf_f b _ _ h).mono ?_
  rintro e w1 ⟨rfl, hb⟩
  have hp1 := (At2.new w (.int .i64 0) (.slice none 0 0) 24).below hb (by simp)
  have HB := Lib.hid hb
  have q0 := hp1.set0 (.int .i64 0)
  have q1 := q0.set1 (.slice none 0 0)
  have Q0 := Lib.hid q0.1
  have Q1 := Lib.hid q1.2.1
  obtain ⟨hc2, hc3, hf2, hf3⟩ := hp1
  clear q0 q1 hb
  go_wp2
  refine bodyPost_ret (v := .tuple #[.agg #[.int .i64 0, .slice none 0 0], .bool false]) (by simp [results, Try.results16, go_sem, Q0.out, Q1.out]) rfl ⟨_, rfl, Ints.nil _ _, ?_⟩
  exact ((((Below.refl _ _).alloc (Nat.le_refl _) _).trans (HB.out.mono (by simp))).setCell (Nat.le_refl _) _).setCell (Nat.le_refl _) _

theorem refL_step (b n k : Nat) (hb : b ≤ 8) (hn : n = 2 ^ b) (hk : k < n) :
    (tabL n (fun s => if decide (unN s < k) then (nxRef b s : Int) else 0)).set (codeN k) (codeN ((k + 1) % n) : Int) = tabL n (fun s => if decide (unN s < k + 1) then (nxRef b s : Int) else 0) := by
  rw [tabL_set]
  apply tabL_congr
  intro s hs
  have h256 : 2 ^ b ≤ 256 := Nat.pow_le_pow_right (n := 2) (by omega) hb
  have f := unN_facts k (by omega)
  by_cases h : s = codeN k
  · rw [if_pos h, h, f.2.2.2, decide_eq_true (by omega), if_pos rfl]
    unfold nxRef; rw [f.2.2.2, hn]
  · rw [if_neg h]
    have g := unN_facts s (by omega)
    have : unN s ≠ k := fun e => h (by rw [← e, g.1])
    have e : decide (unN s < k) = decide (unN s < k + 1) := by rw [decide_eq_decide]; omega
    rw [e]
theorem refL_end (b n k : Nat) (hb : b ≤ 8) (hn : n = 2 ^ b) (hk : n ≤ k) :
    tabL n (fun s => if decide (unN s < k) then (nxRef b s : Int) else 0) = tabL n (fun s => (nxRef b s : Int)) := by
  apply tabL_congr
  intro s hs
  have := (ref_facts b s hb (by omega)).2
  rw [decide_eq_true (by omega), if_pos rfl]

set_option maxHeartbeats 2000000 in
set_option maxRecDepth 100000 in
theorem specRef_t (b : Nat) (w : World) (hb1 : 1 ≤ b) (hb2 : b ≤ 8) :
    Calls Try.prog 15 #[.int .i64 (b : Int)] w fun e w' => ∃ v, e = .returned (.tuple #[.agg #[.int .i64 (b : Int), v], .bool true]) ∧ Ints w' w.heap.size v (tabL (2 ^ b) (fun s => (nxRef b s : Int))) ∧ Below w.heap.size w w' := by
  obtain ⟨i0, hi, hz0, hz1, hz2⟩ := info_parts info_i64
  have hst : st (b : Int) = ((2 ^ b : Nat) : Int) := rfl
  have hsb := st_bd (b : Int) (by omega) (by omega)
  obtain ⟨n, hn⟩ : ∃ n, 2 ^ b = n := ⟨_, rfl⟩
  rw [hst, hn] at hsb
  rw [hn] at hst ⊢
  have hn256 : n ≤ 256 := by omega
  have HN := Lib.hid hn
  have st2 : ∀ w, Calls Try.prog 51 #[.int .i64 (b : Int)] w fun e w' => e = .returned (.int .i64 (n : Int)) ∧ w = w' := fun w =>
    (l02Size_any (b : Int) w (by omega) (by omega)).mono fun e w' h => by rw [hst] at h; exact h
  have ST := Lib.hid st2
  have hne : ((n : Int) == 0) = false := by simp; omega
  have hnp : (0 : Int) < (n : Int) := by omega
  clear st2 hst hn
  go_enter Try.func15, Try.ntmps15
  go_wp2_with fail
  refine (l02Bits_t _ _ (by omega) (by omega)).mono ?_; rintro e w' ⟨rfl, rfl⟩
  go_wp2_with fail
  refine (ST.out _).mono ?_; rintro e w' ⟨rfl, rfl⟩
  go_wp2_with (at_make; refine wpList_make_full _ rfl _ _ 22 rfl w.heap.size 2 i0 (.int .i64 0) 1 Try.underlying22 hi hz0 hz1 .i64 .i64 (n : Int) (n : Int) n rfl rfl rfl rfl (by rw [hz2]; omega) (by unfold maxLen; omega) (by simp) ?_; intro w1 hown1 hgrow1)
  have hb1w : Below w.heap.size w w1 := ((Below.refl _ _).alloc (Nat.le_refl _) _).grown hgrow1 (by simp) (fun k e => by cases e)
  have hi1 : Ints w1 w.heap.size (.slice (some ⟨w.heap.size + 1, 0, none⟩) n n) (List.replicate n 0) := by
    unfold Ints
    rw [← zeros_list, List.length_replicate]
    have h : w1.ownsRow w.heap.size 2 1 (.slice (some ⟨w.heap.size + 1, 0, none⟩) n n) n (madeCells (Value.int IntKind.i64 0).cells n).toList := by simpa using hown1
    exact h
  have hs1 : w.heap.size + 1 < w1.heap.size := by
    obtain ⟨a, c, he, _, hk⟩ := hi1.form
    obtain ⟨g', hg', _, hlt, _⟩ := hk 0 (by rw [List.length_replicate]; omega)
    simp only [Value.slice.injEq] at he
    rw [hg'] at he
    have := he.1
    simp at this
    omega
  have hp1 : At2 w1 w.heap.size (.int .i64 0) (.slice none 0 0) := (At2.new w _ _ _).grown hgrow1 (by simp)
  have HP1 := Lib.hid hp1
  have HI1 := Lib.hid hi1
  have HB1 := Lib.hid hb1w
  clear hi1 hb1w hown1 hgrow1 hp1
  go_wp2
  go_loopw [5] (fun i wr => ∃ k : Nat, k ≤ n ∧ i = .int .i64 (k : Int) ∧ Ints wr w.heap.size (.slice (some ⟨w.heap.size + 1, 0, none⟩) n n) (tabL n (fun s => if decide (unN s < k) then (nxRef b s : Int) else 0)) ∧ Below w.heap.size w wr ∧ wr.heap.size = w1.heap.size + 1 ∧ At2 wr w1.heap.size (.int .i64 (b : Int)) (.slice (some ⟨w.heap.size + 1, 0, none⟩) n n) ∧ At2 wr w.heap.size (.int .i64 0) (.slice none 0 0)) (fun i _ => n - (intOf i).toNat)
  case atStart => exact ⟨0, Nat.zero_le _, rfl, by simpa [tabL_zero] using HI1.out.keep ((Below.refl w1.heap.size _).alloc (Nat.le_refl _) _) (Nat.le_refl _), HB1.out.alloc (by omega) _, by simp, At2.new _ _ _ _, HP1.out.alloc _⟩
  case round =>
    obtain ⟨k, hk, rfl, hbuf, hB, hsz, hp2, hp3⟩ := hrel
    have HP2 := Lib.hid hp2
    have HP3 := Lib.hid hp3
    obtain ⟨hc0, hc1, _, _⟩ := hp2
    clear hp3
    by_cases hlt : k < n
    · have hcl := (ref_facts b k hb2 (by rw [HN.out]; exact hlt)).1
      rw [HN.out] at hcl
      have hml : (k + 1) % n < n := Nat.mod_lt _ (by omega)
      have he : ((k : Int) + 1) % (n : Int) = (((k + 1) % n : Nat) : Int) := by simp
      have hstep := refL_step b n k hb2 HN.out.symm hlt
      generalize (k + 1) % n = y at *
      obtain ⟨d, hd⟩ : ∃ d, codeN y = d := ⟨_, rfl⟩
      obtain ⟨c, hc⟩ : ∃ c, codeN k = c := ⟨_, rfl⟩
      have ck : ∀ w, Calls Try.prog 52 #[.int .i64 (k : Int)] w fun e w' => e = .returned (.int .i64 (c : Int)) ∧ w = w' := fun w => (l02Code_nat k w (by omega)).mono fun e w' h => by rw [hc] at h; exact h
      have cy : ∀ w, Calls Try.prog 52 #[.int .i64 (y : Int)] w fun e w' => e = .returned (.int .i64 (d : Int)) ∧ w = w' := fun w => (l02Code_nat y w (by omega)).mono fun e w' h => by rw [hd] at h; exact h
      have CK := Lib.hid ck
      have CY := Lib.hid cy
      rw [hc] at hcl
      rw [hc, hd] at hstep
      clear ck cy hc hd
      obtain ⟨a', cap', hv, _, kk⟩ := hbuf.form
      simp only [Value.slice.injEq] at hv
      obtain ⟨g', hg', _, hgs, hcell, hfr⟩ := kk c (by rw [tabL_len]; exact hcl)
      obtain ⟨rfl, -, rfl⟩ := hv
      simp only [Option.some.injEq, Addr.mk.injEq, and_true] at hg'
      subst hg'
      obtain ⟨xx, hcx⟩ : ∃ xx, wr.cell? ⟨w.heap.size + 1, c, none⟩ = some xx := ⟨_, hcell⟩
      have hput := hbuf.put c ((d : Nat) : Int)
      rw [hstep] at hput
      have HI := Lib.hid hput
      have HSZ := Lib.hid hsz
      clear hbuf kk hcell hsz hput hstep
      go_wp2_with fail
      refine (ST.out _).mono ?_; rintro e w' ⟨rfl, rfl⟩
      go_wp2
      go_region_with (first | (go_at_call 51; refine (ST.out _).mono ?_; rintro e w' ⟨rfl, rfl⟩) | (go_at_call 52; first | ((with_reducible refine (CK.out _).mono ?_); rintro e w' ⟨rfl, rfl⟩) | ((with_reducible refine (CY.out _).mono ?_); rintro e w' ⟨rfl, rfl⟩)))
      all_goals
        go_wp2
        go_roundw
        case rel => exact ⟨k + 1, by omega, by go_num, by first | exact HI.out | exact HI.out.keep ((Below.refl _ _).drew) (Nat.le_refl _), by first | exact (hB.setCell (by simp) _) | exact (hB.setCell (by simp) _).drew | exact (hB.drew.setCell (by simp) _), by simp; exact HSZ.out, by first | exact HP2.out.set_ne (by omega) _ _ | exact (HP2.out.set_ne (by omega) _ _).drew | exact HP2.out.drew.set_ne (by omega) _ _, by first | exact HP3.out.set_ne (by omega) _ _ | exact (HP3.out.set_ne (by omega) _ _).drew | exact HP3.out.drew.set_ne (by omega) _ _⟩
        case measure => simp [intOf]; omega
    · rw [refL_end b n k hb2 HN.out.symm (by omega)] at hbuf
      have HI := Lib.hid hbuf
      clear hbuf hsz
      obtain ⟨hc2, hc3, hf2, hf3⟩ := HP3.out
      have q0 := HP3.out.set0 (.int .i64 (b : Int))
      have q1 := q0.set1 (.slice (some ⟨w.heap.size + 1, 0, none⟩) n n)
      have Q0 := Lib.hid q0.1
      have Q1 := Lib.hid q1.2.1
      clear q0 q1
      go_wp2_with fail
      refine (ST.out _).mono ?_; rintro e w' ⟨rfl, rfl⟩
      go_wp2
      refine bodyPost_ret (v := .tuple #[.agg #[.int .i64 (b : Int), .slice (some ⟨w.heap.size + 1, 0, none⟩) n n], .bool true]) (by simp [results, Try.results15, go_sem, Q0.out, Q1.out]) rfl ⟨_, rfl, ?_, (hB.setCell (Nat.le_refl _) _).setCell (Nat.le_refl _) _⟩
      exact (HI.out.setNe (by omega) _ _).setNe (by omega) _ _
theorem specRef_f (b : Int) (w : World) (h : b < 1 ∨ 8 < b) :
    Calls Try.prog 15 #[.int .i64 b] w fun e w' => ∃ v, e = .returned (.tuple #[.agg #[.int .i64 0, v], .bool false]) ∧ Ints w' w.heap.size v [] ∧ Below w.heap.size w w' := by
  go_enter Try.func15, Try.ntmps15
  go_wp2_with fail
  refine (l02Bits_f _ _ h).mono ?_; rintro e w' ⟨rfl, rfl⟩
  go_wp2
  refine bodyPost_ret (v := .tuple #[.agg #[.int .i64 0, .slice none 0 0], .bool false]) (by simp [results, Try.results15, go_sem]) rfl ⟨_, rfl, Ints.nil _ _, ?_⟩
  first | exact ((Below.refl _ _).alloc (Nat.le_refl _) _) | exact (((Below.refl _ _).alloc (Nat.le_refl _) _).setCell (Nat.le_refl _) _).setCell (Nat.le_refl _) _
end Go.Proofs.Ytljbblfdaphjpab
