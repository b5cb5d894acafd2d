/- The counter up to a modulus, on the side of the model. -/
import Derived.Test.YtljbblfdaphjpaaBinImpl
namespace Go.Proofs.Ytljbblfdaphjpaa
open Go.RowKit

theorem binL_end (n m : Nat) (k : Nat) (hk : k + 1 = m) : tabL n (fun s => if decide (s < k) then ((s : Int) + 1) else 0) = tabL n (fun s => (nxBin m s : Int)) := by
  apply tabL_congr
  intro s _
  unfold nxBin
  by_cases h : s < k
  · rw [decide_eq_true h, if_pos rfl, if_pos (by omega)]; simp
  · rw [decide_eq_false h, if_neg (by simp), if_neg (by omega)]; rfl

set_option maxHeartbeats 2000000 in
set_option maxRecDepth 100000 in
theorem specBin_t (b m : Nat) (w : World) (hb1 : 1 ≤ b) (hb2 : b ≤ 8) (hm1 : 1 ≤ m) (hm2 : m ≤ 2 ^ b) :
    Calls Try.prog 55 #[.int .i64 (b : Int), .int .i64 (m : Int)] w fun e w' => ∃ v, e = .returned (.tuple #[.agg #[.int .i64 (b : Int), v], .bool true]) ∧ Ints w' w.heap.size v (tabL (2 ^ b) (fun s => (nxBin m s : Int))) ∧ Below w.heap.size w w' := by
  obtain ⟨i0, hi, hz0, hz1, hz2⟩ := info_parts info_i64
  have hst : st (b : Int) = ((2 ^ b : Nat) : Int) := rfl
  have hsb := st_bd (b : Int) (by omega) (by omega)
  obtain ⟨n, hn⟩ : ∃ n, 2 ^ b = n := ⟨_, rfl⟩
  rw [hst, hn] at hsb
  rw [hn] at hst hm2 ⊢
  have hn256 : n ≤ 256 := by omega
  have st2 : ∀ w, Calls Try.prog 101 #[.int .i64 (b : Int)] w fun e w' => e = .returned (.int .i64 (n : Int)) ∧ w = w' := fun w =>
    (l02Size_any (b : Int) w (by omega) (by omega)).mono fun e w' h => by rw [hst] at h; exact h
  have ST := Lib.hid st2
  clear st2 hst hn
  go_enter Try.func55, Try.ntmps55
  go_wp2_with fail
  refine (l02Bits_t _ _ (by omega) (by omega)).mono ?_; rintro e w' ⟨rfl, rfl⟩
  go_wp2_with fail
  refine (ST.out _).mono ?_; rintro e w' ⟨rfl, rfl⟩
  go_wp2_with fail
  refine (l00In_t _ _ _ _ (by omega) (by omega)).mono ?_; rintro e w' ⟨rfl, rfl⟩
  go_wp2_with fail
  refine (ST.out _).mono ?_; rintro e w' ⟨rfl, rfl⟩
  go_wp2_with (at_make; refine wpList_make_full _ rfl _ _ 41 rfl w.heap.size 2 i0 (.int .i64 0) 1 Try.underlying41 hi hz0 hz1 .i64 .i64 (n : Int) (n : Int) n rfl rfl rfl rfl (by rw [hz2]; omega) (by unfold maxLen; omega) (by simp) ?_; intro w1 hown1 hgrow1)
  have hb1w : Below w.heap.size w w1 := ((Below.refl _ _).alloc (Nat.le_refl _) _).grown hgrow1 (by simp) (fun k e => by cases e)
  have hi1 : Ints w1 w.heap.size (.slice (some ⟨w.heap.size + 1, 0, none⟩) n n) (List.replicate n 0) := by
    unfold Ints
    rw [← zeros_list, List.length_replicate]
    have h : w1.ownsRow w.heap.size 2 1 (.slice (some ⟨w.heap.size + 1, 0, none⟩) n n) n (madeCells (Value.int IntKind.i64 0).cells n).toList := by simpa using hown1
    exact h
  have hs1 : w.heap.size + 1 < w1.heap.size := by
    obtain ⟨a, c, he, _, hk⟩ := hi1.form
    obtain ⟨g', hg', _, hlt, _⟩ := hk 0 (by rw [List.length_replicate]; omega)
    simp only [Value.slice.injEq] at he
    rw [hg'] at he
    have := he.1
    simp at this
    omega
  have hp1 : At2 w1 w.heap.size (.int .i64 0) (.slice none 0 0) := (At2.new w _ _ _).grown hgrow1 (by simp)
  have HP1 := Lib.hid hp1
  have HI1 := Lib.hid hi1
  have HB1 := Lib.hid hb1w
  clear hi1 hb1w hown1 hgrow1 hp1
  go_wp2
  go_loopw [7] (fun i wr => ∃ k : Nat, k + 1 ≤ m ∧ i = .int .i64 (k : Int) ∧ Ints wr w.heap.size (.slice (some ⟨w.heap.size + 1, 0, none⟩) n n) (tabL n (fun s => if decide (s < k) then ((s : Int) + 1) else 0)) ∧ Below w.heap.size w wr ∧ wr.heap.size = w1.heap.size + 1 ∧ At2 wr w1.heap.size (.int .i64 (b : Int)) (.slice (some ⟨w.heap.size + 1, 0, none⟩) n n) ∧ At2 wr w.heap.size (.int .i64 0) (.slice none 0 0)) (fun i _ => m - (intOf i).toNat)
  case atStart => exact ⟨0, by omega, rfl, by simpa [tabL_zero] using HI1.out.keep ((Below.refl w1.heap.size _).alloc (Nat.le_refl _) _) (Nat.le_refl _), HB1.out.alloc (by omega) _, by simp, At2.new _ _ _ _, HP1.out.alloc _⟩
  case round =>
    obtain ⟨k, hk, rfl, hbuf, hB, hsz, hp2, hp3⟩ := hrel
    have HP2 := Lib.hid hp2
    have HP3 := Lib.hid hp3
    obtain ⟨hc0, hc1, _, _⟩ := hp2
    clear hp3
    by_cases hlt : k + 1 < m
    · have hkn : k < n := by omega
      obtain ⟨a', cap', hv, _, kk⟩ := hbuf.form
      simp only [Value.slice.injEq] at hv
      obtain ⟨g', hg', _, hgs, hcell, hfr⟩ := kk k (by rw [tabL_len]; exact hkn)
      obtain ⟨rfl, -, rfl⟩ := hv
      simp only [Option.some.injEq, Addr.mk.injEq, and_true] at hg'
      subst hg'
      obtain ⟨xx, hcx⟩ : ∃ xx, wr.cell? ⟨w.heap.size + 1, k, none⟩ = some xx := ⟨_, hcell⟩
      have hput := hbuf.put k ((k : Int) + 1)
      rw [tabL_upto n (fun s => ((s : Int) + 1)) k] at hput
      have HI := Lib.hid hput
      have HSZ := Lib.hid hsz
      clear hbuf kk hcell hsz hput
      go_wp2
      go_roundw
      case rel => exact ⟨k + 1, by omega, by go_num, HI.out, hB.setCell (by simp) _, by simp; exact HSZ.out, HP2.out.set_ne (by omega) _ _, HP3.out.set_ne (by omega) _ _⟩
      case measure => simp [intOf]; omega
    · rw [binL_end n m k (by omega)] at hbuf
      have HI := Lib.hid hbuf
      clear hbuf hsz
      obtain ⟨hc2, hc3, hf2, hf3⟩ := HP3.out
      have q0 := HP3.out.set0 (.int .i64 (b : Int))
      have q1 := q0.set1 (.slice (some ⟨w.heap.size + 1, 0, none⟩) n n)
      have Q0 := Lib.hid q0.1
      have Q1 := Lib.hid q1.2.1
      clear q0 q1
      go_wp2
      refine bodyPost_ret (v := .tuple #[.agg #[.int .i64 (b : Int), .slice (some ⟨w.heap.size + 1, 0, none⟩) n n], .bool true]) (by simp [results, Try.results55, go_sem, Q0.out, Q1.out]) rfl ⟨_, rfl, ?_, (hB.setCell (Nat.le_refl _) _).setCell (Nat.le_refl _) _⟩
      exact (HI.out.setNe (by omega) _ _).setNe (by omega) _ _

theorem specBin_f (b m : Int) (w : World) (h : ¬ StateOk b (m - 1)) :
    Calls Try.prog 55 #[.int .i64 b, .int .i64 m] w fun e w' => ∃ v, e = .returned (.tuple #[.agg #[.int .i64 0, v], .bool false]) ∧ Ints w' w.heap.size v [] ∧ Below w.heap.size w w' := by
  have HH := Lib.hid h
  clear h
  by_cases h12 : b < 1 ∨ 8 < b
  · go_enter Try.func55, Try.ntmps55
    go_wp2_with fail
    refine (l02Bits_f _ _ h12).mono ?_; rintro e w' ⟨rfl, rfl⟩
    go_wp2
    refine bodyPost_ret (v := .tuple #[.agg #[.int .i64 0, .slice none 0 0], .bool false]) (by simp [results, Try.results55, go_sem]) rfl ⟨_, rfl, Ints.nil _ _, ?_⟩
    first | exact ((Below.refl _ _).alloc (Nat.le_refl _) _) | exact (((Below.refl _ _).alloc (Nat.le_refl _) _).setCell (Nat.le_refl _) _).setCell (Nat.le_refl _) _
  · have hb := st_bd b (by omega) (by omega)
    have hm : m < 1 ∨ st b < m := by have := HH.out; unfold StateOk at this; omega
    go_enter Try.func55, Try.ntmps55
    go_wp2_with fail
    refine (l02Bits_t _ _ (by omega) (by omega)).mono ?_; rintro e w' ⟨rfl, rfl⟩
    go_wp2_with fail
    refine (l02Size_any _ _ (by omega) (by omega)).mono ?_; rintro e w' ⟨rfl, rfl⟩
    go_wp2_with fail
    refine (l00In_f _ _ _ _ hm).mono ?_; rintro e w' ⟨rfl, rfl⟩
    go_wp2
    refine bodyPost_ret (v := .tuple #[.agg #[.int .i64 0, .slice none 0 0], .bool false]) (by simp [results, Try.results55, go_sem]) rfl ⟨_, rfl, Ints.nil _ _, ?_⟩
    first | exact ((Below.refl _ _).alloc (Nat.le_refl _) _) | exact (((Below.refl _ _).alloc (Nat.le_refl _) _).setCell (Nat.le_refl _) _).setCell (Nat.le_refl _) _
end Go.Proofs.Ytljbblfdaphjpaa
