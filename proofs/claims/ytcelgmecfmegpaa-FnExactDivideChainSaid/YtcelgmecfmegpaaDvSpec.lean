/- A divided wave, on the side of the model. -/
import Derived.Test.YtcelgmecfmegpaaTogSpec
import Derived.Test.YtcelgmecfmegpaaDivd
namespace Go.Proofs.Ytcelgmecfmegpaa
open Go.RowKit
set_option linter.unusedVariables false

/-- does the wave go up at a tick -/
def upAt (l : List UInt8) (i : Nat) : Prop := l.getD i 0 = 49 ∧ (i = 0 ∨ l.getD (i - 1) 0 = 48)
instance (l : List UInt8) (i : Nat) : Decidable (upAt l i) := by unfold upAt; exact inferInstance
/-- the level and the number of ups, behind so many ticks -/
def dvF (m gh : Nat) (l : List UInt8) : Nat → UInt8 × Nat
  | 0 => (48, 0)
  | i + 1 => if upAt l i then (if (dvF m gh l i).2 % m < gh then 49 else 48, (dvF m gh l i).2 + 1) else dvF m gh l i
def dvL (m gh : Nat) (l : List UInt8) (i : Nat) : List UInt8 := (List.range i).map (fun j => (dvF m gh l (j + 1)).1)
theorem dvL_snoc (m gh : Nat) (l : List UInt8) (i : Nat) : dvL m gh l (i + 1) = dvL m gh l i ++ [(dvF m gh l (i + 1)).1] := by simp [dvL, List.range_succ]
theorem dvL_len (m gh : Nat) (l : List UInt8) (i : Nat) : (dvL m gh l i).length = i := by simp [dvL]
theorem dv_stay {m gh : Nat} {l : List UInt8} {i : Nat} {x : UInt8} {k : Nat} (h : dvF m gh l i = (x, k)) (u : ¬ upAt l i) : dvF m gh l (i + 1) = (x, k) := by
  unfold dvF; rw [if_neg u]; exact h
theorem dv_up {m gh : Nat} {l : List UInt8} {i : Nat} {x : UInt8} {k : Nat} (h : dvF m gh l i = (x, k)) (u : upAt l i) (hk : k % m < gh) : dvF m gh l (i + 1) = (49, k + 1) := by
  unfold dvF; rw [if_pos u, h]; simp only; rw [if_pos hk]
theorem dv_down {m gh : Nat} {l : List UInt8} {i : Nat} {x : UInt8} {k : Nat} (h : dvF m gh l i = (x, k)) (u : upAt l i) (hk : ¬ k % m < gh) : dvF m gh l (i + 1) = (48, k + 1) := by
  unfold dvF; rw [if_pos u, h]; simp only; rw [if_neg hk]

set_option maxHeartbeats 4000000 in
set_option maxRecDepth 100000 in
theorem specDivide (m gh a : Nat) (s : ByteArray) (w : World) (hm : 1 ≤ m) (hm2 : m ≤ 64) (hg : gh ≤ m) (hs : s.size ≤ 400) (ha : a < w.heap.size) (h0 : w.cell? ⟨a, 0, none⟩ = some (.int .i64 (m : Int))) (h1 : w.cell? ⟨a, 1, none⟩ = some (.int .i64 (gh : Int))) :
    Calls Try.prog 40 #[.pointer (some ⟨a, 0, none⟩), .string s] w fun e w' => e = .returned (.string ⟨(dvL m gh s.data.toList s.size).toArray⟩) ∧ Below w.heap.size w w' := by
  obtain ⟨i0, hi, hz0, hz1, hz2⟩ := info_parts info_u8
  have hm0 : ((m : Int) == 0) = false := by simp; omega
  have hmn : ¬ (m : Int) = 0 := by omega
  go_enter Try.func40, Try.ntmps40
  go_wp2
  go_loopw [5, 6, 7, 8] (fun v lv kv iv wr => ∃ (i : Nat) (x : UInt8) (k : Nat), i ≤ s.size ∧ iv = .int .i64 (i : Int) ∧ dvF m gh s.data.toList i = (x, k) ∧ lv = .int .u8 (x.toNat : Int) ∧ kv = .int .i64 (k : Int) ∧ k ≤ i ∧ (x = 48 ∨ x = 49) ∧ Buf wr w.heap.size v (dvL m gh s.data.toList i) ∧ Below w.heap.size w wr) (fun _ _ _ iv _ => s.size - (intOf iv).toNat)
  case atStart => exact ⟨0, 48, 0, Nat.zero_le _, rfl, rfl, rfl, rfl, Nat.le_refl _, .inl rfl, Buf.lit w, (Below.refl _ _).alloc (Nat.le_refl _) _⟩
  case round =>
    obtain ⟨i, x, k, hi2, rfl, hF, rfl, rfl, hk, xH, hbuf, hB⟩ := hrel
    by_cases hlt : i < s.size
    · have hby : (s[i].toNat : Int) ≤ 255 := by have := s[i].toNat_lt; omega
      have HL := Lib.hid (dvL_len m gh s.data.toList i)
      have HB := Lib.hid hbuf
      have hsz2 := hB.size
      have d0 := (hB.cell (p := ⟨a, 0, none⟩) ha).trans h0
      have d1 := (hB.cell (p := ⟨a, 1, none⟩) ha).trans h1
      have hg1 := getD_at s i hlt
      have wk : IntKind.i64.wrap ((k : Int) + 1) = (k : Int) + 1 := IntWalk.i64_in _ (by omega)
      have hmod : (k : Int).tmod (m : Int) = ((k % m : Nat) : Int) := by rw [Int.tmod_eq_emod_of_nonneg (by omega)]; simp
      have hmb : k % m < m := Nat.mod_lt _ (by omega)
      clear hbuf
      by_cases hs1 : s[i] = 49
      · have hq1 : (s[i].toNat : Int) = 49 := by rw [hs1]; rfl
        by_cases hi0 : i = 0
        · have hu : upAt s.data.toList i := ⟨hg1.trans hs1, .inl hi0⟩
          have hq0 : ((i : Int) == 0) = true := by simp; omega
          clear hg1 hs1 hi0
          obtain ⟨r, hre⟩ : ∃ r, k % m = r := ⟨_, rfl⟩
          by_cases hr : r < gh
          · have HF2 := Lib.hid (dv_up hF hu (by rw [hre]; exact hr))
            have HS := Lib.hid (by have h := dvL_snoc m gh s.data.toList i; rw [HF2.out] at h; exact h)
            rw [hre] at hmod hmb
            have wr1 : (k : Int) % (m : Int) = (r : Int) := by rw [← hre]; simp
            have wr0 : IntKind.i64.wrap ((k : Int).tmod (m : Int)) = (r : Int) := by rw [hmod]; exact IntWalk.i64_in _ (by omega)
            have hdl : decide ((r : Int) < (gh : Int)) = true := by simp; omega
            have hdl2 : (r : Int) < (gh : Int) := by omega
            clear hF hu hre hmod
            go_wp2
            go_quiet (fail)
            have hca := tgl_small (.inr rfl)
            go_wp2_with (at_builtin; refine wpList_append_own _ rfl _ _ 55 rfl w.heap.size 5 i0 (.int .u8 0) 1 1 Try.underlying55 hi hz0 hz1 hz2 rfl (by decide) _ _ _ rfl (HB.out.alloc _) ⟨wr.heap.size, 0, none⟩ 1 1 [.int .u8 ((49 : UInt8).toNat : Int)] rfl rfl ?c1a ?c2a ?c3a ?c4a ?c5a ?_)
            try (case c1a => exact cell_one_new wr (.int .u8 ((49 : UInt8).toNat : Int)) _)
            case c2a => simp [Value.oneCell']
            case c3a => rw [HL.out]; unfold maxLen; omega
            case c4a => rw [HL.out]; omega
            case c5a => first | omega | (simp; omega)
            intro v' w1 hown' hgrow _
            have HO := Lib.hid (Buf.snoc (b := (49 : UInt8)) hown')
            have hW : Below w.heap.size w w1 := by first | exact Buf.below hB HB.out _ hgrow | exact Buf.below (below_drawn hB _) HB.out _ hgrow
            have HW := Lib.hid hW
            clear hown' hgrow hW
            go_wp2
            go_roundw
            case rel => exact ⟨i + 1, (49 : UInt8), k + 1, by omega, by go_num, HF2.out, rfl, by go_num, by omega, (.inr rfl), by rw [HS.out]; exact HO.out, HW.out⟩
            case measure => simp [intOf]; omega
          · have HF2 := Lib.hid (dv_down hF hu (by rw [hre]; exact hr))
            have HS := Lib.hid (by have h := dvL_snoc m gh s.data.toList i; rw [HF2.out] at h; exact h)
            rw [hre] at hmod hmb
            have wr1 : (k : Int) % (m : Int) = (r : Int) := by rw [← hre]; simp
            have wr0 : IntKind.i64.wrap ((k : Int).tmod (m : Int)) = (r : Int) := by rw [hmod]; exact IntWalk.i64_in _ (by omega)
            have hdl : decide ((r : Int) < (gh : Int)) = false := by simp; omega
            have hdl2 : ¬ (r : Int) < (gh : Int) := by omega
            clear hF hu hre hmod
            go_wp2
            go_quiet (fail)
            have hca := tgl_small (.inl rfl)
            go_wp2_with (at_builtin; refine wpList_append_own _ rfl _ _ 55 rfl w.heap.size 5 i0 (.int .u8 0) 1 1 Try.underlying55 hi hz0 hz1 hz2 rfl (by decide) _ _ _ rfl (HB.out.alloc _) ⟨wr.heap.size, 0, none⟩ 1 1 [.int .u8 ((48 : UInt8).toNat : Int)] rfl rfl ?c1b ?c2b ?c3b ?c4b ?c5b ?_)
            try (case c1b => exact cell_one_new wr (.int .u8 ((48 : UInt8).toNat : Int)) _)
            case c2b => simp [Value.oneCell']
            case c3b => rw [HL.out]; unfold maxLen; omega
            case c4b => rw [HL.out]; omega
            case c5b => first | omega | (simp; omega)
            intro v' w1 hown' hgrow _
            have HO := Lib.hid (Buf.snoc (b := (48 : UInt8)) hown')
            have hW : Below w.heap.size w w1 := by first | exact Buf.below hB HB.out _ hgrow | exact Buf.below (below_drawn hB _) HB.out _ hgrow
            have HW := Lib.hid hW
            clear hown' hgrow hW
            go_wp2
            go_roundw
            case rel => exact ⟨i + 1, (48 : UInt8), k + 1, by omega, by go_num, HF2.out, rfl, by go_num, by omega, (.inl rfl), by rw [HS.out]; exact HO.out, HW.out⟩
            case measure => simp [intOf]; omega
        · obtain ⟨j, hj⟩ : ∃ j, i = j + 1 := ⟨i - 1, by omega⟩
          have hjl : j < s.size := by omega
          have hwj : IntKind.i64.wrap ((i : Int) - 1) = (j : Int) := by rw [IntWalk.i64_in _ (by omega)]; omega
          have hwj2 : (i : Int) - 1 = (j : Int) := by omega
          have hq0 : ((i : Int) == 0) = false := by simp; omega
          have hq0' : ¬ (i : Int) = 0 := by omega
          have hbj : (s[j].toNat : Int) ≤ 255 := by have := s[j].toNat_lt; omega
          have hgj : s.data.toList.getD (i - 1) 0 = s[j] := by rw [show i - 1 = j by omega]; exact getD_at s j hjl
          by_cases hs2 : s[j] = 48
          · have hu : upAt s.data.toList i := ⟨hg1.trans hs1, .inr (hgj.trans hs2)⟩
            have hq2 : (s[j].toNat : Int) = 48 := by rw [hs2]; rfl
            clear hg1 hs1 hi0 hs2 hgj hj
            obtain ⟨r, hre⟩ : ∃ r, k % m = r := ⟨_, rfl⟩
            by_cases hr : r < gh
            · have HF2 := Lib.hid (dv_up hF hu (by rw [hre]; exact hr))
              have HS := Lib.hid (by have h := dvL_snoc m gh s.data.toList i; rw [HF2.out] at h; exact h)
              rw [hre] at hmod hmb
              have wr1 : (k : Int) % (m : Int) = (r : Int) := by rw [← hre]; simp
              have wr0 : IntKind.i64.wrap ((k : Int).tmod (m : Int)) = (r : Int) := by rw [hmod]; exact IntWalk.i64_in _ (by omega)
              have hdl : decide ((r : Int) < (gh : Int)) = true := by simp; omega
              have hdl2 : (r : Int) < (gh : Int) := by omega
              clear hF hu hre hmod
              go_wp2
              go_quiet (fail)
              have hca := tgl_small (.inr rfl)
              go_wp2_with (at_builtin; refine wpList_append_own _ rfl _ _ 55 rfl w.heap.size 5 i0 (.int .u8 0) 1 1 Try.underlying55 hi hz0 hz1 hz2 rfl (by decide) _ _ _ rfl (HB.out.alloc _) ⟨wr.heap.size, 0, none⟩ 1 1 [.int .u8 ((49 : UInt8).toNat : Int)] rfl rfl ?c1c ?c2c ?c3c ?c4c ?c5c ?_)
              try (case c1c => exact cell_one_new wr (.int .u8 ((49 : UInt8).toNat : Int)) _)
              case c2c => simp [Value.oneCell']
              case c3c => rw [HL.out]; unfold maxLen; omega
              case c4c => rw [HL.out]; omega
              case c5c => first | omega | (simp; omega)
              intro v' w1 hown' hgrow _
              have HO := Lib.hid (Buf.snoc (b := (49 : UInt8)) hown')
              have hW : Below w.heap.size w w1 := by first | exact Buf.below hB HB.out _ hgrow | exact Buf.below (below_drawn hB _) HB.out _ hgrow
              have HW := Lib.hid hW
              clear hown' hgrow hW
              go_wp2
              go_roundw
              case rel => exact ⟨i + 1, (49 : UInt8), k + 1, by omega, by go_num, HF2.out, rfl, by go_num, by omega, (.inr rfl), by rw [HS.out]; exact HO.out, HW.out⟩
              case measure => simp [intOf]; omega
            · have HF2 := Lib.hid (dv_down hF hu (by rw [hre]; exact hr))
              have HS := Lib.hid (by have h := dvL_snoc m gh s.data.toList i; rw [HF2.out] at h; exact h)
              rw [hre] at hmod hmb
              have wr1 : (k : Int) % (m : Int) = (r : Int) := by rw [← hre]; simp
              have wr0 : IntKind.i64.wrap ((k : Int).tmod (m : Int)) = (r : Int) := by rw [hmod]; exact IntWalk.i64_in _ (by omega)
              have hdl : decide ((r : Int) < (gh : Int)) = false := by simp; omega
              have hdl2 : ¬ (r : Int) < (gh : Int) := by omega
              clear hF hu hre hmod
              go_wp2
              go_quiet (fail)
              have hca := tgl_small (.inl rfl)
              go_wp2_with (at_builtin; refine wpList_append_own _ rfl _ _ 55 rfl w.heap.size 5 i0 (.int .u8 0) 1 1 Try.underlying55 hi hz0 hz1 hz2 rfl (by decide) _ _ _ rfl (HB.out.alloc _) ⟨wr.heap.size, 0, none⟩ 1 1 [.int .u8 ((48 : UInt8).toNat : Int)] rfl rfl ?c1d ?c2d ?c3d ?c4d ?c5d ?_)
              try (case c1d => exact cell_one_new wr (.int .u8 ((48 : UInt8).toNat : Int)) _)
              case c2d => simp [Value.oneCell']
              case c3d => rw [HL.out]; unfold maxLen; omega
              case c4d => rw [HL.out]; omega
              case c5d => first | omega | (simp; omega)
              intro v' w1 hown' hgrow _
              have HO := Lib.hid (Buf.snoc (b := (48 : UInt8)) hown')
              have hW : Below w.heap.size w w1 := by first | exact Buf.below hB HB.out _ hgrow | exact Buf.below (below_drawn hB _) HB.out _ hgrow
              have HW := Lib.hid hW
              clear hown' hgrow hW
              go_wp2
              go_roundw
              case rel => exact ⟨i + 1, (48 : UInt8), k + 1, by omega, by go_num, HF2.out, rfl, by go_num, by omega, (.inl rfl), by rw [HS.out]; exact HO.out, HW.out⟩
              case measure => simp [intOf]; omega
          · have hu : ¬ upAt s.data.toList i := fun h => h.2.elim hi0 (fun e => hs2 (hgj.symm.trans e))
            have hq2 : ((s[j].toNat : Int) == 48) = false := by
              simp only [beq_eq_false_iff_ne]; intro e; exact hs2 (UInt8.toNat_inj.1 (by have : (48 : UInt8).toNat = 48 := rfl; omega))
            have HF2 := Lib.hid (dv_stay hF hu)
            have HS := Lib.hid (by have h := dvL_snoc m gh s.data.toList i; rw [HF2.out] at h; exact h)
            clear hF hu hg1 hs1 hi0 hs2 hgj hmod hj
            have hca := tgl_small xH
            go_wp2_with (at_builtin; refine wpList_append_own _ rfl _ _ 55 rfl w.heap.size 5 i0 (.int .u8 0) 1 1 Try.underlying55 hi hz0 hz1 hz2 rfl (by decide) _ _ _ rfl (HB.out.alloc _) ⟨wr.heap.size, 0, none⟩ 1 1 [.int .u8 (x.toNat : Int)] rfl rfl ?c1e ?c2e ?c3e ?c4e ?c5e ?_)
            try (case c1e => exact cell_one_new wr (.int .u8 (x.toNat : Int)) _)
            case c2e => simp [Value.oneCell']
            case c3e => rw [HL.out]; unfold maxLen; omega
            case c4e => rw [HL.out]; omega
            case c5e => first | omega | (simp; omega)
            intro v' w1 hown' hgrow _
            have HO := Lib.hid (Buf.snoc (b := x) hown')
            have hW : Below w.heap.size w w1 := by first | exact Buf.below hB HB.out _ hgrow | exact Buf.below (below_drawn hB _) HB.out _ hgrow
            have HW := Lib.hid hW
            clear hown' hgrow hW
            go_wp2
            go_roundw
            case rel => exact ⟨i + 1, x, k, by omega, by go_num, HF2.out, rfl, by go_num, by omega, xH, by rw [HS.out]; exact HO.out, HW.out⟩
            case measure => simp [intOf]; omega
      · have hu : ¬ upAt s.data.toList i := fun h => hs1 (hg1.symm.trans h.1)
        have hq1 : ((s[i].toNat : Int) == 49) = false := by
          simp only [beq_eq_false_iff_ne]; intro e; exact hs1 (UInt8.toNat_inj.1 (by have : (49 : UInt8).toNat = 49 := rfl; omega))
        have HF2 := Lib.hid (dv_stay hF hu)
        have HS := Lib.hid (by have h := dvL_snoc m gh s.data.toList i; rw [HF2.out] at h; exact h)
        clear hF hu hg1 hs1 hmod
        have hca := tgl_small xH
        go_wp2_with (at_builtin; refine wpList_append_own _ rfl _ _ 55 rfl w.heap.size 5 i0 (.int .u8 0) 1 1 Try.underlying55 hi hz0 hz1 hz2 rfl (by decide) _ _ _ rfl (HB.out.alloc _) ⟨wr.heap.size, 0, none⟩ 1 1 [.int .u8 (x.toNat : Int)] rfl rfl ?c1f ?c2f ?c3f ?c4f ?c5f ?_)
        try (case c1f => exact cell_one_new wr (.int .u8 (x.toNat : Int)) _)
        case c2f => simp [Value.oneCell']
        case c3f => rw [HL.out]; unfold maxLen; omega
        case c4f => rw [HL.out]; omega
        case c5f => first | omega | (simp; omega)
        intro v' w1 hown' hgrow _
        have HO := Lib.hid (Buf.snoc (b := x) hown')
        have hW : Below w.heap.size w w1 := by first | exact Buf.below hB HB.out _ hgrow | exact Buf.below (below_drawn hB _) HB.out _ hgrow
        have HW := Lib.hid hW
        clear hown' hgrow hW
        go_wp2
        go_roundw
        case rel => exact ⟨i + 1, x, k, by omega, by go_num, HF2.out, rfl, by go_num, by omega, xH, by rw [HS.out]; exact HO.out, HW.out⟩
        case measure => simp [intOf]; omega
    · have hconv := run_buf_string _ _ _ _ hbuf
      have HB := Lib.hid hbuf
      have hie : i = s.size := by omega
      subst hie
      clear hbuf hF
      go_wp2
      go_ret
      exact ⟨rfl, hB⟩
end Go.Proofs.Ytcelgmecfmegpaa
