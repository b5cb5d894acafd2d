/- The lengths of pulses: plain words, and the model's side. -/
import Derived.Test.YtdjkaompmamhdaaPlsI
namespace Go.Proofs.Ytdjkaompmamhdaa
open Go.RowKit
set_option linter.unusedVariables false
set_option linter.unusedSimpArgs false

/-- the lengths so far, with that of the pulse under way -/
def pulR (s : ByteArray) (k : Nat) : List Int := plsL (runsF (chgsL s.data.toList k)).1 ++ (if (runsF (chgsL s.data.toList k)).2.2 = 49 then [(k : Int) - (runsF (chgsL s.data.toList k)).2.1] else [])
theorem runsF_inv (s : ByteArray) : ∀ k, k ≤ s.size → (runsF (chgsL s.data.toList k)).2.2 = prL s.data.toList k ∧ 0 ≤ (runsF (chgsL s.data.toList k)).2.1 ∧ (runsF (chgsL s.data.toList k)).2.1 ≤ (k : Int) ∧ (0 < k → (runsF (chgsL s.data.toList k)).2.1 < (k : Int)) := by
  intro k
  induction k with
  | zero => intro _; simp [chgsL, runsF, prL]
  | succ k ih =>
    intro hk
    obtain ⟨i1, i2, i3, i4⟩ := ih (by omega)
    rw [prL_succ s k (by omega)]
    by_cases hc : (s[k].toNat : Int) = prL s.data.toList k
    · rw [chgsL_miss s k (by omega) hc]
      exact ⟨by rw [i1, hc], i2, by omega, fun _ => by omega⟩
    · rw [chgsL_hit s k (by omega) hc, runsF_snoc]
      simp only [runStep]
      exact ⟨trivial, by omega, by omega, fun _ => by omega⟩
theorem pulR_zero (s : ByteArray) (k : Nat) (h : k < s.size) (hc : (s[k].toNat : Int) = 48) (hp : prL s.data.toList k = 48 ∨ prL s.data.toList k = 49) : pulR s (k + 1) = pulR s k := by
  obtain ⟨i1, i2, i3, i4⟩ := runsF_inv s k (by omega)
  rcases hp with hp | hp
  · unfold pulR
    rw [chgsL_miss s k h (by omega)]
    rw [if_neg (by omega), if_neg (by omega)]
  · have hk : 0 < k := by
      rcases Nat.eq_zero_or_pos k with rfl | h0
      · simp [prL] at hp
      · exact h0
    have := i4 hk
    unfold pulR
    rw [chgsL_hit s k h (by omega), runsF_snoc]
    simp only [runStep]
    rw [if_pos this, plsL_hit _ _ (by dsimp only; omega), if_neg (by omega), if_pos (by omega), List.append_nil]
theorem pulR_new (s : ByteArray) (k : Nat) (h : k < s.size) (hc : (s[k].toNat : Int) = 49) (hp : prL s.data.toList k = 48) : pulR s (k + 1) = pulR s k ++ [1] := by
  obtain ⟨i1, i2, i3, i4⟩ := runsF_inv s k (by omega)
  have e : plsL (if (runsF (chgsL s.data.toList k)).2.1 < (k : Int) then (runsF (chgsL s.data.toList k)).1 ++ [((runsF (chgsL s.data.toList k)).2.2, (k : Int) - (runsF (chgsL s.data.toList k)).2.1)] else (runsF (chgsL s.data.toList k)).1) = plsL (runsF (chgsL s.data.toList k)).1 := by
    split
    · exact plsL_miss _ _ (by dsimp only; omega)
    · rfl
  unfold pulR
  rw [chgsL_hit s k h (by omega), runsF_snoc]
  simp only [runStep]
  rw [e, if_pos hc, if_neg (by omega), List.append_nil]
  congr 2
  omega
theorem pulR_more (s : ByteArray) (k : Nat) (h : k < s.size) (hc : (s[k].toNat : Int) = 49) (hp : prL s.data.toList k = 49) : ∃ (l : List Int) (y : Int), pulR s k = l ++ [y] ∧ pulR s (k + 1) = l ++ [y + 1] ∧ 0 ≤ y ∧ y ≤ (k : Int) := by
  obtain ⟨i1, i2, i3, i4⟩ := runsF_inv s k (by omega)
  refine ⟨plsL (runsF (chgsL s.data.toList k)).1, (k : Int) - (runsF (chgsL s.data.toList k)).2.1, ?_, ?_, by omega, by omega⟩
  · unfold pulR; rw [if_pos (by omega)]
  · unfold pulR; rw [chgsL_miss s k h (by omega), if_pos (by omega)]
    congr 2
    omega
theorem pulR_end (s : ByteArray) : pulR s s.size = plsL (runsL s) := by
  obtain ⟨i1, i2, i3, i4⟩ := runsF_inv s s.size (Nat.le_refl _)
  unfold pulR runsL
  by_cases h : (runsF (chgsL s.data.toList s.size)).2.1 < (s.size : Int)
  · rw [if_pos h]
    by_cases h9 : (runsF (chgsL s.data.toList s.size)).2.2 = 49
    · rw [if_pos h9, plsL_hit _ _ (by exact h9)]
    · rw [if_neg h9, plsL_miss _ _ (by exact h9), List.append_nil]
  · have h0 : s.size = 0 := by
      rcases Nat.eq_zero_or_pos s.size with h0 | h0
      · exact h0
      · exact absurd (i4 h0) h
    rw [if_neg h]
    rw [h0] at i1 ⊢
    rw [if_neg (by rw [i1]; simp [prL]), List.append_nil]
theorem pulR_len (s : ByteArray) : ∀ k, k ≤ s.size → (pulR s k).length ≤ k := by
  intro k
  induction k with
  | zero => intro _; simp [pulR, chgsL, runsF, plsL]
  | succ k ih =>
    intro hk
    have h := ih (by omega)
    have h2 := runFold_len (chgsL s.data.toList (k + 1)) ([], 0, 48)
    have h3 := chgsL_len s.data.toList (k + 1)
    have h4 := runsF_inv s (k + 1) hk
    by_cases hc : (s[k].toNat : Int) = prL s.data.toList k
    · have e : chgsL s.data.toList (k + 1) = chgsL s.data.toList k := chgsL_miss s k (by omega) hc
      unfold pulR at h ⊢
      rw [e]
      revert h
      split <;> simp <;> omega
    · have e : chgsL s.data.toList (k + 1) = chgsL s.data.toList k ++ _ := chgsL_hit s k (by omega) hc
      unfold pulR at h ⊢
      rw [e, runsF_snoc]
      simp only [runStep]
      have h5 : (plsL (if (runsF (chgsL s.data.toList k)).2.1 < (k : Int) then (runsF (chgsL s.data.toList k)).1 ++ [((runsF (chgsL s.data.toList k)).2.2, (k : Int) - (runsF (chgsL s.data.toList k)).2.1)] else (runsF (chgsL s.data.toList k)).1)).length ≤ (plsL (runsF (chgsL s.data.toList k)).1 ++ (if (runsF (chgsL s.data.toList k)).2.2 = 49 then [(k : Int) - (runsF (chgsL s.data.toList k)).2.1] else [])).length := by
        by_cases h9 : (runsF (chgsL s.data.toList k)).2.2 = 49
        · rw [if_pos h9]
          split
          · rw [plsL_hit _ _ (by exact h9)]; exact Nat.le_refl _
          · simp
        · rw [if_neg h9]
          split
          · rw [plsL_miss _ _ (by exact h9)]; simp
          · simp
      rw [List.length_append]
      have h6 : (if (s[k].toNat : Int) = 49 then [((k + 1 : Nat) : Int) - (k : Int)] else []).length ≤ 1 := by split <;> simp
      omega

theorem pl_inc {W : World} {B g q cap : Nat} {l : List Int} {y : Int} (hq : l.length = q) (h : Ints W B (.slice (some ⟨g, 0, none⟩) (q + 1) cap) (l ++ [y])) :
    W.cell? ⟨g, q, none⟩ = some (.int .i64 y) ∧ W.frozen? ⟨g, q, none⟩ = false ∧ Ints (W.setCell ⟨g, q, none⟩ (.int .i64 (y + 1))) B (.slice (some ⟨g, 0, none⟩) (q + 1) cap) (l ++ [y + 1]) ∧ B ≤ g := by
  subst hq
  have h0 : W.ownsRow B 2 1 (.slice (some ⟨g, 0, none⟩) (l.length + 1) cap) (l.length + 1) ((l ++ [y]).map (Value.int .i64)) := by
    have h9 := h
    unfold Ints at h9
    rw [List.length_append] at h9
    exact h9
  refine ⟨?_, World.ownsRow.frozenAt h0 l.length, ?_, (World.ownsRow.lt h0 g rfl).1⟩
  · rw [World.ownsRow.cellAt h0 l.length (by omega)]; simp
  · have := Ints.put h l.length (y + 1)
    simpa using this

set_option maxRecDepth 100000 in
set_option maxHeartbeats 1000000 in
theorem specPulses (s : ByteArray) (w : World) (hs2 : s.size ≤ 1048576) (hall : s.data.toList.all lvlB = true) :
    Calls Try.prog 10 #[.string s] w fun e w' => ∃ v, e = .returned v ∧ Ints w' w.heap.size v (pulR s s.size) ∧ Below w.heap.size w w' := by
  obtain ⟨i0, hi, hz0, hz1, hz2⟩ := info_parts info_i64
  have HA := Lib.hid (fun k (h : k < s.size) => show (s[k].toNat : Int) = 48 ∨ (s[k].toNat : Int) = 49 by
    have hlv : lvlB s[k] = true := List.all_eq_true.1 hall s[k] (by simp [ByteArray.getElem_eq_getElem_data])
    simpa [lvlB] using hlv)
  clear hall
  go_enter Try.func10, Try.ntmps10
  go_wp2
  go_loopw [3, 4] (fun v i wr => ∃ k : Nat, k ≤ s.size ∧ i = .int .i64 k ∧ Ints wr w.heap.size v (pulR s k) ∧ Below w.heap.size w wr) (fun _ i _ => s.size - (intOf i).toNat)
  case atStart => exact ⟨0, Nat.zero_le _, rfl, by rw [show pulR s 0 = [] from by simp [pulR, chgsL, runsF, plsL]]; exact Ints.lit w, (Below.refl _ _).alloc (Nat.le_refl _) _⟩
  case round =>
    obtain ⟨k, hk, rfl, hbuf, hB⟩ := hrel
    by_cases hlt : k < s.size
    · have hL := pulR_len s k hk
      have HB := Lib.hid hbuf
      clear hbuf
      have hsz := hB.size
      have hp : prL s.data.toList k = 48 ∨ prL s.data.toList k = 49 := by
        cases k with
        | zero => exact .inl rfl
        | succ j => rw [prL_succ s j (by omega)]; exact HA.out j (by omega)
      rcases HA.out k hlt with h1 | h1
      · have HS := Lib.hid (pulR_zero s k hlt h1 hp)
        have h1b : ((s[k].toNat : Int) == 48) = true := by simp [h1]
        clear h1 hp
        go_wp2
        go_roundw
        case rel => exact ⟨k + 1, by omega, by go_num, by rw [HS.out]; exact HB.out, hB⟩
        case measure => simp [intOf]; omega
      · have h1b : ((s[k].toNat : Int) == 48) = false := by simp [h1]
        rcases hp with hp | hp
        · have HS := Lib.hid (pulR_new s k hlt h1 hp)
          obtain ⟨R, hR⟩ : ∃ R, pulR s k = R := ⟨_, rfl⟩
          rw [hR] at HB HS hL
          obtain ⟨q, hq⟩ : ∃ q, R.length = q := ⟨_, rfl⟩
          have HQ := Lib.hid hq
          have hq1 : q ≤ k := by omega
          have hw1 : IntKind.i64.wrap (((q : Nat) : Int) + 1 - 1) = ((q : Nat) : Int) := by rw [IntWalk.i64_in _ (by omega)]; omega
          clear h1 hR hL
          cases k with
          | zero =>
            clear hp hq
            go_wp2_with (at_builtin; refine wpList_append_own _ rfl _ _ 22 rfl w.heap.size 2 i0 (.int .i64 0) 1 8 Try.underlying22 hi hz0 hz1 hz2 rfl (by decide) _ _ _ rfl (HB.out.alloc _) ⟨wr.heap.size, 0, none⟩ 1 1 [.int .i64 0] rfl rfl ?c1 ?c2 ?c3 ?c4 ?c5 ?_)
            case c1 => exact cell_one_new _ _ _
            case c2 => simp [Value.oneCell']
            case c3 => unfold maxLen; have := HQ.out; omega
            case c4 => have := HQ.out; omega
            case c5 => have := HQ.out; first | (simp; omega) | omega
            intro v' w1 hown' hgrow _
            have hsn : Ints w1 w.heap.size v' (R ++ [0]) := Ints.snoc hown'
            rw [HQ.out] at hown'
            obtain ⟨g, cap, rfl⟩ := ownsRow_succ hown'
            obtain ⟨c1, c2, c3, c4⟩ := pl_inc HQ.out hsn
            have HC := Lib.hid c3
            have HW := Lib.hid (Ints.below hB HB.out _ hgrow)
            have HG := Lib.hid c4
            clear hown' hgrow hsn c3 c4
            go_wp2
            go_roundw
            case rel => exact ⟨0 + 1, by omega, by go_num, by rw [HS.out]; exact HC.out, HW.out.setCell (by first | exact HG.out | (simp; exact HG.out)) _⟩
            case measure => simp [intOf]; omega
          | succ j =>
            have hpj : (s[j].toNat : Int) = 48 := by rw [prL_succ s j (by omega)] at hp; exact hp
            have h2b : ((s[j].toNat : Int) == 48) = true := by simp [hpj]
            have hwj : IntKind.i64.wrap (((j + 1 : Nat) : Int) - 1) = (j : Int) := by rw [IntWalk.i64_in _ (by omega)]; omega
            have hwj2 : IntKind.i64.wrap ((j : Int) + 1 - 1) = (j : Int) := by rw [IntWalk.i64_in _ (by omega)]; omega
            have hjs : j < s.size := by omega
            clear hp hpj hq
            go_wp2_with (at_builtin; refine wpList_append_own _ rfl _ _ 22 rfl w.heap.size 2 i0 (.int .i64 0) 1 8 Try.underlying22 hi hz0 hz1 hz2 rfl (by decide) _ _ _ rfl (HB.out.alloc _) ⟨wr.heap.size, 0, none⟩ 1 1 [.int .i64 0] rfl rfl ?c1 ?c2 ?c3 ?c4 ?c5 ?_)
            case c1 => exact cell_one_new _ _ _
            case c2 => simp [Value.oneCell']
            case c3 => unfold maxLen; have := HQ.out; omega
            case c4 => have := HQ.out; omega
            case c5 => have := HQ.out; first | (simp; omega) | omega
            intro v' w1 hown' hgrow _
            have hsn : Ints w1 w.heap.size v' (R ++ [0]) := Ints.snoc hown'
            rw [HQ.out] at hown'
            obtain ⟨g, cap, rfl⟩ := ownsRow_succ hown'
            obtain ⟨c1, c2, c3, c4⟩ := pl_inc HQ.out hsn
            have HC := Lib.hid c3
            have HW := Lib.hid (Ints.below hB HB.out _ hgrow)
            have HG := Lib.hid c4
            clear hown' hgrow hsn c3 c4
            go_wp2
            go_roundw
            case rel => exact ⟨j + 1 + 1, by omega, by go_num, by rw [HS.out]; exact HC.out, HW.out.setCell (by first | exact HG.out | (simp; exact HG.out)) _⟩
            case measure => simp [intOf]; omega
        · obtain ⟨l, y, hl, hl1, hy0, hy1⟩ := pulR_more s k hlt h1 hp
          have HS := Lib.hid hl1
          rw [hl] at HB hL
          obtain ⟨q, hq⟩ : ∃ q, l.length = q := ⟨_, rfl⟩
          have h0 := HB.out
          unfold Ints at h0
          rw [List.length_append, hq, List.length_singleton] at h0
          obtain ⟨g, cap, rfl⟩ := ownsRow_succ h0
          have hB0 := HB.out
          clear h0
          obtain ⟨c1, c2, c3, c4⟩ := pl_inc hq hB0
          have HC := Lib.hid c3
          have hq1 : q + 1 ≤ k := by rw [List.length_append] at hL; simp at hL; omega
          have hw1 : IntKind.i64.wrap (((q : Nat) : Int) + 1 - 1) = ((q : Nat) : Int) := by rw [IntWalk.i64_in _ (by omega)]; omega
          have hw2 : IntKind.i64.wrap (y + 1) = y + 1 := IntWalk.i64_in _ (by omega)
          cases k with
          | zero => exact absurd hp (by simp [prL])
          | succ j =>
            have hpj : (s[j].toNat : Int) = 49 := by rw [prL_succ s j (by omega)] at hp; exact hp
            have h2b : ((s[j].toNat : Int) == 48) = false := by simp [hpj]
            have hwj : IntKind.i64.wrap (((j + 1 : Nat) : Int) - 1) = (j : Int) := by rw [IntWalk.i64_in _ (by omega)]; omega
            have hwj2 : IntKind.i64.wrap ((j : Int) + 1 - 1) = (j : Int) := by rw [IntWalk.i64_in _ (by omega)]; omega
            have hjs : j < s.size := by omega
            clear hp hpj hq h1 hl hl1 hB0 c3 hL
            go_wp2
            go_roundw
            case rel => exact ⟨j + 1 + 1, by omega, by go_num, by rw [HS.out]; exact HC.out, hB.setCell (by first | exact c4 | (simp; exact c4)) _⟩
            case measure => simp [intOf]; omega
    · obtain rfl : k = s.size := by omega
      go_wp2
      go_ret
      exact ⟨_, rfl, hbuf, hB⟩
theorem specPls_t (s : ByteArray) (w : World) (hs : s.size ≤ maxLen) (hwv : waveB s.data.toList = true) (hs2 : s.size ≤ 1048576) :
    Calls Try.prog 4 #[.string s] w fun e W' => ∃ v, e = .returned (.tuple #[v, .bool true]) ∧ Ints W' w.heap.size v (pulR s s.size) ∧ Below w.heap.size w W' := by
  have hall : s.data.toList.all lvlB = true := by
    unfold waveB at hwv; simp only [Bool.and_eq_true] at hwv; exact hwv.1
  have HALL := Lib.hid hall
  have HWV := Lib.hid hwv
  clear hwv hall
  go_enter Try.func4, Try.ntmps4
  go_wp2_with fail
  refine ((l01Wave_any s _ hs).mono (R' := fun e w' => e = .returned (.bool true) ∧ w = w') (fun e w' h => by rw [HWV.out] at h; exact h)).mono ?_
  rintro e w1 ⟨rfl, rfl⟩
  go_wp2_with fail
  refine (specPulses s _ hs2 HALL.out).mono ?_; rintro e w1 ⟨v, rfl, hi, hb⟩
  go_wp2
  go_ret2
  exact ⟨v, rfl, hi, hb⟩
theorem specPls_f (s : ByteArray) (w : World) (hs : s.size ≤ maxLen) (hwv : waveB s.data.toList = false) :
    Calls Try.prog 4 #[.string s] w fun e W' => e = .returned (.tuple #[.slice none 0 0, .bool false]) ∧ Below w.heap.size w W' := by
  have HWV := Lib.hid hwv
  clear hwv
  go_enter Try.func4, Try.ntmps4
  go_wp2_with fail
  refine ((l01Wave_any s _ hs).mono (R' := fun e w' => e = .returned (.bool false) ∧ w = w') (fun e w' h => by rw [HWV.out] at h; exact h)).mono ?_
  rintro e w1 ⟨rfl, rfl⟩
  go_wp2
  go_ret2
  exact ⟨rfl, Below.refl _ _⟩

theorem implPls_f (s : ByteArray) (w : World) (hs : s.size ≤ maxLen) (hwv : waveB s.data.toList = false) :
    Calls Try.prog 5 #[.string s] w fun e W' => e = .returned (.tuple #[.slice none 0 0, .bool false]) ∧ Below w.heap.size w W' := by
  have HC := Lib.hid (fun w => implIsWave s w hs)
  rw [hwv] at HC
  clear hwv
  go_enter Try.func5, Try.ntmps5
  go_wp2_with fail
  refine (HC.out _).mono ?_
  rintro e w1 ⟨rfl, b1⟩
  go_wp2
  go_ret2
  exact ⟨rfl, b1⟩
end Go.Proofs.Ytdjkaompmamhdaa
