/- Whether an order keeps a ratio, on the side of the model. -/
import Derived.Test.YtomdoamfdidghabDoorOrdImpl
import Derived.BigQuiet
import Derived.Deep.QuietTactic
namespace Go.Proofs.YtomdoamfdidghabDoor
open Go.RowKit
set_option linter.unusedVariables false
theorem sget (s : ByteArray) (k : Nat) (h : k < s.size) : s.data.toList[k]? = some s[k] := by
  have h2 : k < s.data.toList.length := by simpa using h
  rw [List.getElem?_eq_getElem h2]; rfl
theorem step_next (s : ByteArray) (k : Nat) (h : k < s.size) (h0 : stepB (s.data.toList.take k) = true) (hc : s[k] = 114 ∨ s[k] = 115) : stepB (s.data.toList.take (k + 1)) = true := by
  unfold stepB at *
  have h2 : k < s.data.toList.length := by simpa using h
  rw [List.take_succ_eq_append_getElem h2, List.all_append, h0, Bool.true_and]
  have e : s.data.toList[k] = s[k] := rfl
  rw [e]
  rcases hc with hc | hc <;> rw [hc] <;> decide
theorem step_bad (s : ByteArray) (k : Nat) (h : k < s.size) (h1 : s[k] ≠ 114) (h2 : s[k] ≠ 115) : stepB s.data.toList = false := by
  unfold stepB
  have h3 : k < s.data.toList.length := by simpa using h
  cases e : s.data.toList.all (fun b => [114, 115].contains b) with
  | false => rfl
  | true =>
    have := List.all_eq_true.1 e s.data.toList[k] (List.getElem_mem h3)
    have e2 : s.data.toList[k] = s[k] := rfl
    rw [e2] at this
    simp at this
    rcases this with h | h
    · exact absurd h h1
    · exact absurd h h2
set_option maxHeartbeats 1000000 in
theorem l05Steps_any (s : ByteArray) (w : World) (hs2 : s.size ≤ 1048576) :
    Calls Tryd.prog 6 #[.string s] w fun e w' => e = .returned (.bool (ordB s)) ∧ Below w.heap.size w w' := by
  go_enter Tryd.func6, Tryd.ntmps6
  go_wp2
  go_loopw [3] (fun i wr => ∃ k : Nat, k ≤ s.size ∧ i = .int .i64 (k : Int) ∧ stepB (s.data.toList.take k) = true ∧ Below w.heap.size w wr) (fun i _ => s.size - (intOf i).toNat)
  case atStart => exact ⟨0, Nat.zero_le _, rfl, rfl, Below.refl _ _⟩
  case round =>
    obtain ⟨k, hk, rfl, h0, hB⟩ := hrel
    have H0 := Lib.hid h0
    clear h0
    by_cases hlt : k < s.size
    · by_cases c1 : s[k] = 115
      · have HS := Lib.hid (step_next s k hlt H0.out (.inr c1))
        have hc : ((s[k].toNat : Nat) : Int) = 115 := by rw [c1]; rfl
        clear c1
        go_wp2
        try (go_quiet (fail); go_wp2)
        go_roundw
        case rel => exact ⟨k + 1, by omega, by go_num, HS.out, by first | exact hB | exact bwo hB _⟩
        case measure => simp [intOf]; omega
      · by_cases c2 : s[k] = 114
        · have HS := Lib.hid (step_next s k hlt H0.out (.inl c2))
          have hc : ((s[k].toNat : Nat) : Int) = 114 := by rw [c2]; rfl
          clear c1 c2
          go_wp2
          try (go_quiet (fail); go_wp2)
          go_roundw
          case rel => exact ⟨k + 1, by omega, by go_num, HS.out, by first | exact hB | exact bwo hB _⟩
          case measure => simp [intOf]; omega
        · have HB := Lib.hid (show ordB s = false by unfold ordB; rw [step_bad s k hlt c2 c1, Bool.and_false])
          have n1 : ¬ ((s[k].toNat : Nat) : Int) = 115 := fun e => c1 (UInt8.toNat_inj.1 (by simp at e ⊢; omega))
          have n2 : ¬ ((s[k].toNat : Nat) : Int) = 114 := fun e => c2 (UInt8.toNat_inj.1 (by simp at e ⊢; omega))
          obtain ⟨x, hx⟩ : ∃ x : Int, ((s[k].toNat : Nat) : Int) = x := ⟨_, rfl⟩
          rw [hx] at n1 n2
          have b1 : (x == 115) = false := beq_eq_false_iff_ne.2 n1
          have b2 : (x == 114) = false := beq_eq_false_iff_ne.2 n2
          have b3 : (x != 115) = true := by simp [n1]
          have b4 : (x != 114) = true := by simp [n2]
          clear c1 c2
          go_wp2
          try (go_quiet (fail); go_wp2)
          go_ret
          exact ⟨by rw [HB.out]; rfl, by first | exact hB | exact bwo hB _⟩
    · have HE := Lib.hid (show ordB s = decide ((s.size : Int) ≤ 300) by
        have e : s.data.toList.take k = s.data.toList := List.take_of_length_le (by simp; omega)
        have h := H0.out
        rw [e] at h
        unfold ordB; rw [h, Bool.and_true, decide_eq_decide]; omega)
      go_wp2
      go_ret
      exact ⟨by rw [HE.out]; rfl, hB⟩
def ordS (s : ByteArray) (m : Nat) : Bool := (List.range s.size).all fun i => decide (trun s.data.toList (i + 1) ≤ m)
theorem ordS_t (s : ByteArray) (m : Nat) (h : ∀ j, j < s.size → trun s.data.toList (j + 1) ≤ m) : ordS s m = true := by
  unfold ordS; rw [List.all_eq_true]; intro i hi; exact decide_eq_true (h i (List.mem_range.1 hi))
theorem ordS_f (s : ByteArray) (m k : Nat) (hk : k < s.size) (h : m < trun s.data.toList (k + 1)) : ordS s m = false := by
  cases e : ordS s m with
  | false => rfl
  | true =>
    have := of_decide_eq_true (List.all_eq_true.1 e k (List.mem_range.2 hk))
    omega
theorem ord_same (s : ByteArray) (m : Nat) (h : ordB s = true) : ordS s m = ordI s m := by
  unfold ordB at h
  rw [Bool.and_eq_true] at h
  have hb := bad_iff s.data.toList m h.2
  cases e : ordS s m with
  | true =>
    have nb : ¬ Bad s.data.toList m := fun hbad => by
      obtain ⟨i, hi, h3⟩ := of_bad _ _ hbad
      rw [ordS_f s m i (by simpa using hi) h3] at e
      cases e
    rw [hb] at nb
    unfold ordI
    cases e1 : Lib.contains s.data.toList (List.replicate (m + 1) 114) with
    | true => exact absurd (.inl e1) nb
    | false =>
      cases e2 : Lib.contains s.data.toList (List.replicate (m + 1) 115) with
      | true => exact absurd (.inr e2) nb
      | false => rfl
  | false =>
    have hbad : Bad s.data.toList m := by
      apply Classical.byContradiction
      intro nb
      have : ordS s m = true := ordS_t s m fun j hj => by
        apply Classical.byContradiction
        intro hn
        exact nb (bad_of _ _ j (by simpa using hj) (by omega))
      rw [e] at this; cases this
    rw [hb] at hbad
    unfold ordI
    rcases hbad with h1 | h1
    · rw [h1]; rfl
    · rw [h1]; cases Lib.contains s.data.toList (List.replicate (m + 1) 114) <;> rfl
end Go.Proofs.YtomdoamfdidghabDoor
