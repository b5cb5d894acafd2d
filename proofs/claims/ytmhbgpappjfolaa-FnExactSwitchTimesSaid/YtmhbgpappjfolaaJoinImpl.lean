/- Levels that two waves make, on the side of the program (by joinedWave), and the law's walk. -/
import Derived.Test.YtmhbgpappjfolaaJoinAny
namespace Go.Proofs.Ytmhbgpappjfolaa
open Go.RowKit Go.Shelf
set_option linter.unusedVariables false

theorem joinS_eq (op : Int) (a b : ByteArray) (hab : a.size = b.size) : (⟨(joinL op a.data.toList b.data.toList).toArray⟩ : ByteArray) = outS (fun k => joinZ op (bit a k) (bit b k)) a.size := by
  unfold outS
  congr 2
  apply List.ext_getElem
  · simp [joinL, outL]; omega
  · intro k h1 h2
    have hk : k < a.size := by simpa [outL] using h2
    have e1 : a.data.toList[k]'(by simpa using hk) = a[k] := rfl
    have e2 : b.data.toList[k]'(by simp; omega) = b[k]'(by omega) := rfl
    have p1 := bit_at a k hk
    have p2 := bit_at b k (by omega)
    simp only [joinL, List.getElem_zipWith, outL, List.getElem_map, List.getElem_range, e1, e2]
    unfold joinB onB lvU
    rw [p1, p2]
theorem joinCl (op : Int) (B : Nat) (x y : Bool) (w : World) (hc : w.cell? ⟨B, 0, none⟩ = some (.int .i64 op)) :
    Calls Try.prog 54 #[.bool x, .bool y, .pointer (some ⟨B, 0, none⟩)] w fun e w' => e = .returned (.bool (joinZ op x y)) ∧ w = w' := by
  go_enter Try.func54, Try.ntmps54
  go_wp2_with fail
  refine (isJoined_any op x y w).mono ?_; rintro e w' ⟨rfl, rfl⟩
  go_wp2
  go_ret
  exact ⟨rfl, rfl⟩
set_option maxHeartbeats 2000000 in
set_option maxRecDepth 100000 in
theorem implJoin_t (op : Int) (a b : ByteArray) (w : World) (h0 : 0 ≤ op) (h3 : op ≤ 3) (hs : a.size ≤ maxLen) (hs' : b.size ≤ maxLen) (hwa : waveB a.data.toList = true) (hwb : waveB b.data.toList = true) (hab : a.size = b.size) :
    Calls Try.prog 16 #[.int .i64 op, .string a, .string b] w fun e w' => e = .returned (.tuple #[.string ⟨(joinL op a.data.toList b.data.toList).toArray⟩, .bool true]) ∧ Below w.heap.size w w' := by
  have h4 := wave_le hwa
  have HA := Lib.hid ((are2B_iff a b).2 ⟨hwa, hwb, hab.symm⟩)
  have HE := Lib.hid (joinS_eq op a b hab)
  have hle : a.size ≤ b.size := by omega
  clear hwa hwb hab
  have hk0 : (w.alloc (.cells #[.int .i64 op] 2)).cell? ⟨w.heap.size, 0, none⟩ = some (.int .i64 op) := by simp [go_sem]
  have HK0 := Lib.hid hk0
  clear hk0
  go_enter Try.func16, Try.ntmps16
  go_wp2_with fail
  refine (within_i64_t _ _ _ _ h0 h3).mono ?_; rintro e w' ⟨rfl, rfl⟩
  go_wp2_with fail
  refine (are2_any _ _ a b _ hs hs' (by simp) (by simp [go_sem]) (by simp [go_sem])).mono ?_
  rw [HA.out]
  rintro e w1 ⟨rfl, b1⟩
  have s1 := b1.size
  simp at s1
  have hz1 : w.heap.size < w1.heap.size := by omega
  have hc1 : w1.cell? ⟨w.heap.size, 0, none⟩ = some (.int .i64 op) := (b1.cell (p := ⟨w.heap.size, 0, none⟩) (by simp; omega)).trans (by simp [go_sem])
  have HB1 := Lib.hid ((((Below.refl w.heap.size w).alloc (Nat.le_refl _) (.cells #[.int .i64 op] 2)).alloc (by simp) (.cells #[.string a, .string b] 9)).trans (b1.mono (by simp; omega)))
  have HG := Lib.hid (joined_any a b 54 #[] #[.pointer (some ⟨w.heap.size, 0, none⟩)] (enters_of Try.func54 (by kernel_rfl) rfl) (fun k => joinZ op (bit a k) (bit b k)) (fun _ W => W.cell? ⟨w.heap.size, 0, none⟩ = some (.int .i64 op)) w1.heap.size w1 hle h4 (Nat.le_refl _)
    (fun k W hk hW hc => (show Calls Try.prog 54 #[.bool (bit a k), .bool (bit b k), .pointer (some ⟨w.heap.size, 0, none⟩)] W _ from (joinCl op w.heap.size (bit a k) (bit b k) W hc).mono (fun e w' h => by obtain ⟨h1, rfl⟩ := h; exact ⟨h1, hc, Below.refl _ _, Stay.refl _ _⟩)))
    (fun k W W' hc hb => (hb.cell (p := ⟨w.heap.size, 0, none⟩) hz1).trans hc) hc1)
  clear b1
  go_wp2_with fail
  refine HG.out.mono ?_
  rintro e w2 ⟨rfl, -, b2⟩
  have HB2 := Lib.hid (HB1.out.trans (b2.mono (Nat.le_of_lt hz1)))
  clear b2 HG
  go_wp2
  go_ret2
  exact ⟨by rw [HE.out]; rfl, HB2.out⟩
theorem implJoin_f1 (op : Int) (a b : ByteArray) (w : World) (h : op < 0 ∨ 3 < op) :
    Calls Try.prog 16 #[.int .i64 op, .string a, .string b] w fun e w' => e = .returned (.tuple #[.string ⟨#[]⟩, .bool false]) ∧ Below w.heap.size w w' := by
  go_enter Try.func16, Try.ntmps16
  go_wp2_with fail
  refine (within_i64_f _ _ _ _ h).mono ?_; rintro e w' ⟨rfl, rfl⟩
  go_wp2
  go_ret2
  exact ⟨rfl, (Below.refl _ _).alloc (Nat.le_refl _) _⟩
theorem implJoin_f (op : Int) (a b : ByteArray) (w : World) (h0 : 0 ≤ op) (h3 : op ≤ 3) (hs : a.size ≤ maxLen) (hs' : b.size ≤ maxLen) (hf : are2B a b = false) :
    Calls Try.prog 16 #[.int .i64 op, .string a, .string b] w fun e w' => e = .returned (.tuple #[.string ⟨#[]⟩, .bool false]) ∧ Below w.heap.size w w' := by
  have HA := Lib.hid hf
  clear hf
  go_enter Try.func16, Try.ntmps16
  go_wp2_with fail
  refine (within_i64_t _ _ _ _ h0 h3).mono ?_; rintro e w' ⟨rfl, rfl⟩
  go_wp2_with fail
  refine (are2_any _ _ a b _ hs hs' (by simp) (by simp [go_sem]) (by simp [go_sem])).mono ?_
  rw [HA.out]
  rintro e w1 ⟨rfl, b1⟩
  have HB1 := Lib.hid ((((Below.refl w.heap.size w).alloc (Nat.le_refl _) (.cells #[.int .i64 op] 2)).alloc (by simp) (.cells #[.string a, .string b] 9)).trans (b1.mono (by simp; omega)))
  clear b1
  go_wp2
  go_ret2
  exact ⟨rfl, HB1.out⟩
theorem are2_f {a b : ByteArray} (h : ¬ (waveB a.data.toList = true ∧ waveB b.data.toList = true ∧ b.size = a.size)) : are2B a b = false := by
  cases hq : are2B a b with
  | false => rfl
  | true => exact absurd ((are2B_iff a b).1 hq) h
theorem specJoin_f1 (op : Int) (a b : ByteArray) (w : World) (h : op < 0 ∨ 3 < op) :
    Calls Try.prog 15 #[.int .i64 op, .string a, .string b] w fun e w' => e = .returned (.tuple #[.string ⟨#[]⟩, .bool false]) ∧ Below w.heap.size w w' := by
  go_enter Try.func15, Try.ntmps15
  go_wp2_with fail
  refine (l00In_f _ _ _ _ h).mono ?_; rintro e w' ⟨rfl, rfl⟩
  go_wp2
  go_ret2
  exact ⟨rfl, Below.refl _ _⟩
theorem specJoin_f2 (op : Int) (a b : ByteArray) (w : World) (h0 : 0 ≤ op) (h3 : op ≤ 3) (hs : a.size ≤ maxLen) (hwa : waveB a.data.toList = false) :
    Calls Try.prog 15 #[.int .i64 op, .string a, .string b] w fun e w' => e = .returned (.tuple #[.string ⟨#[]⟩, .bool false]) ∧ Below w.heap.size w w' := by
  have HWA := Lib.hid hwa
  clear hwa
  go_enter Try.func15, Try.ntmps15
  go_wp2_with fail
  refine (l00In_t _ _ _ _ h0 h3).mono ?_; rintro e w' ⟨rfl, rfl⟩
  go_wp2_with fail
  refine ((l01Wave_any a _ hs).mono (R' := fun e w' => e = .returned (.bool false) ∧ w = w') (fun e w' h => by rw [HWA.out] at h; exact h)).mono ?_
  rintro e w' ⟨rfl, rfl⟩
  go_wp2
  go_ret2
  exact ⟨rfl, Below.refl _ _⟩
theorem specJoin_f3 (op : Int) (a b : ByteArray) (w : World) (h0 : 0 ≤ op) (h3 : op ≤ 3) (hs : a.size ≤ maxLen) (hs' : b.size ≤ maxLen) (hwa : waveB a.data.toList = true) (hwb : waveB b.data.toList = false) :
    Calls Try.prog 15 #[.int .i64 op, .string a, .string b] w fun e w' => e = .returned (.tuple #[.string ⟨#[]⟩, .bool false]) ∧ Below w.heap.size w w' := by
  have HWA := Lib.hid hwa
  have HWB := Lib.hid hwb
  clear hwa hwb
  go_enter Try.func15, Try.ntmps15
  go_wp2_with fail
  refine (l00In_t _ _ _ _ h0 h3).mono ?_; rintro e w' ⟨rfl, rfl⟩
  go_wp2_with fail
  refine ((l01Wave_any a _ hs).mono (R' := fun e w' => e = .returned (.bool true) ∧ w = w') (fun e w' h => by rw [HWA.out] at h; exact h)).mono ?_
  rintro e w' ⟨rfl, rfl⟩
  go_wp2_with fail
  refine ((l01Wave_any b _ hs').mono (R' := fun e w' => e = .returned (.bool false) ∧ w = w') (fun e w' h => by rw [HWB.out] at h; exact h)).mono ?_
  rintro e w' ⟨rfl, rfl⟩
  go_wp2
  go_ret2
  exact ⟨rfl, Below.refl _ _⟩
theorem specJoin_f4 (op : Int) (a b : ByteArray) (w : World) (h0 : 0 ≤ op) (h3 : op ≤ 3) (hs : a.size ≤ maxLen) (hs' : b.size ≤ maxLen) (hwa : waveB a.data.toList = true) (hwb : waveB b.data.toList = true) (hab : a.size ≠ b.size) :
    Calls Try.prog 15 #[.int .i64 op, .string a, .string b] w fun e w' => e = .returned (.tuple #[.string ⟨#[]⟩, .bool false]) ∧ Below w.heap.size w w' := by
  have HWA := Lib.hid hwa
  have HWB := Lib.hid hwb
  have hne : ((a.size : Int) != (b.size : Int)) = true := by simp; omega
  clear hwa hwb
  go_enter Try.func15, Try.ntmps15
  go_wp2_with fail
  refine (l00In_t _ _ _ _ h0 h3).mono ?_; rintro e w' ⟨rfl, rfl⟩
  go_wp2_with fail
  refine ((l01Wave_any a _ hs).mono (R' := fun e w' => e = .returned (.bool true) ∧ w = w') (fun e w' h => by rw [HWA.out] at h; exact h)).mono ?_
  rintro e w' ⟨rfl, rfl⟩
  go_wp2_with fail
  refine ((l01Wave_any b _ hs').mono (R' := fun e w' => e = .returned (.bool true) ∧ w = w') (fun e w' h => by rw [HWB.out] at h; exact h)).mono ?_
  rintro e w' ⟨rfl, rfl⟩
  go_wp2
  go_ret2
  exact ⟨rfl, Below.refl _ _⟩
theorem specJoin_t (op : Int) (a b : ByteArray) (w : World) (h0 : 0 ≤ op) (h3 : op ≤ 3) (hs : a.size ≤ maxLen) (hs' : b.size ≤ maxLen) (hwa : waveB a.data.toList = true) (hwb : waveB b.data.toList = true) (hab : a.size = b.size) :
    Calls Try.prog 15 #[.int .i64 op, .string a, .string b] w fun e w' => e = .returned (.tuple #[.string ⟨(joinL op a.data.toList b.data.toList).toArray⟩, .bool true]) ∧ Below w.heap.size w w' := by
  obtain ⟨_, hsz⟩ := wave_parts b hwb
  have HWA := Lib.hid hwa
  have HWB := Lib.hid hwb
  have hle : a.size ≤ b.size := by omega
  have hge : b.size ≤ a.size := by omega
  have hne : ((a.size : Int) != (b.size : Int)) = false := by simp [hab]
  clear hwa hwb hab
  go_enter Try.func15, Try.ntmps15
  go_wp2_with fail
  refine (l00In_t _ _ _ _ h0 h3).mono ?_; rintro e w' ⟨rfl, rfl⟩
  go_wp2_with fail
  refine ((l01Wave_any a _ hs).mono (R' := fun e w' => e = .returned (.bool true) ∧ w = w') (fun e w' h => by rw [HWA.out] at h; exact h)).mono ?_
  rintro e w' ⟨rfl, rfl⟩
  go_wp2_with fail
  refine ((l01Wave_any b _ hs').mono (R' := fun e w' => e = .returned (.bool true) ∧ w = w') (fun e w' h => by rw [HWB.out] at h; exact h)).mono ?_
  rintro e w' ⟨rfl, rfl⟩
  go_wp2_with fail
  refine (specJoin op a b _ h0 h3 hle (by omega)).mono ?_; rintro e w1 ⟨rfl, hb⟩
  go_wp2
  go_ret2
  exact ⟨by rw [take_all a a.size (Nat.le_refl _), take_all b a.size hge]; rfl, hb⟩

theorem walk_FnExactJoinWaves (op : Int) (a b : ByteArray) (w : World) (_wo : (Lit.int .i64 op).wf = true) (hs : a.size ≤ maxLen) (hs' : b.size ≤ maxLen) :
    Calls Try.prog 3 #[.int .i64 op, .string a, .string b] w fun e w' => e = .returned (.bool true) ∧ Below w.heap.size w w' := by
  by_cases hl : (a.size : Int) ≤ 1048576
  · by_cases hl2 : (b.size : Int) ≤ 1048576
    · obtain ⟨r, c, hS, hI⟩ : ∃ (r : ByteArray) (c : Bool), (∀ w, Calls Try.prog 15 #[.int .i64 op, .string a, .string b] w fun e w' => e = .returned (.tuple #[.string r, .bool c]) ∧ Below w.heap.size w w') ∧ (∀ w, Calls Try.prog 16 #[.int .i64 op, .string a, .string b] w fun e w' => e = .returned (.tuple #[.string r, .bool c]) ∧ Below w.heap.size w w') := by
        by_cases ho : 0 ≤ op ∧ op ≤ 3
        · cases hwa : waveB a.data.toList with
          | false => exact ⟨_, _, fun w => specJoin_f2 op a b w ho.1 ho.2 hs hwa, fun w => implJoin_f op a b w ho.1 ho.2 hs hs' (are2_f (fun h => by rw [h.1] at hwa; cases hwa))⟩
          | true =>
            cases hwb : waveB b.data.toList with
            | false => exact ⟨_, _, fun w => specJoin_f3 op a b w ho.1 ho.2 hs hs' hwa hwb, fun w => implJoin_f op a b w ho.1 ho.2 hs hs' (are2_f (fun h => by rw [h.2.1] at hwb; cases hwb))⟩
            | true =>
              by_cases hab : a.size = b.size
              · exact ⟨_, _, fun w => specJoin_t op a b w ho.1 ho.2 hs hs' hwa hwb hab, fun w => implJoin_t op a b w ho.1 ho.2 hs hs' hwa hwb hab⟩
              · exact ⟨_, _, fun w => specJoin_f4 op a b w ho.1 ho.2 hs hs' hwa hwb hab, fun w => implJoin_f op a b w ho.1 ho.2 hs hs' (are2_f (fun h => hab h.2.2.symm))⟩
        · exact ⟨_, _, fun w => specJoin_f1 op a b w (by omega), fun w => implJoin_f1 op a b w (by omega)⟩
      have HS := Lib.hid hS
      have HI := Lib.hid hI
      clear hS hI
      go_enter Try.func3, Try.ntmps3
      go_wp2_with fail
      refine (HS.out _).mono ?_; rintro e w1 ⟨rfl, b1⟩
      go_wp2_with fail
      refine (HI.out _).mono ?_; rintro e w2 ⟨rfl, b2⟩
      go_wp2
      go_ret
      exact ⟨rfl, b1.trans (b2.mono b1.size)⟩
    · go_enter Try.func3, Try.ntmps3
      go_wp2
      go_ret
      exact ⟨rfl, Below.refl _ _⟩
  · go_enter Try.func3, Try.ntmps3
    go_wp2
    go_ret
    exact ⟨rfl, Below.refl _ _⟩
end Go.Proofs.Ytmhbgpappjfolaa
