/- The fraction with a text, on the side of the model; and the walk of its law. -/
import Derived.Test.YthigopehalkoaaaDoorFRead
import Derived.Lib.Split
namespace Go.Proofs.YthigopehalkoaaaDoor
open Go.RowKit
set_option linter.unusedVariables false
theorem bytes_ext {a b : ByteArray} (h : a.data.toList = b.data.toList) : a = b := ByteArray.ext (Array.toList_inj.1 h)
theorem great_noneC (s : ByteArray) (w : World) (hs : s.size ≤ 1048576) (h : rd 1000000000000000000 s.data.toList = none) :
    Calls Tryd.prog 83 #[.string s] w fun e w' => ∃ m : Int, e = .returned (.tuple #[.int .i64 m, .bool false]) ∧ Below w.heap.size w w' :=
  (l01Great_any s w hs).mono fun e w' ⟨m, b, he, hr, hb⟩ => by
    cases b with
    | true => rw [h] at hr; cases hr
    | false => exact ⟨m, he, hb⟩
theorem great_someC (s : ByteArray) (n : Int) (w : World) (hs : s.size ≤ 1048576) (h : rd 1000000000000000000 s.data.toList = some n) :
    Calls Tryd.prog 83 #[.string s] w fun e w' => e = .returned (.tuple #[.int .i64 n, .bool true]) ∧ Below w.heap.size w w' :=
  (l01Great_any s w hs).mono fun e w' ⟨m, b, he, hr, hb⟩ => by
    cases b with
    | true =>
      rw [h] at hr
      obtain rfl : n = m := by simpa using hr
      exact ⟨he, hb⟩
    | false => rw [h] at hr; cases hr
theorem cutK_before (s : ByteArray) (k : Nat) (h : k < cutK s.data.toList) (hk : k < s.size) : ¬ (s[k].toNat : Int) = 47 := by
  have h1 := List.not_of_lt_findIdx h
  intro e
  have e2 : s[k] = 47 := UInt8.toNat_inj.1 (by have : (47 : UInt8).toNat = 47 := rfl; omega)
  have e3 : s.data.toList[k]'(by rw [size_toList]; exact hk) = s[k] := by simp [ByteArray.getElem_eq_getElem_data]
  simp at h1
  exact h1 (by simpa [ByteArray.getElem_eq_getElem_data] using e2)
theorem cutK_at (s : ByteArray) (hk : cutK s.data.toList < s.size) : (s[cutK s.data.toList].toNat : Int) = 47 := by
  have h1 := List.findIdx_getElem (p := fun b : UInt8 => b == 47) (xs := s.data.toList) (w := by rw [size_toList]; exact hk)
  have e3 : s.data.toList[cutK s.data.toList]'(by rw [size_toList]; exact hk) = s[cutK s.data.toList] := by simp [ByteArray.getElem_eq_getElem_data]
  have h2 : s[cutK s.data.toList] = 47 := by rw [← e3]; exact beq_iff_eq.1 h1
  rw [h2]; rfl

set_option maxHeartbeats 2000000 in
set_option maxRecDepth 100000 in
theorem specFR_hit_o (s : ByteArray) (w : World) (hs : s.size ≤ 1048576) (hd : DoorW w) (hk : cutK s.data.toList < s.data.toList.length) (h1 : rd 1000000000000000000 (frO s.data.toList) = none) :
    Calls Tryd.prog 51 #[.string s] w fun e w' => e = .returned (frV s.data.toList) ∧ Below w.heap.size w w' := by
  have HV := Lib.hid (frV_no (.inl h1))
  have HD := Lib.hid (Dw.al (w := w) ⟨hd, Below.refl _ _⟩ (.cells #[.int .i64 0, .int .i64 0] 31))
  have HA := Lib.hid (At2.new w (.int .i64 0) (.int .i64 0) 31)
  have hkl := cutK_le s.data.toList
  rw [size_toList] at hkl hk
  have CB := Lib.hid (fun k h hk => cutK_before s k h hk)
  have hat := cutK_at s hk
  obtain ⟨O, hO⟩ : ∃ O : ByteArray, s.extract 0 (cutK s.data.toList) = O := ⟨_, rfl⟩
  obtain ⟨U, hU⟩ : ∃ U : ByteArray, s.extract (cutK s.data.toList + 1) s.size = U := ⟨_, rfl⟩
  have hOl : O.data.toList = frO s.data.toList := by rw [← hO, Lib.extract_from_zero]; rfl
  have hUl : U.data.toList = frU s.data.toList := by rw [← hU, Lib.extract_to_end]; unfold frU; rw [size_toList, if_pos hk]
  have hOs : O.size ≤ 1048576 := by rw [← size_toList, hOl]; unfold frO; rw [List.length_take, size_toList]; omega
  have hUs : U.size ≤ 1048576 := by rw [← size_toList, hUl]; unfold frU; rw [size_toList, if_pos hk, List.length_drop, size_toList]; omega
  obtain ⟨K, hK⟩ : ∃ K, cutK s.data.toList = K := ⟨_, rfl⟩
  have hat2 : ∀ h : K < s.size, (s[K].toNat : Int) = 47 := by subst hK; exact fun _ => hat
  rw [hK] at hO hU hkl hk CB
  have hat3 := hat2 hk
  have HG1 := Lib.hid (fun W => great_noneC O W hOs (by rw [hOl]; exact h1))
  have HG2 := Lib.hid (fun W => l01Great_any U W hUs)
  clear hd hOl hUl hOs hK hUs hat hat2 h1
  go_enter Tryd.func51, Tryd.ntmps51
  go_wp2
  go_loop [4] (fun i => ∃ k : Nat, k ≤ K ∧ i = .int .i64 (k : Int)) (fun i => K - (RowKit.intOf i).toNat)
  case atStart => exact ⟨0, Nat.zero_le _, rfl⟩
  case round =>
    obtain ⟨k, hkK, rfl⟩ := hrel
    by_cases hlt : k < K
    · have hks : k < s.size := by omega
      have hne47 := CB.out k hlt hks
      have b1 : ((s[k].toNat : Int) == 47) = false := beq_eq_false_iff_ne.2 hne47
      have b2 : ((s[k].toNat : Int) != 47) = true := by simp [hne47]
      go_wp2
      go_round
      case rel => exact ⟨k + 1, by omega, by go_num⟩
      case measure => simp [RowKit.intOf]; omega
    · obtain rfl : k = K := by omega
      have b1 : ((s[k].toNat : Int) == 47) = true := by rw [hat3]; rfl
      have b2 : ((s[k].toNat : Int) != 47) = false := by rw [hat3]; rfl
      go_wp2_with fail
      refine (HG1.out _).mono ?_; rintro e w1 ⟨m1, rfl, hb1⟩
      have HA := Lib.hid (HA.out.below hb1 (by simp))
      have HD := Lib.hid (HD.out.call hb1)
      clear hb1
      go_wp2_with fail
      refine (HG2.out _).mono ?_; rintro e w2 ⟨m2, c2, rfl, -, hb2⟩
      have HA := Lib.hid (HA.out.below hb2 HA.out.lt)
      have HD := Lib.hid (HD.out.call hb2)
      clear hb2
      have hwl := HA.out.lt
      have HA0 := HA
      have HD0 := HD
      have HA := Lib.hid (HA.out.alloc (.cells #[.int .i64 m1, .int .i64 m2] 31))
      have HD := Lib.hid (HD.out.al (.cells #[.int .i64 m1, .int .i64 m2] 31))
      have HF := Lib.hid (At2.new w2 (.int .i64 m1) (.int .i64 m2) 31)
      have HB := Lib.hid HD.out.bel
      have HB0 := Lib.hid HD0.out.bel
      have r0 := Lib.hid (((HA0.out.set0 (.int .i64 0)).set1 (.int .i64 0)).alloc (.cells #[.int .i64 m1, .int .i64 m2] 31)).1
      have r1 := Lib.hid (((HA0.out.set0 (.int .i64 0)).set1 (.int .i64 0)).alloc (.cells #[.int .i64 m1, .int .i64 m2] 31)).2.1
      obtain ⟨p0, p1, p2, p3⟩ := HA0.out
      have q0 := Lib.hid (HA.out.set0 (.int .i64 0)).1
      have q1 := Lib.hid ((HA.out.set0 (.int .i64 0)).set1 (.int .i64 0)).2.1
      obtain ⟨a0, a1, a2, a3⟩ := HA.out
      obtain ⟨f0, f1, -, -⟩ := HF.out
      go_wp2
      refine bodyPost_ret (v := .tuple #[.agg #[.int .i64 0, .int .i64 0], .bool false]) (by simp [results, Tryd.results51, go_sem, r0.out, r1.out]) rfl ⟨by rw [HV.out], ?_⟩
      first | exact (HB.out.setCell (Nat.le_refl _) _).setCell (Nat.le_refl _) _ | exact ((HB0.out.setCell (Nat.le_refl _) _).setCell (Nat.le_refl _) _).alloc (by simp; exact HB0.out.size) _

set_option maxHeartbeats 2000000 in
set_option maxRecDepth 100000 in
theorem specFR_hit_u (s : ByteArray) (w : World) (hs : s.size ≤ 1048576) (hd : DoorW w) (hk : cutK s.data.toList < s.data.toList.length) (n : Int) (h1 : rd 1000000000000000000 (frO s.data.toList) = some n) (h2 : rd 1000000000000000000 (frU s.data.toList) = none) :
    Calls Tryd.prog 51 #[.string s] w fun e w' => e = .returned (frV s.data.toList) ∧ Below w.heap.size w w' := by
  have HV := Lib.hid (frV_no (.inr h2))
  have HD := Lib.hid (Dw.al (w := w) ⟨hd, Below.refl _ _⟩ (.cells #[.int .i64 0, .int .i64 0] 31))
  have HA := Lib.hid (At2.new w (.int .i64 0) (.int .i64 0) 31)
  have hkl := cutK_le s.data.toList
  rw [size_toList] at hkl hk
  have CB := Lib.hid (fun k h hk => cutK_before s k h hk)
  have hat := cutK_at s hk
  obtain ⟨O, hO⟩ : ∃ O : ByteArray, s.extract 0 (cutK s.data.toList) = O := ⟨_, rfl⟩
  obtain ⟨U, hU⟩ : ∃ U : ByteArray, s.extract (cutK s.data.toList + 1) s.size = U := ⟨_, rfl⟩
  have hOl : O.data.toList = frO s.data.toList := by rw [← hO, Lib.extract_from_zero]; rfl
  have hUl : U.data.toList = frU s.data.toList := by rw [← hU, Lib.extract_to_end]; unfold frU; rw [size_toList, if_pos hk]
  have hOs : O.size ≤ 1048576 := by rw [← size_toList, hOl]; unfold frO; rw [List.length_take, size_toList]; omega
  have hUs : U.size ≤ 1048576 := by rw [← size_toList, hUl]; unfold frU; rw [size_toList, if_pos hk, List.length_drop, size_toList]; omega
  obtain ⟨K, hK⟩ : ∃ K, cutK s.data.toList = K := ⟨_, rfl⟩
  have hat2 : ∀ h : K < s.size, (s[K].toNat : Int) = 47 := by subst hK; exact fun _ => hat
  rw [hK] at hO hU hkl hk CB
  have hat3 := hat2 hk
  have HG1 := Lib.hid (fun W => great_someC O n W hOs (by rw [hOl]; exact h1))
  have HG2 := Lib.hid (fun W => great_noneC U W hUs (by rw [hUl]; exact h2))
  clear hd hOl hUl hOs hK hUs hat hat2 h1 h2
  go_enter Tryd.func51, Tryd.ntmps51
  go_wp2
  go_loop [4] (fun i => ∃ k : Nat, k ≤ K ∧ i = .int .i64 (k : Int)) (fun i => K - (RowKit.intOf i).toNat)
  case atStart => exact ⟨0, Nat.zero_le _, rfl⟩
  case round =>
    obtain ⟨k, hkK, rfl⟩ := hrel
    by_cases hlt : k < K
    · have hks : k < s.size := by omega
      have hne47 := CB.out k hlt hks
      have b1 : ((s[k].toNat : Int) == 47) = false := beq_eq_false_iff_ne.2 hne47
      have b2 : ((s[k].toNat : Int) != 47) = true := by simp [hne47]
      go_wp2
      go_round
      case rel => exact ⟨k + 1, by omega, by go_num⟩
      case measure => simp [RowKit.intOf]; omega
    · obtain rfl : k = K := by omega
      have b1 : ((s[k].toNat : Int) == 47) = true := by rw [hat3]; rfl
      have b2 : ((s[k].toNat : Int) != 47) = false := by rw [hat3]; rfl
      go_wp2_with fail
      refine (HG1.out _).mono ?_; rintro e w1 ⟨rfl, hb1⟩
      have HA := Lib.hid (HA.out.below hb1 (by simp))
      have HD := Lib.hid (HD.out.call hb1)
      clear hb1
      go_wp2_with fail
      refine (HG2.out _).mono ?_; rintro e w2 ⟨m2, rfl, hb2⟩
      have HA := Lib.hid (HA.out.below hb2 HA.out.lt)
      have HD := Lib.hid (HD.out.call hb2)
      clear hb2
      have hwl := HA.out.lt
      have HA0 := HA
      have HD0 := HD
      have HA := Lib.hid (HA.out.alloc (.cells #[.int .i64 n, .int .i64 m2] 31))
      have HD := Lib.hid (HD.out.al (.cells #[.int .i64 n, .int .i64 m2] 31))
      have HF := Lib.hid (At2.new w2 (.int .i64 n) (.int .i64 m2) 31)
      have HB := Lib.hid HD.out.bel
      have HB0 := Lib.hid HD0.out.bel
      have r0 := Lib.hid (((HA0.out.set0 (.int .i64 0)).set1 (.int .i64 0)).alloc (.cells #[.int .i64 n, .int .i64 m2] 31)).1
      have r1 := Lib.hid (((HA0.out.set0 (.int .i64 0)).set1 (.int .i64 0)).alloc (.cells #[.int .i64 n, .int .i64 m2] 31)).2.1
      obtain ⟨p0, p1, p2, p3⟩ := HA0.out
      have q0 := Lib.hid (HA.out.set0 (.int .i64 0)).1
      have q1 := Lib.hid ((HA.out.set0 (.int .i64 0)).set1 (.int .i64 0)).2.1
      obtain ⟨a0, a1, a2, a3⟩ := HA.out
      obtain ⟨f0, f1, -, -⟩ := HF.out
      go_wp2
      refine bodyPost_ret (v := .tuple #[.agg #[.int .i64 0, .int .i64 0], .bool false]) (by simp [results, Tryd.results51, go_sem, r0.out, r1.out]) rfl ⟨by rw [HV.out], ?_⟩
      first | exact (HB.out.setCell (Nat.le_refl _) _).setCell (Nat.le_refl _) _ | exact ((HB0.out.setCell (Nat.le_refl _) _).setCell (Nat.le_refl _) _).alloc (by simp; exact HB0.out.size) _

set_option maxHeartbeats 2000000 in
set_option maxRecDepth 100000 in
theorem specFR_hit_v (s : ByteArray) (w : World) (hs : s.size ≤ 1048576) (hd : DoorW w) (hk : cutK s.data.toList < s.data.toList.length) (n d : Int) (h1 : rd 1000000000000000000 (frO s.data.toList) = some n) (h2 : rd 1000000000000000000 (frU s.data.toList) = some d) (h3 : fracB n d = false) :
    Calls Tryd.prog 51 #[.string s] w fun e w' => e = .returned (frV s.data.toList) ∧ Below w.heap.size w w' := by
  have HV := Lib.hid (frV_bad h1 h2 (fun h => by rw [h3] at h; exact absurd h.1 (by decide)))
  have HD := Lib.hid (Dw.al (w := w) ⟨hd, Below.refl _ _⟩ (.cells #[.int .i64 0, .int .i64 0] 31))
  have HA := Lib.hid (At2.new w (.int .i64 0) (.int .i64 0) 31)
  have hkl := cutK_le s.data.toList
  rw [size_toList] at hkl hk
  have CB := Lib.hid (fun k h hk => cutK_before s k h hk)
  have hat := cutK_at s hk
  obtain ⟨O, hO⟩ : ∃ O : ByteArray, s.extract 0 (cutK s.data.toList) = O := ⟨_, rfl⟩
  obtain ⟨U, hU⟩ : ∃ U : ByteArray, s.extract (cutK s.data.toList + 1) s.size = U := ⟨_, rfl⟩
  have hOl : O.data.toList = frO s.data.toList := by rw [← hO, Lib.extract_from_zero]; rfl
  have hUl : U.data.toList = frU s.data.toList := by rw [← hU, Lib.extract_to_end]; unfold frU; rw [size_toList, if_pos hk]
  have hOs : O.size ≤ 1048576 := by rw [← size_toList, hOl]; unfold frO; rw [List.length_take, size_toList]; omega
  have hUs : U.size ≤ 1048576 := by rw [← size_toList, hUl]; unfold frU; rw [size_toList, if_pos hk, List.length_drop, size_toList]; omega
  obtain ⟨K, hK⟩ : ∃ K, cutK s.data.toList = K := ⟨_, rfl⟩
  have hat2 : ∀ h : K < s.size, (s[K].toNat : Int) = 47 := by subst hK; exact fun _ => hat
  rw [hK] at hO hU hkl hk CB
  have hat3 := hat2 hk
  have HG1 := Lib.hid (fun W => great_someC O n W hOs (by rw [hOl]; exact h1))
  have HG2 := Lib.hid (fun W => great_someC U d W hUs (by rw [hUl]; exact h2))
  have HVB := Lib.hid h3
  clear hd hOl hUl hOs hK hUs hat hat2 h1 h2 h3
  go_enter Tryd.func51, Tryd.ntmps51
  go_wp2
  go_loop [4] (fun i => ∃ k : Nat, k ≤ K ∧ i = .int .i64 (k : Int)) (fun i => K - (RowKit.intOf i).toNat)
  case atStart => exact ⟨0, Nat.zero_le _, rfl⟩
  case round =>
    obtain ⟨k, hkK, rfl⟩ := hrel
    by_cases hlt : k < K
    · have hks : k < s.size := by omega
      have hne47 := CB.out k hlt hks
      have b1 : ((s[k].toNat : Int) == 47) = false := beq_eq_false_iff_ne.2 hne47
      have b2 : ((s[k].toNat : Int) != 47) = true := by simp [hne47]
      go_wp2
      go_round
      case rel => exact ⟨k + 1, by omega, by go_num⟩
      case measure => simp [RowKit.intOf]; omega
    · obtain rfl : k = K := by omega
      have b1 : ((s[k].toNat : Int) == 47) = true := by rw [hat3]; rfl
      have b2 : ((s[k].toNat : Int) != 47) = false := by rw [hat3]; rfl
      go_wp2_with fail
      refine (HG1.out _).mono ?_; rintro e w1 ⟨rfl, hb1⟩
      have HA := Lib.hid (HA.out.below hb1 (by simp))
      have HD := Lib.hid (HD.out.call hb1)
      clear hb1
      go_wp2_with fail
      refine (HG2.out _).mono ?_; rintro e w2 ⟨rfl, hb2⟩
      have HA := Lib.hid (HA.out.below hb2 HA.out.lt)
      have HD := Lib.hid (HD.out.call hb2)
      clear hb2
      have hwl := HA.out.lt
      have HA0 := HA
      have HD0 := HD
      have HA := Lib.hid (HA.out.alloc (.cells #[.int .i64 n, .int .i64 d] 31))
      have HD := Lib.hid (HD.out.al (.cells #[.int .i64 n, .int .i64 d] 31))
      have HF := Lib.hid (At2.new w2 (.int .i64 n) (.int .i64 d) 31)
      go_wp2_with fail
      refine (l01FIs_any n d _).mono ?_; rw [HVB.out]; rintro e w3 ⟨rfl, hb3⟩
      have HA := Lib.hid (HA.out.below hb3 HA.out.lt)
      have HF := Lib.hid (HF.out.below hb3 HF.out.lt)
      have HD := Lib.hid (HD.out.call hb3)
      clear hb3
      have HB := Lib.hid HD.out.bel
      have q0 := Lib.hid (HA.out.set0 (.int .i64 0)).1
      have q1 := Lib.hid ((HA.out.set0 (.int .i64 0)).set1 (.int .i64 0)).2.1
      obtain ⟨a0, a1, a2, a3⟩ := HA.out
      obtain ⟨f0, f1, -, -⟩ := HF.out
      go_wp2
      refine bodyPost_ret (v := .tuple #[.agg #[.int .i64 0, .int .i64 0], .bool false]) (by simp [results, Tryd.results51, go_sem, q0.out, q1.out]) rfl ⟨by rw [HV.out], ?_⟩
      exact (HB.out.setCell (Nat.le_refl _) _).setCell (Nat.le_refl _) _

set_option maxHeartbeats 2000000 in
set_option maxRecDepth 100000 in
theorem specFR_hit_t (s : ByteArray) (w : World) (hs : s.size ≤ 1048576) (hd : DoorW w) (hk : cutK s.data.toList < s.data.toList.length) (n d : Int) (h1 : rd 1000000000000000000 (frO s.data.toList) = some n) (h2 : rd 1000000000000000000 (frU s.data.toList) = some d) (h3 : fracB n d = true) (h4 : ftx n d ≠ s.data.toList) :
    Calls Tryd.prog 51 #[.string s] w fun e w' => e = .returned (frV s.data.toList) ∧ Below w.heap.size w w' := by
  have HV := Lib.hid (frV_bad h1 h2 (fun h => h4 h.2))
  have HD := Lib.hid (Dw.al (w := w) ⟨hd, Below.refl _ _⟩ (.cells #[.int .i64 0, .int .i64 0] 31))
  have HA := Lib.hid (At2.new w (.int .i64 0) (.int .i64 0) 31)
  have hkl := cutK_le s.data.toList
  rw [size_toList] at hkl hk
  have CB := Lib.hid (fun k h hk => cutK_before s k h hk)
  have hat := cutK_at s hk
  obtain ⟨O, hO⟩ : ∃ O : ByteArray, s.extract 0 (cutK s.data.toList) = O := ⟨_, rfl⟩
  obtain ⟨U, hU⟩ : ∃ U : ByteArray, s.extract (cutK s.data.toList + 1) s.size = U := ⟨_, rfl⟩
  have hOl : O.data.toList = frO s.data.toList := by rw [← hO, Lib.extract_from_zero]; rfl
  have hUl : U.data.toList = frU s.data.toList := by rw [← hU, Lib.extract_to_end]; unfold frU; rw [size_toList, if_pos hk]
  have hOs : O.size ≤ 1048576 := by rw [← size_toList, hOl]; unfold frO; rw [List.length_take, size_toList]; omega
  have hUs : U.size ≤ 1048576 := by rw [← size_toList, hUl]; unfold frU; rw [size_toList, if_pos hk, List.length_drop, size_toList]; omega
  obtain ⟨K, hK⟩ : ∃ K, cutK s.data.toList = K := ⟨_, rfl⟩
  have hat2 : ∀ h : K < s.size, (s[K].toNat : Int) = 47 := by subst hK; exact fun _ => hat
  rw [hK] at hO hU hkl hk CB
  have hat3 := hat2 hk
  have HG1 := Lib.hid (fun W => great_someC O n W hOs (by rw [hOl]; exact h1))
  have HG2 := Lib.hid (fun W => great_someC U d W hUs (by rw [hUl]; exact h2))
  have HVB := Lib.hid h3
  have hne := bytes_other h4
  obtain ⟨X, hX⟩ : ∃ X : ByteArray, (⟨(ftx n d).toArray⟩ : ByteArray) = X := ⟨_, rfl⟩
  have HT : Hid (∀ W, DoorW W → Calls Tryd.prog 49 #[.agg #[.int .i64 n, .int .i64 d]] W fun e w' => e = .returned (.string X) ∧ Below W.heap.size W w') := fun W h => by
    have := specFText n d W h h3
    rw [hX] at this
    exact this
  rw [hX] at hne
  have n1 := str_ne hne
  clear hd hOl hUl hOs hK hUs hat hat2 h1 h2 h3 h4 hX hne
  go_enter Tryd.func51, Tryd.ntmps51
  go_wp2
  go_loop [4] (fun i => ∃ k : Nat, k ≤ K ∧ i = .int .i64 (k : Int)) (fun i => K - (RowKit.intOf i).toNat)
  case atStart => exact ⟨0, Nat.zero_le _, rfl⟩
  case round =>
    obtain ⟨k, hkK, rfl⟩ := hrel
    by_cases hlt : k < K
    · have hks : k < s.size := by omega
      have hne47 := CB.out k hlt hks
      have b1 : ((s[k].toNat : Int) == 47) = false := beq_eq_false_iff_ne.2 hne47
      have b2 : ((s[k].toNat : Int) != 47) = true := by simp [hne47]
      go_wp2
      go_round
      case rel => exact ⟨k + 1, by omega, by go_num⟩
      case measure => simp [RowKit.intOf]; omega
    · obtain rfl : k = K := by omega
      have b1 : ((s[k].toNat : Int) == 47) = true := by rw [hat3]; rfl
      have b2 : ((s[k].toNat : Int) != 47) = false := by rw [hat3]; rfl
      go_wp2_with fail
      refine (HG1.out _).mono ?_; rintro e w1 ⟨rfl, hb1⟩
      have HA := Lib.hid (HA.out.below hb1 (by simp))
      have HD := Lib.hid (HD.out.call hb1)
      clear hb1
      go_wp2_with fail
      refine (HG2.out _).mono ?_; rintro e w2 ⟨rfl, hb2⟩
      have HA := Lib.hid (HA.out.below hb2 HA.out.lt)
      have HD := Lib.hid (HD.out.call hb2)
      clear hb2
      have hwl := HA.out.lt
      have HA0 := HA
      have HD0 := HD
      have HA := Lib.hid (HA.out.alloc (.cells #[.int .i64 n, .int .i64 d] 31))
      have HD := Lib.hid (HD.out.al (.cells #[.int .i64 n, .int .i64 d] 31))
      have HF := Lib.hid (At2.new w2 (.int .i64 n) (.int .i64 d) 31)
      go_wp2_with fail
      refine (l01FIs_any n d _).mono ?_; rw [HVB.out]; rintro e w3 ⟨rfl, hb3⟩
      have HA := Lib.hid (HA.out.below hb3 HA.out.lt)
      have HF := Lib.hid (HF.out.below hb3 HF.out.lt)
      have HD := Lib.hid (HD.out.call hb3)
      clear hb3
      obtain ⟨f0, f1, -, -⟩ := HF.out
      go_wp2_with fail
      refine (HT.out _ HD.out.door).mono ?_; rintro e w4 ⟨rfl, hb4⟩
      have HA := Lib.hid (HA.out.below hb4 HA.out.lt)
      have HF := Lib.hid (HF.out.below hb4 HF.out.lt)
      have HD := Lib.hid (HD.out.call hb4)
      clear hb4 f0 f1
      have HB := Lib.hid HD.out.bel
      have q0 := Lib.hid (HA.out.set0 (.int .i64 0)).1
      have q1 := Lib.hid ((HA.out.set0 (.int .i64 0)).set1 (.int .i64 0)).2.1
      obtain ⟨a0, a1, a2, a3⟩ := HA.out
      obtain ⟨f0, f1, -, -⟩ := HF.out
      go_wp2
      refine bodyPost_ret (v := .tuple #[.agg #[.int .i64 0, .int .i64 0], .bool false]) (by simp [results, Tryd.results51, go_sem, q0.out, q1.out]) rfl ⟨by rw [HV.out], ?_⟩
      exact (HB.out.setCell (Nat.le_refl _) _).setCell (Nat.le_refl _) _

set_option maxHeartbeats 2000000 in
set_option maxRecDepth 100000 in
theorem specFR_hit_y (s : ByteArray) (w : World) (hs : s.size ≤ 1048576) (hd : DoorW w) (hk : cutK s.data.toList < s.data.toList.length) (n d : Int) (h1 : rd 1000000000000000000 (frO s.data.toList) = some n) (h2 : rd 1000000000000000000 (frU s.data.toList) = some d) (h3 : fracB n d = true) (h4 : ftx n d = s.data.toList) :
    Calls Tryd.prog 51 #[.string s] w fun e w' => e = .returned (frV s.data.toList) ∧ Below w.heap.size w w' := by
  have HV := Lib.hid (frV_ok h1 h2 h3 h4)
  have HD := Lib.hid (Dw.al (w := w) ⟨hd, Below.refl _ _⟩ (.cells #[.int .i64 0, .int .i64 0] 31))
  have HA := Lib.hid (At2.new w (.int .i64 0) (.int .i64 0) 31)
  have hkl := cutK_le s.data.toList
  rw [size_toList] at hkl hk
  have CB := Lib.hid (fun k h hk => cutK_before s k h hk)
  have hat := cutK_at s hk
  obtain ⟨O, hO⟩ : ∃ O : ByteArray, s.extract 0 (cutK s.data.toList) = O := ⟨_, rfl⟩
  obtain ⟨U, hU⟩ : ∃ U : ByteArray, s.extract (cutK s.data.toList + 1) s.size = U := ⟨_, rfl⟩
  have hOl : O.data.toList = frO s.data.toList := by rw [← hO, Lib.extract_from_zero]; rfl
  have hUl : U.data.toList = frU s.data.toList := by rw [← hU, Lib.extract_to_end]; unfold frU; rw [size_toList, if_pos hk]
  have hOs : O.size ≤ 1048576 := by rw [← size_toList, hOl]; unfold frO; rw [List.length_take, size_toList]; omega
  have hUs : U.size ≤ 1048576 := by rw [← size_toList, hUl]; unfold frU; rw [size_toList, if_pos hk, List.length_drop, size_toList]; omega
  obtain ⟨K, hK⟩ : ∃ K, cutK s.data.toList = K := ⟨_, rfl⟩
  have hat2 : ∀ h : K < s.size, (s[K].toNat : Int) = 47 := by subst hK; exact fun _ => hat
  rw [hK] at hO hU hkl hk CB
  have hat3 := hat2 hk
  have HG1 := Lib.hid (fun W => great_someC O n W hOs (by rw [hOl]; exact h1))
  have HG2 := Lib.hid (fun W => great_someC U d W hUs (by rw [hUl]; exact h2))
  have HVB := Lib.hid h3
  have HT : Hid (∀ W, DoorW W → Calls Tryd.prog 49 #[.agg #[.int .i64 n, .int .i64 d]] W fun e w' => e = .returned (.string s) ∧ Below W.heap.size W w') := fun W h => by
    have := specFText n d W h h3
    rw [bytes_same h4] at this
    exact this
  clear hd hOl hUl hOs hK hUs hat hat2 h1 h2 h3 h4
  go_enter Tryd.func51, Tryd.ntmps51
  go_wp2
  go_loop [4] (fun i => ∃ k : Nat, k ≤ K ∧ i = .int .i64 (k : Int)) (fun i => K - (RowKit.intOf i).toNat)
  case atStart => exact ⟨0, Nat.zero_le _, rfl⟩
  case round =>
    obtain ⟨k, hkK, rfl⟩ := hrel
    by_cases hlt : k < K
    · have hks : k < s.size := by omega
      have hne47 := CB.out k hlt hks
      have b1 : ((s[k].toNat : Int) == 47) = false := beq_eq_false_iff_ne.2 hne47
      have b2 : ((s[k].toNat : Int) != 47) = true := by simp [hne47]
      go_wp2
      go_round
      case rel => exact ⟨k + 1, by omega, by go_num⟩
      case measure => simp [RowKit.intOf]; omega
    · obtain rfl : k = K := by omega
      have b1 : ((s[k].toNat : Int) == 47) = true := by rw [hat3]; rfl
      have b2 : ((s[k].toNat : Int) != 47) = false := by rw [hat3]; rfl
      go_wp2_with fail
      refine (HG1.out _).mono ?_; rintro e w1 ⟨rfl, hb1⟩
      have HA := Lib.hid (HA.out.below hb1 (by simp))
      have HD := Lib.hid (HD.out.call hb1)
      clear hb1
      go_wp2_with fail
      refine (HG2.out _).mono ?_; rintro e w2 ⟨rfl, hb2⟩
      have HA := Lib.hid (HA.out.below hb2 HA.out.lt)
      have HD := Lib.hid (HD.out.call hb2)
      clear hb2
      have hwl := HA.out.lt
      have HA0 := HA
      have HD0 := HD
      have HA := Lib.hid (HA.out.alloc (.cells #[.int .i64 n, .int .i64 d] 31))
      have HD := Lib.hid (HD.out.al (.cells #[.int .i64 n, .int .i64 d] 31))
      have HF := Lib.hid (At2.new w2 (.int .i64 n) (.int .i64 d) 31)
      go_wp2_with fail
      refine (l01FIs_any n d _).mono ?_; rw [HVB.out]; rintro e w3 ⟨rfl, hb3⟩
      have HA := Lib.hid (HA.out.below hb3 HA.out.lt)
      have HF := Lib.hid (HF.out.below hb3 HF.out.lt)
      have HD := Lib.hid (HD.out.call hb3)
      clear hb3
      obtain ⟨f0, f1, -, -⟩ := HF.out
      go_wp2_with fail
      refine (HT.out _ HD.out.door).mono ?_; rintro e w4 ⟨rfl, hb4⟩
      have HA := Lib.hid (HA.out.below hb4 HA.out.lt)
      have HF := Lib.hid (HF.out.below hb4 HF.out.lt)
      have HD := Lib.hid (HD.out.call hb4)
      clear hb4 f0 f1
      have HB := Lib.hid HD.out.bel
      have q0 := Lib.hid (HA.out.set0 (.int .i64 n)).1
      have q1 := Lib.hid ((HA.out.set0 (.int .i64 n)).set1 (.int .i64 d)).2.1
      obtain ⟨a0, a1, a2, a3⟩ := HA.out
      obtain ⟨f0, f1, -, -⟩ := HF.out
      go_wp2
      refine bodyPost_ret (v := .tuple #[.agg #[.int .i64 n, .int .i64 d], .bool true]) (by simp [results, Tryd.results51, go_sem, q0.out, q1.out]) rfl ⟨by rw [HV.out], ?_⟩
      exact (HB.out.setCell (Nat.le_refl _) _).setCell (Nat.le_refl _) _

set_option maxHeartbeats 2000000 in
set_option maxRecDepth 100000 in
theorem specFR_miss_o (s : ByteArray) (w : World) (hs : s.size ≤ 1048576) (hd : DoorW w) (hk : ¬ cutK s.data.toList < s.data.toList.length) (h1 : rd 1000000000000000000 (frO s.data.toList) = none) :
    Calls Tryd.prog 51 #[.string s] w fun e w' => e = .returned (frV s.data.toList) ∧ Below w.heap.size w w' := by
  have HV := Lib.hid (frV_no (.inl h1))
  have HD := Lib.hid (Dw.al (w := w) ⟨hd, Below.refl _ _⟩ (.cells #[.int .i64 0, .int .i64 0] 31))
  have HA := Lib.hid (At2.new w (.int .i64 0) (.int .i64 0) 31)
  have hkl := cutK_le s.data.toList
  rw [size_toList] at hkl hk
  have CB := Lib.hid (fun k h hk => cutK_before s k h hk)
  obtain ⟨O, hO0⟩ : ∃ O : ByteArray, s = O := ⟨_, rfl⟩
  have hOl : O.data.toList = frO s.data.toList := by rw [← hO0, frO_miss (by rw [size_toList]; exact hk)]
  have hUl : ([49] : List UInt8) = frU s.data.toList := by unfold frU; rw [size_toList, if_neg hk]
  have hOs : O.size ≤ 1048576 := by rw [← hO0]; exact hs
  have hO : s.extract 0 s.size = O := by rw [← hO0]; exact bytes_ext (by rw [Lib.extract_from_zero, List.take_of_length_le (by rw [size_toList]; omega)])
  obtain ⟨K, hK⟩ : ∃ K, cutK s.data.toList = K := ⟨_, rfl⟩
  rw [hK] at hkl hk CB
  obtain rfl : K = s.size := by omega
  have HG1 := Lib.hid (fun W => great_noneC O W hOs (by rw [hOl]; exact h1))
  clear hd hOl hUl hOs hK hk hkl hO0 h1
  go_enter Tryd.func51, Tryd.ntmps51
  go_wp2
  go_loop [4] (fun i => ∃ k : Nat, k ≤ s.size ∧ i = .int .i64 (k : Int)) (fun i => s.size - (RowKit.intOf i).toNat)
  case atStart => exact ⟨0, Nat.zero_le _, rfl⟩
  case round =>
    obtain ⟨k, hkK, rfl⟩ := hrel
    by_cases hlt : k < s.size
    · have hks : k < s.size := by omega
      have hne47 := CB.out k hlt hks
      have b1 : ((s[k].toNat : Int) == 47) = false := beq_eq_false_iff_ne.2 hne47
      have b2 : ((s[k].toNat : Int) != 47) = true := by simp [hne47]
      go_wp2
      go_round
      case rel => exact ⟨k + 1, by omega, by go_num⟩
      case measure => simp [RowKit.intOf]; omega
    · obtain rfl : k = s.size := by omega
      go_wp2_with fail
      refine (HG1.out _).mono ?_; rintro e w1 ⟨m1, rfl, hb1⟩
      have HA := Lib.hid (HA.out.below hb1 (by simp))
      have HD := Lib.hid (HD.out.call hb1)
      clear hb1
      have hwl := HA.out.lt
      have HA0 := HA
      have HD0 := HD
      have HA := Lib.hid (HA.out.alloc (.cells #[.int .i64 m1, .int .i64 1] 31))
      have HD := Lib.hid (HD.out.al (.cells #[.int .i64 m1, .int .i64 1] 31))
      have HF := Lib.hid (At2.new w1 (.int .i64 m1) (.int .i64 1) 31)
      have HB := Lib.hid HD.out.bel
      have HB0 := Lib.hid HD0.out.bel
      have r0 := Lib.hid (((HA0.out.set0 (.int .i64 0)).set1 (.int .i64 0)).alloc (.cells #[.int .i64 m1, .int .i64 1] 31)).1
      have r1 := Lib.hid (((HA0.out.set0 (.int .i64 0)).set1 (.int .i64 0)).alloc (.cells #[.int .i64 m1, .int .i64 1] 31)).2.1
      obtain ⟨p0, p1, p2, p3⟩ := HA0.out
      have q0 := Lib.hid (HA.out.set0 (.int .i64 0)).1
      have q1 := Lib.hid ((HA.out.set0 (.int .i64 0)).set1 (.int .i64 0)).2.1
      obtain ⟨a0, a1, a2, a3⟩ := HA.out
      obtain ⟨f0, f1, -, -⟩ := HF.out
      go_wp2
      refine bodyPost_ret (v := .tuple #[.agg #[.int .i64 0, .int .i64 0], .bool false]) (by simp [results, Tryd.results51, go_sem, r0.out, r1.out]) rfl ⟨by rw [HV.out], ?_⟩
      first | exact (HB.out.setCell (Nat.le_refl _) _).setCell (Nat.le_refl _) _ | exact ((HB0.out.setCell (Nat.le_refl _) _).setCell (Nat.le_refl _) _).alloc (by simp; exact HB0.out.size) _

set_option maxHeartbeats 2000000 in
set_option maxRecDepth 100000 in
theorem specFR_miss_u (s : ByteArray) (w : World) (hs : s.size ≤ 1048576) (hd : DoorW w) (hk : ¬ cutK s.data.toList < s.data.toList.length) (n : Int) (h1 : rd 1000000000000000000 (frO s.data.toList) = some n) (h2 : rd 1000000000000000000 (frU s.data.toList) = none) :
    Calls Tryd.prog 51 #[.string s] w fun e w' => e = .returned (frV s.data.toList) ∧ Below w.heap.size w w' := by
  have HV := Lib.hid (frV_no (.inr h2))
  have HD := Lib.hid (Dw.al (w := w) ⟨hd, Below.refl _ _⟩ (.cells #[.int .i64 0, .int .i64 0] 31))
  have HA := Lib.hid (At2.new w (.int .i64 0) (.int .i64 0) 31)
  have hkl := cutK_le s.data.toList
  rw [size_toList] at hkl hk
  have CB := Lib.hid (fun k h hk => cutK_before s k h hk)
  obtain ⟨O, hO0⟩ : ∃ O : ByteArray, s = O := ⟨_, rfl⟩
  have hOl : O.data.toList = frO s.data.toList := by rw [← hO0, frO_miss (by rw [size_toList]; exact hk)]
  have hUl : ([49] : List UInt8) = frU s.data.toList := by unfold frU; rw [size_toList, if_neg hk]
  have hOs : O.size ≤ 1048576 := by rw [← hO0]; exact hs
  have hO : s.extract 0 s.size = O := by rw [← hO0]; exact bytes_ext (by rw [Lib.extract_from_zero, List.take_of_length_le (by rw [size_toList]; omega)])
  obtain ⟨K, hK⟩ : ∃ K, cutK s.data.toList = K := ⟨_, rfl⟩
  rw [hK] at hkl hk CB
  obtain rfl : K = s.size := by omega
  have HG1 := Lib.hid (fun W => great_someC O n W hOs (by rw [hOl]; exact h1))
  rw [← hUl, rd_one] at h2
  cases h2

set_option maxHeartbeats 2000000 in
set_option maxRecDepth 100000 in
theorem specFR_miss_v (s : ByteArray) (w : World) (hs : s.size ≤ 1048576) (hd : DoorW w) (hk : ¬ cutK s.data.toList < s.data.toList.length) (n d : Int) (h1 : rd 1000000000000000000 (frO s.data.toList) = some n) (h2 : rd 1000000000000000000 (frU s.data.toList) = some d) (h3 : fracB n d = false) :
    Calls Tryd.prog 51 #[.string s] w fun e w' => e = .returned (frV s.data.toList) ∧ Below w.heap.size w w' := by
  have HV := Lib.hid (frV_bad h1 h2 (fun h => by rw [h3] at h; exact absurd h.1 (by decide)))
  have HD := Lib.hid (Dw.al (w := w) ⟨hd, Below.refl _ _⟩ (.cells #[.int .i64 0, .int .i64 0] 31))
  have HA := Lib.hid (At2.new w (.int .i64 0) (.int .i64 0) 31)
  have hkl := cutK_le s.data.toList
  rw [size_toList] at hkl hk
  have CB := Lib.hid (fun k h hk => cutK_before s k h hk)
  obtain ⟨O, hO0⟩ : ∃ O : ByteArray, s = O := ⟨_, rfl⟩
  have hOl : O.data.toList = frO s.data.toList := by rw [← hO0, frO_miss (by rw [size_toList]; exact hk)]
  have hUl : ([49] : List UInt8) = frU s.data.toList := by unfold frU; rw [size_toList, if_neg hk]
  have hOs : O.size ≤ 1048576 := by rw [← hO0]; exact hs
  have hO : s.extract 0 s.size = O := by rw [← hO0]; exact bytes_ext (by rw [Lib.extract_from_zero, List.take_of_length_le (by rw [size_toList]; omega)])
  obtain ⟨K, hK⟩ : ∃ K, cutK s.data.toList = K := ⟨_, rfl⟩
  rw [hK] at hkl hk CB
  obtain rfl : K = s.size := by omega
  have HG1 := Lib.hid (fun W => great_someC O n W hOs (by rw [hOl]; exact h1))
  obtain rfl : 1 = d := by rw [← hUl, rd_one] at h2; exact Option.some.inj h2
  have HVB := Lib.hid h3
  clear hd hOl hUl hOs hK hk hkl hO0 h1 h3
  go_enter Tryd.func51, Tryd.ntmps51
  go_wp2
  go_loop [4] (fun i => ∃ k : Nat, k ≤ s.size ∧ i = .int .i64 (k : Int)) (fun i => s.size - (RowKit.intOf i).toNat)
  case atStart => exact ⟨0, Nat.zero_le _, rfl⟩
  case round =>
    obtain ⟨k, hkK, rfl⟩ := hrel
    by_cases hlt : k < s.size
    · have hks : k < s.size := by omega
      have hne47 := CB.out k hlt hks
      have b1 : ((s[k].toNat : Int) == 47) = false := beq_eq_false_iff_ne.2 hne47
      have b2 : ((s[k].toNat : Int) != 47) = true := by simp [hne47]
      go_wp2
      go_round
      case rel => exact ⟨k + 1, by omega, by go_num⟩
      case measure => simp [RowKit.intOf]; omega
    · obtain rfl : k = s.size := by omega
      go_wp2_with fail
      refine (HG1.out _).mono ?_; rintro e w1 ⟨rfl, hb1⟩
      have HA := Lib.hid (HA.out.below hb1 (by simp))
      have HD := Lib.hid (HD.out.call hb1)
      clear hb1
      have hwl := HA.out.lt
      have HA0 := HA
      have HD0 := HD
      have HA := Lib.hid (HA.out.alloc (.cells #[.int .i64 n, .int .i64 1] 31))
      have HD := Lib.hid (HD.out.al (.cells #[.int .i64 n, .int .i64 1] 31))
      have HF := Lib.hid (At2.new w1 (.int .i64 n) (.int .i64 1) 31)
      go_wp2_with fail
      refine (l01FIs_any n 1 _).mono ?_; rw [HVB.out]; rintro e w3 ⟨rfl, hb3⟩
      have HA := Lib.hid (HA.out.below hb3 HA.out.lt)
      have HF := Lib.hid (HF.out.below hb3 HF.out.lt)
      have HD := Lib.hid (HD.out.call hb3)
      clear hb3
      have HB := Lib.hid HD.out.bel
      have q0 := Lib.hid (HA.out.set0 (.int .i64 0)).1
      have q1 := Lib.hid ((HA.out.set0 (.int .i64 0)).set1 (.int .i64 0)).2.1
      obtain ⟨a0, a1, a2, a3⟩ := HA.out
      obtain ⟨f0, f1, -, -⟩ := HF.out
      go_wp2
      refine bodyPost_ret (v := .tuple #[.agg #[.int .i64 0, .int .i64 0], .bool false]) (by simp [results, Tryd.results51, go_sem, q0.out, q1.out]) rfl ⟨by rw [HV.out], ?_⟩
      exact (HB.out.setCell (Nat.le_refl _) _).setCell (Nat.le_refl _) _

set_option maxHeartbeats 2000000 in
set_option maxRecDepth 100000 in
theorem specFR_miss_t (s : ByteArray) (w : World) (hs : s.size ≤ 1048576) (hd : DoorW w) (hk : ¬ cutK s.data.toList < s.data.toList.length) (n d : Int) (h1 : rd 1000000000000000000 (frO s.data.toList) = some n) (h2 : rd 1000000000000000000 (frU s.data.toList) = some d) (h3 : fracB n d = true) (h4 : ftx n d ≠ s.data.toList) :
    Calls Tryd.prog 51 #[.string s] w fun e w' => e = .returned (frV s.data.toList) ∧ Below w.heap.size w w' := by
  have HV := Lib.hid (frV_bad h1 h2 (fun h => h4 h.2))
  have HD := Lib.hid (Dw.al (w := w) ⟨hd, Below.refl _ _⟩ (.cells #[.int .i64 0, .int .i64 0] 31))
  have HA := Lib.hid (At2.new w (.int .i64 0) (.int .i64 0) 31)
  have hkl := cutK_le s.data.toList
  rw [size_toList] at hkl hk
  have CB := Lib.hid (fun k h hk => cutK_before s k h hk)
  obtain ⟨O, hO0⟩ : ∃ O : ByteArray, s = O := ⟨_, rfl⟩
  have hOl : O.data.toList = frO s.data.toList := by rw [← hO0, frO_miss (by rw [size_toList]; exact hk)]
  have hUl : ([49] : List UInt8) = frU s.data.toList := by unfold frU; rw [size_toList, if_neg hk]
  have hOs : O.size ≤ 1048576 := by rw [← hO0]; exact hs
  have hO : s.extract 0 s.size = O := by rw [← hO0]; exact bytes_ext (by rw [Lib.extract_from_zero, List.take_of_length_le (by rw [size_toList]; omega)])
  obtain ⟨K, hK⟩ : ∃ K, cutK s.data.toList = K := ⟨_, rfl⟩
  rw [hK] at hkl hk CB
  obtain rfl : K = s.size := by omega
  have HG1 := Lib.hid (fun W => great_someC O n W hOs (by rw [hOl]; exact h1))
  obtain rfl : 1 = d := by rw [← hUl, rd_one] at h2; exact Option.some.inj h2
  have HVB := Lib.hid h3
  have hne := bytes_other h4
  obtain ⟨X, hX⟩ : ∃ X : ByteArray, (⟨(ftx n 1).toArray⟩ : ByteArray) = X := ⟨_, rfl⟩
  have HT : Hid (∀ W, DoorW W → Calls Tryd.prog 49 #[.agg #[.int .i64 n, .int .i64 1]] W fun e w' => e = .returned (.string X) ∧ Below W.heap.size W w') := fun W h => by
    have := specFText n 1 W h h3
    rw [hX] at this
    exact this
  rw [hX] at hne
  have n1 := str_ne hne
  clear hd hOl hUl hOs hK hk hkl hO0 h1 h3 h4 hX hne
  go_enter Tryd.func51, Tryd.ntmps51
  go_wp2
  go_loop [4] (fun i => ∃ k : Nat, k ≤ s.size ∧ i = .int .i64 (k : Int)) (fun i => s.size - (RowKit.intOf i).toNat)
  case atStart => exact ⟨0, Nat.zero_le _, rfl⟩
  case round =>
    obtain ⟨k, hkK, rfl⟩ := hrel
    by_cases hlt : k < s.size
    · have hks : k < s.size := by omega
      have hne47 := CB.out k hlt hks
      have b1 : ((s[k].toNat : Int) == 47) = false := beq_eq_false_iff_ne.2 hne47
      have b2 : ((s[k].toNat : Int) != 47) = true := by simp [hne47]
      go_wp2
      go_round
      case rel => exact ⟨k + 1, by omega, by go_num⟩
      case measure => simp [RowKit.intOf]; omega
    · obtain rfl : k = s.size := by omega
      go_wp2_with fail
      refine (HG1.out _).mono ?_; rintro e w1 ⟨rfl, hb1⟩
      have HA := Lib.hid (HA.out.below hb1 (by simp))
      have HD := Lib.hid (HD.out.call hb1)
      clear hb1
      have hwl := HA.out.lt
      have HA0 := HA
      have HD0 := HD
      have HA := Lib.hid (HA.out.alloc (.cells #[.int .i64 n, .int .i64 1] 31))
      have HD := Lib.hid (HD.out.al (.cells #[.int .i64 n, .int .i64 1] 31))
      have HF := Lib.hid (At2.new w1 (.int .i64 n) (.int .i64 1) 31)
      go_wp2_with fail
      refine (l01FIs_any n 1 _).mono ?_; rw [HVB.out]; rintro e w3 ⟨rfl, hb3⟩
      have HA := Lib.hid (HA.out.below hb3 HA.out.lt)
      have HF := Lib.hid (HF.out.below hb3 HF.out.lt)
      have HD := Lib.hid (HD.out.call hb3)
      clear hb3
      obtain ⟨f0, f1, -, -⟩ := HF.out
      go_wp2_with fail
      refine (HT.out _ HD.out.door).mono ?_; rintro e w4 ⟨rfl, hb4⟩
      have HA := Lib.hid (HA.out.below hb4 HA.out.lt)
      have HF := Lib.hid (HF.out.below hb4 HF.out.lt)
      have HD := Lib.hid (HD.out.call hb4)
      clear hb4 f0 f1
      have HB := Lib.hid HD.out.bel
      have q0 := Lib.hid (HA.out.set0 (.int .i64 0)).1
      have q1 := Lib.hid ((HA.out.set0 (.int .i64 0)).set1 (.int .i64 0)).2.1
      obtain ⟨a0, a1, a2, a3⟩ := HA.out
      obtain ⟨f0, f1, -, -⟩ := HF.out
      go_wp2
      refine bodyPost_ret (v := .tuple #[.agg #[.int .i64 0, .int .i64 0], .bool false]) (by simp [results, Tryd.results51, go_sem, q0.out, q1.out]) rfl ⟨by rw [HV.out], ?_⟩
      exact (HB.out.setCell (Nat.le_refl _) _).setCell (Nat.le_refl _) _

set_option maxHeartbeats 2000000 in
set_option maxRecDepth 100000 in
theorem specFR_miss_y (s : ByteArray) (w : World) (hs : s.size ≤ 1048576) (hd : DoorW w) (hk : ¬ cutK s.data.toList < s.data.toList.length) (n d : Int) (h1 : rd 1000000000000000000 (frO s.data.toList) = some n) (h2 : rd 1000000000000000000 (frU s.data.toList) = some d) (h3 : fracB n d = true) (h4 : ftx n d = s.data.toList) :
    Calls Tryd.prog 51 #[.string s] w fun e w' => e = .returned (frV s.data.toList) ∧ Below w.heap.size w w' := by
  have HV := Lib.hid (frV_ok h1 h2 h3 h4)
  have HD := Lib.hid (Dw.al (w := w) ⟨hd, Below.refl _ _⟩ (.cells #[.int .i64 0, .int .i64 0] 31))
  have HA := Lib.hid (At2.new w (.int .i64 0) (.int .i64 0) 31)
  have hkl := cutK_le s.data.toList
  rw [size_toList] at hkl hk
  have CB := Lib.hid (fun k h hk => cutK_before s k h hk)
  obtain ⟨O, hO0⟩ : ∃ O : ByteArray, s = O := ⟨_, rfl⟩
  have hOl : O.data.toList = frO s.data.toList := by rw [← hO0, frO_miss (by rw [size_toList]; exact hk)]
  have hUl : ([49] : List UInt8) = frU s.data.toList := by unfold frU; rw [size_toList, if_neg hk]
  have hOs : O.size ≤ 1048576 := by rw [← hO0]; exact hs
  have hO : s.extract 0 s.size = O := by rw [← hO0]; exact bytes_ext (by rw [Lib.extract_from_zero, List.take_of_length_le (by rw [size_toList]; omega)])
  obtain ⟨K, hK⟩ : ∃ K, cutK s.data.toList = K := ⟨_, rfl⟩
  rw [hK] at hkl hk CB
  obtain rfl : K = s.size := by omega
  have HG1 := Lib.hid (fun W => great_someC O n W hOs (by rw [hOl]; exact h1))
  obtain rfl : 1 = d := by rw [← hUl, rd_one] at h2; exact Option.some.inj h2
  have HVB := Lib.hid h3
  have HT : Hid (∀ W, DoorW W → Calls Tryd.prog 49 #[.agg #[.int .i64 n, .int .i64 1]] W fun e w' => e = .returned (.string s) ∧ Below W.heap.size W w') := fun W h => by
    have := specFText n 1 W h h3
    rw [bytes_same h4] at this
    exact this
  clear hd hOl hUl hOs hK hk hkl hO0 h1 h3 h4
  go_enter Tryd.func51, Tryd.ntmps51
  go_wp2
  go_loop [4] (fun i => ∃ k : Nat, k ≤ s.size ∧ i = .int .i64 (k : Int)) (fun i => s.size - (RowKit.intOf i).toNat)
  case atStart => exact ⟨0, Nat.zero_le _, rfl⟩
  case round =>
    obtain ⟨k, hkK, rfl⟩ := hrel
    by_cases hlt : k < s.size
    · have hks : k < s.size := by omega
      have hne47 := CB.out k hlt hks
      have b1 : ((s[k].toNat : Int) == 47) = false := beq_eq_false_iff_ne.2 hne47
      have b2 : ((s[k].toNat : Int) != 47) = true := by simp [hne47]
      go_wp2
      go_round
      case rel => exact ⟨k + 1, by omega, by go_num⟩
      case measure => simp [RowKit.intOf]; omega
    · obtain rfl : k = s.size := by omega
      go_wp2_with fail
      refine (HG1.out _).mono ?_; rintro e w1 ⟨rfl, hb1⟩
      have HA := Lib.hid (HA.out.below hb1 (by simp))
      have HD := Lib.hid (HD.out.call hb1)
      clear hb1
      have hwl := HA.out.lt
      have HA0 := HA
      have HD0 := HD
      have HA := Lib.hid (HA.out.alloc (.cells #[.int .i64 n, .int .i64 1] 31))
      have HD := Lib.hid (HD.out.al (.cells #[.int .i64 n, .int .i64 1] 31))
      have HF := Lib.hid (At2.new w1 (.int .i64 n) (.int .i64 1) 31)
      go_wp2_with fail
      refine (l01FIs_any n 1 _).mono ?_; rw [HVB.out]; rintro e w3 ⟨rfl, hb3⟩
      have HA := Lib.hid (HA.out.below hb3 HA.out.lt)
      have HF := Lib.hid (HF.out.below hb3 HF.out.lt)
      have HD := Lib.hid (HD.out.call hb3)
      clear hb3
      obtain ⟨f0, f1, -, -⟩ := HF.out
      go_wp2_with fail
      refine (HT.out _ HD.out.door).mono ?_; rintro e w4 ⟨rfl, hb4⟩
      have HA := Lib.hid (HA.out.below hb4 HA.out.lt)
      have HF := Lib.hid (HF.out.below hb4 HF.out.lt)
      have HD := Lib.hid (HD.out.call hb4)
      clear hb4 f0 f1
      have HB := Lib.hid HD.out.bel
      have q0 := Lib.hid (HA.out.set0 (.int .i64 n)).1
      have q1 := Lib.hid ((HA.out.set0 (.int .i64 n)).set1 (.int .i64 1)).2.1
      obtain ⟨a0, a1, a2, a3⟩ := HA.out
      obtain ⟨f0, f1, -, -⟩ := HF.out
      go_wp2
      refine bodyPost_ret (v := .tuple #[.agg #[.int .i64 n, .int .i64 1], .bool true]) (by simp [results, Tryd.results51, go_sem, q0.out, q1.out]) rfl ⟨by rw [HV.out], ?_⟩
      exact (HB.out.setCell (Nat.le_refl _) _).setCell (Nat.le_refl _) _

theorem specFRead (s : ByteArray) (w : World) (hs : s.size ≤ 1048576) (hd : DoorW w) :
    Calls Tryd.prog 51 #[.string s] w fun e w' => e = .returned (frV s.data.toList) ∧ Below w.heap.size w w' := by
  by_cases hk : cutK s.data.toList < s.data.toList.length
  · cases h1 : rd 1000000000000000000 (frO s.data.toList) with
    | none => exact specFR_hit_o s w hs hd hk h1
    | some n =>
      cases h2 : rd 1000000000000000000 (frU s.data.toList) with
      | none => exact specFR_hit_u s w hs hd hk n h1 h2
      | some d =>
        cases h3 : fracB n d with
        | false => exact specFR_hit_v s w hs hd hk n d h1 h2 h3
        | true =>
          by_cases h4 : ftx n d = s.data.toList
          · exact specFR_hit_y s w hs hd hk n d h1 h2 h3 h4
          · exact specFR_hit_t s w hs hd hk n d h1 h2 h3 h4
  · cases h1 : rd 1000000000000000000 (frO s.data.toList) with
    | none => exact specFR_miss_o s w hs hd hk h1
    | some n =>
      cases h2 : rd 1000000000000000000 (frU s.data.toList) with
      | none => exact specFR_miss_u s w hs hd hk n h1 h2
      | some d =>
        cases h3 : fracB n d with
        | false => exact specFR_miss_v s w hs hd hk n d h1 h2 h3
        | true =>
          by_cases h4 : ftx n d = s.data.toList
          · exact specFR_miss_y s w hs hd hk n d h1 h2 h3 h4
          · exact specFR_miss_t s w hs hd hk n d h1 h2 h3 h4
theorem frV_form (l : List UInt8) : ∃ (n d : Int) (b : Bool), frV l = .tuple #[.agg #[.int .i64 n, .int .i64 d], .bool b] := by
  unfold frV
  split
  · split
    · exact ⟨_, _, _, rfl⟩
    · exact ⟨_, _, _, rfl⟩
  · exact ⟨_, _, _, rfl⟩
theorem specReadFraction (s : ByteArray) (w : World) (hs : s.size ≤ 1048576) (hd : DoorW w) :
    Calls Tryd.prog 20 #[.string s] w fun e w' => e = .returned (frV s.data.toList) ∧ Below w.heap.size w w' := by
  have HA := Lib.hid (At2.new w (.int .i64 0) (.int .i64 0) 31)
  have HS := Lib.hid (fun W (h : Dw w W) => specFRead s W hs h.door)
  obtain ⟨n, d, b, hv⟩ := frV_form s.data.toList
  rw [hv] at HS ⊢
  have HD := Lib.hid (Dw.al (w := w) ⟨hd, Below.refl _ _⟩ (.cells #[.int .i64 0, .int .i64 0] 31))
  clear hd hv
  go_enter Tryd.func20, Tryd.ntmps20
  go_wp2_with fail
  refine (HS.out _ HD.out).mono ?_; rintro e w1 ⟨rfl, hb1⟩
  have HA := Lib.hid (HA.out.below hb1 (by simp))
  have HB := Lib.hid (HD.out.call hb1).bel
  have q0 := Lib.hid (HA.out.set0 (.int .i64 n)).1
  have q1 := Lib.hid ((HA.out.set0 (.int .i64 n)).set1 (.int .i64 d)).2.1
  obtain ⟨a0, a1, a2, a3⟩ := HA.out
  clear hb1
  go_wp2
  refine bodyPost_ret (v := .tuple #[.agg #[.int .i64 n, .int .i64 d], .bool b]) (by simp [results, Tryd.results20, go_sem, q0.out, q1.out]) rfl ⟨rfl, ?_⟩
  exact (HB.out.setCell (Nat.le_refl _) _).setCell (Nat.le_refl _) _
theorem walk_FnExactReadFraction (s : ByteArray) (w : World) (_hs : s.size ≤ maxLen) (hd : DoorM w) :
    Calls Tryd.prog 6 #[.string s] w fun e w' => e = .returned (.bool true) ∧ Below w.heap.size w w' := by
  by_cases hl : (s.size : Int) ≤ 1048576
  · have HS := Lib.hid (fun W (h : Dm w W) => specReadFraction s W (by omega) h.door.e.tab)
    have HI := Lib.hid (fun W (h : Dm w W) => implFRead s W (by omega) h.door)
    obtain ⟨n, d, b, hv⟩ := frV_form s.data.toList
    rw [hv] at HS HI
    have HD := Lib.hid (show Dm w w from ⟨hd, Below.refl _ _⟩)
    clear hv hd
    go_enter Tryd.func6, Tryd.ntmps6
    go_wp2_with fail
    refine (HS.out _ HD.out).mono ?_; rintro e w1 ⟨rfl, hb1⟩
    have HF := Lib.hid (At2.new w1 (.int .i64 n) (.int .i64 d) 31)
    have HD := Lib.hid ((HD.out.call hb1).al (.cells #[.int .i64 n, .int .i64 d] 31))
    clear hb1
    go_wp2_with fail
    refine (HI.out _ HD.out).mono ?_; rintro e w2 ⟨rfl, hb2⟩
    have HF := Lib.hid ((HF.out.below hb2 (by simp)).alloc (.cells #[.int .i64 n, .int .i64 d] 31))
    have HG := Lib.hid (At2.new w2 (.int .i64 n) (.int .i64 d) 31)
    have HD := Lib.hid ((HD.out.call hb2).al (.cells #[.int .i64 n, .int .i64 d] 31))
    clear hb2
    obtain ⟨f0, f1, -, -⟩ := HF.out
    obtain ⟨g0, g1, -, -⟩ := HG.out
    go_wp2_with fail
    refine (eqFraction_same n d _).mono ?_; rintro e w3 ⟨rfl, hb3⟩
    have HB := Lib.hid (HD.out.call hb3).bel
    clear hb3
    cases b
    all_goals
      go_wp2
      go_ret
      exact ⟨rfl, HB.out⟩
  · go_enter Tryd.func6, Tryd.ntmps6
    go_wp2
    go_ret
    exact ⟨rfl, Below.refl _ _⟩
end Go.Proofs.YthigopehalkoaaaDoor
