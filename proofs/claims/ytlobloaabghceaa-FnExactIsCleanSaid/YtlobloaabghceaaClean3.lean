/- IsClean on the program's side, and its law's walk. -/
import Derived.Test.YtlobloaabghceaaClean2
import Derived.Test.YtlobloaabghceaaAre
namespace Go.Proofs.Ytlobloaabghceaa
open Go.RowKit Go.Shelf
set_option linter.unusedVariables false
set_option linter.unusedSimpArgs false

theorem pulV_one (n : Int) (us ds : List Int) : ∀ u ∈ pulV n us ds, u.oneCell' = true := by rw [pulV_flat]; exact flatP_one _
theorem name_calls {P : Program} {f : FuncId} {args : Array Value} {Q : Ending → World → Prop} (W0 : World) (F : World → Prop) (h0 : F W0) (k : ∀ W, F W → Calls P f args W Q) : Calls P f args W0 Q := k W0 h0
set_option maxHeartbeats 4000000 in
set_option maxRecDepth 100000 in
theorem implClean (s a b : ByteArray) (w : World) (hs : s.size ≤ 400) (hw : waveB s.data.toList = true) (hwa : waveB a.data.toList = true) (hwb : waveB b.data.toList = true) (ha : a.size = s.size) (hb : b.size = s.size) :
    Calls Try.prog 8 #[.string s, .string a, .string b] w fun e w' => e = .returned (.bool (cleanV s a b)) ∧ Below w.heap.size w w' := by
  have HA : Hid (are3B s a b = true) := (are3B_iff s a b).2 ⟨hw, hwa, ha, hwb, hb⟩
  have HFA : Hid (∀ w, Calls Try.prog 27 #[.string a] w fun e W' => ∃ v, e = .returned v ∧ PulR W' w.heap.size v (a.size : Int) (usL a) (dsL a) ∧ Below w.heap.size w W') := fun w => callsIn_wide.1 (pulsesIn_in 3 (Nat.le_refl _) a w (by omega) (wave_all hwa))
  have HFB : Hid (∀ w, Calls Try.prog 27 #[.string b] w fun e W' => ∃ v, e = .returned v ∧ PulR W' w.heap.size v (b.size : Int) (usL b) (dsL b) ∧ Below w.heap.size w W') := fun w => callsIn_wide.1 (pulsesIn_in 3 (Nat.le_refl _) b w (by omega) (wave_all hwb))
  have HFS : Hid (∀ w, Calls Try.prog 27 #[.string s] w fun e W' => ∃ v, e = .returned v ∧ PulR W' w.heap.size v (s.size : Int) (usL s) (dsL s) ∧ Below w.heap.size w W') := fun w => callsIn_wide.1 (pulsesIn_in 3 (Nat.le_refl _) s w hs (wave_all hw))
  have la : (usL a).length ≤ 400 := Nat.le_trans (edgesL_len _ _ _) (by omega)
  have lb : (usL b).length ≤ 400 := Nat.le_trans (edgesL_len _ _ _) (by omega)
  have ls : (usL s).length ≤ 400 := Nat.le_trans (edgesL_len _ _ _) hs
  have m1 : s.size ≤ maxLen := by unfold maxLen; omega
  have m2 : a.size ≤ maxLen := by unfold maxLen; omega
  have m3 : b.size ≤ maxLen := by unfold maxLen; omega
  have pa : pulS a = pulT (a.size : Int) (usL a) (dsL a) := rfl
  have pb : pulS b = pulT (b.size : Int) (usL b) (dsL b) := rfl
  have ps : pulS s = pulT (s.size : Int) (usL s) (dsL s) := rfl
  have HV : Hid (cleanV s a b = !((pulS s).any fun p => !((pulS a ++ pulS b).any (matP p)))) := rfl
  obtain ⟨r, hr⟩ : ∃ r, cleanV s a b = r := ⟨_, rfl⟩
  rw [hr] at HV ⊢
  clear hr hw hwa hwb
  go_enter Try.func8, Try.ntmps8
  go_wp2_with fail
  refine (are3_any _ _ s a b _ m1 m2 m3 (by simp) (by simp [go_sem]) (by simp [go_sem]) (by simp [go_sem])).mono ?_
  rw [HA.out]
  rintro e w1 ⟨rfl, b1⟩
  have HB1 := Lib.hid (((Below.refl w.heap.size w).alloc (Nat.le_refl _) (.cells #[.string s, .string a, .string b] 9)).trans (b1.mono (by simp)))
  clear b1
  go_wp2_with fail
  refine (HFA.out _).mono ?_; rintro e w2 ⟨v1, rfl, i1, b2⟩
  obtain ⟨a1, cap1, rfl⟩ := i1.form
  have HB2 := Lib.hid (HB1.out.trans (b2.mono HB1.out.size))
  clear b2
  go_wp2_with fail
  refine (HFB.out _).mono ?_; rintro e w3 ⟨v2, rfl, i2, b3⟩
  obtain ⟨a2, cap2, rfl⟩ := i2.form
  have HB3 := Lib.hid (HB2.out.trans (b3.mono HB2.out.size))
  have CA : CatVP w3 (.slice a1 (usL a).length cap1) (usL a).length (pulV (a.size : Int) (usL a) (dsL a)) := CatVP.own (i1.keep b3 (Nat.le_refl _)) (pulV_one _ _ _)
  have CB : CatVP w3 (.slice a2 (usL b).length cap2) (usL b).length (pulV (b.size : Int) (usL b) (dsL b)) := CatVP.own i2 (pulV_one _ _ _)
  have HCA := Lib.hid CA
  have HCB := Lib.hid CB
  clear b3 CA CB i1 i2
  go_wp2_with fail
  refine (concatP w3.heap.size _ _ _ _ _ _ _ (by simp) (by simp [go_sem]) (by simp [go_sem]) (HCA.out.keep ((Below.refl _ _).alloc (Nat.le_refl _) _)) (HCB.out.keep ((Below.refl _ _).alloc (Nat.le_refl _) _)) (by omega) (by omega)).mono ?_
  rintro e w4 ⟨v3, rfl, o3, b4⟩
  obtain ⟨a3, c3, rfl, -⟩ := own_sliceP o3
  have HP3 : Hid (PulAt w4 a3 (pulS a ++ pulS b)) := by
    rw [pulV_flat, pulV_flat, ← pa, ← pb, show flatP (pulS a) ++ flatP (pulS b) = flatP (pulS a ++ pulS b) from by unfold flatP; rw [List.flatMap_append]] at o3
    exact flatP_pulAt o3 (by rw [List.length_append, pa, pb, pulT_len, pulT_len])
  have HB4 := Lib.hid ((HB3.out.alloc HB3.out.size _).trans (b4.mono (by have := HB3.out.size; simp; omega)))
  clear b4 o3
  go_wp2_with fail
  refine name_calls _ (fun W => W.cell? ⟨w4.heap.size, 0, none⟩ = some (.slice a3 ((usL a).length + (usL b).length) c3) ∧ Below w4.heap.size w4 W ∧ w4.heap.size < W.heap.size) ⟨by simp [go_sem], (Below.refl _ _).alloc (Nat.le_refl _) _, by simp⟩ ?_
  rintro W5 ⟨c5, b5, z5⟩
  have HP5 := Lib.hid (HP3.out.keep b5)
  have HB5 := Lib.hid (HB4.out.trans (b5.mono HB4.out.size))
  refine (HFS.out _).mono ?_; rintro e w6 ⟨v5, rfl, i5, b6⟩
  obtain ⟨a5, cap5, rfl⟩ := i5.form
  have c6 := (b6.cell (p := ⟨w4.heap.size, 0, none⟩) z5).trans c5
  have HP6 := Lib.hid (HP5.out.keep b6)
  have HB6 := Lib.hid (HB5.out.trans (b6.mono HB5.out.size))
  have z6 := b6.size
  have HS6 : Hid (PulAt w6 a5 (pulS s)) := i5.pulAt
  clear b5 b6 c5 i5
  go_wp2_with fail
  refine (conPul 29 #[] #[.pointer (some ⟨w4.heap.size, 0, none⟩)] (fun p => !((pulS a ++ pulS b).any (matP p))) (enters_of Try.func29 (by kernel_rfl) rfl) _ _ _ (pulS s) _ (fun W x hbW => ?hp) (by rw [ps, pulT_len]) (by omega) HS6.out).mono ?_
  case hp =>
    refine (cleanCl w4.heap.size a3 _ c3 (pulS a ++ pulS b) x W ((hbW.cell (p := ⟨w4.heap.size, 0, none⟩) (show w4.heap.size < w6.heap.size by omega)).trans c6) (by have := hbW.size; omega) (by rw [List.length_append, pa, pb, pulT_len, pulT_len]) (by omega) (HP6.out.keep hbW)).mono ?_
    exact fun e w' h => ⟨h.1, hbW.trans (h.2.mono hbW.size)⟩
  rintro e w7 ⟨rfl, b7⟩
  go_wp2
  go_ret
  exact ⟨ret_bool (by rw [HV.out, ps, pa, pb]; simp [ha, hb]), HB6.out.trans (b7.mono HB6.out.size)⟩
set_option maxHeartbeats 1000000 in
theorem implClean_f (s a b : ByteArray) (w : World) (m1 : s.size ≤ maxLen) (m2 : a.size ≤ maxLen) (m3 : b.size ≤ maxLen) (h : are3B s a b = false) :
    Calls Try.prog 8 #[.string s, .string a, .string b] w fun e w' => e = .returned (.bool false) ∧ Below w.heap.size w w' := by
  have HA := Lib.hid h
  clear h
  go_enter Try.func8, Try.ntmps8
  go_wp2_with fail
  refine (are3_any _ _ s a b _ m1 m2 m3 (by simp) (by simp [go_sem]) (by simp [go_sem]) (by simp [go_sem])).mono ?_
  rw [HA.out]
  rintro e w1 ⟨rfl, b1⟩
  have HB1 := Lib.hid (((Below.refl w.heap.size w).alloc (Nat.le_refl _) (.cells #[.string s, .string a, .string b] 9)).trans (b1.mono (by simp)))
  clear b1
  go_wp2
  go_ret
  exact ⟨rfl, HB1.out⟩
set_option maxHeartbeats 1000000 in
theorem specIs_t (s a b : ByteArray) (r : Bool) (w : World) (m1 : s.size ≤ maxLen) (m2 : a.size ≤ maxLen) (m3 : b.size ≤ maxLen) (h : are3B s a b = true)
    (hC : ∀ w, Calls Try.prog 24 #[.string s, .string a, .string b] w fun e w' => e = .returned (.bool r) ∧ Below w.heap.size w w') :
    Calls Try.prog 7 #[.string s, .string a, .string b] w fun e w' => e = .returned (.bool r) ∧ Below w.heap.size w w' := by
  rw [← l7B_are3] at h
  have HA := Lib.hid h
  have HC := Lib.hid hC
  clear h hC
  go_enter Try.func7, Try.ntmps7
  go_wp2_with fail
  refine (l07Three_any s a b _ m1 m2 m3).mono ?_
  rw [HA.out]
  rintro e w1 ⟨rfl, rfl⟩
  go_wp2_with fail
  refine (HC.out _).mono ?_
  rintro e w1 ⟨rfl, b1⟩
  go_wp2
  go_ret
  exact ⟨rfl, b1⟩
set_option maxHeartbeats 1000000 in
theorem specIs_f (s a b : ByteArray) (w : World) (m1 : s.size ≤ maxLen) (m2 : a.size ≤ maxLen) (m3 : b.size ≤ maxLen) (h : are3B s a b = false) :
    Calls Try.prog 7 #[.string s, .string a, .string b] w fun e w' => e = .returned (.bool false) ∧ Below w.heap.size w w' := by
  rw [← l7B_are3] at h
  have HA := Lib.hid h
  clear h
  go_enter Try.func7, Try.ntmps7
  go_wp2_with fail
  refine (l07Three_any s a b _ m1 m2 m3).mono ?_
  rw [HA.out]
  rintro e w1 ⟨rfl, rfl⟩
  go_wp2
  go_ret
  exact ⟨rfl, Below.refl _ _⟩
end Go.Proofs.Ytlobloaabghceaa
