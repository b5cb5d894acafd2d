/- The walk of a law: what a journal's beginning holds is the same on both sides, and is its caller's own. -/
import Derived.Test.YtkbnllaobnhfbaaDoorRecI
import Derived.Test.YtkbnllaobnhfbaaDoorMark
namespace Go.Proofs.YtkbnllaobnhfbaaDoor
open Go.RowKit
set_option linter.unusedVariables false
set_option linter.unusedSimpArgs false
theorem recM_len : ∀ (c : Int) (W : List (List UInt8)), (recM c W).1.length ≤ W.length
  | _, [] => by simp [recM]
  | c, p :: ps => by
    by_cases h : okLine c p = true
    · rw [rec_yes h]
      have := recM_len (checkL c (p.drop (cutK 32 p + 1))) ps
      simp; omega
    · rw [rec_no (by simpa using h)]; simp
theorem recM_snd : ∀ (c : Int) (W : List (List UInt8)), (∀ p ∈ W, p.length ≤ 4000) → (recM c W).2 ≤ W.length * 4001
  | _, [], _ => by simp [recM]
  | c, p :: ps, hp => by
    by_cases h : okLine c p = true
    · rw [rec_yes h]
      have h1 := recM_snd (checkL c (p.drop (cutK 32 p + 1))) ps (fun q hq => hp q (by simp [hq]))
      have h2 := hp p (by simp)
      simp only [List.length_cons, Nat.add_mul, Nat.one_mul]; omega
    · rw [rec_no (by simpa using h)]; simp
set_option maxHeartbeats 16000000 in
set_option maxRecDepth 100000 in
theorem walk_FnExactRecoverJournal (s : ByteArray) (w : World) (hs : s.size ≤ maxLen) (mx : Int) (hmx : w.cell? ⟨1, 0, none⟩ = some (.int .i64 mx)) (hd : DoorW w) :
    Calls Tryd.prog 6 #[.string s] w fun e w' => e = .returned (.bool true) ∧ Below w.heap.size w w' := by
  unfold maxLen at hs
  by_cases hbig : 1048576 < s.size
  · have t1 : (1048576 : Int) < (s.size : Int) := by omega
    clear hd hmx
    go_enter Tryd.func6, Tryd.ntmps6
    go_wp2
    go_ret
    exact ⟨rfl, Below.refl _ _⟩
  · have HD := Lib.hid hd
    have HMX : Hid (∀ W, Below w.heap.size w W → W.cell? ⟨1, 0, none⟩ = some (.int .i64 mx)) := fun W h => (h.cell (p := ⟨1, 0, none⟩) (World.block_lt_of_cell? w _ hmx)).trans hmx
    obtain ⟨L, r, c, hL, hr, hS, hI⟩ : ∃ (L : List ByteArray) (r : Nat) (c : Bool), L.length ≤ 4001 ∧ r ≤ 100000000 ∧ (∀ W, Below w.heap.size w W → Calls Tryd.prog 21 #[.string s] W fun e w' => ∃ v, e = .returned (.tuple #[v, .int .i64 (r : Int), .bool c]) ∧ Strs w' W.heap.size v L ∧ Below W.heap.size W w') ∧ (∀ W, Below w.heap.size w W → Calls Tryd.prog 22 #[.string s] W fun e w' => ∃ v, e = .returned (.tuple #[v, .int .i64 (r : Int), .bool c]) ∧ Strs w' W.heap.size v L ∧ Below W.heap.size W w') := by
      by_cases h4 : s.size ≤ 4000
      · have hwl : (wholeL s.data.toList).length ≤ 4001 := by
          have := cutAll_len s.data.toList
          unfold wholeL; rw [List.length_dropLast]; rw [show s.data.toList.length = s.size by simp] at this; omega
        refine ⟨Bs (recM 0 (wholeL s.data.toList)).1, (recM 0 (wholeL s.data.toList)).2, true, ?_, ?_, fun W b => specRec s W h4, fun W b => implRec s W h4 (HD.out.on b) mx (HMX.out W b)⟩
        · rw [Bs_len]
          exact Nat.le_trans (recM_len 0 _) hwl
        · have h5 := recM_snd 0 (wholeL s.data.toList) (fun p hp => by
            obtain ⟨k, hk, rfl⟩ := List.mem_iff_getElem.1 hp
            have := whole_mem_len s.data.toList k hk
            rw [show s.data.toList.length = s.size by simp] at this; omega)
          omega
      · refine ⟨[], 0, false, by simp, by omega, fun W b => ?_, fun W b => ?_⟩
        · refine (specRec_big s W (by omega) (by omega)).mono ?_; rintro e w' ⟨rfl, rfl⟩
          exact ⟨_, rfl, Strs.nil _ _, Below.refl _ _⟩
        · refine (implRec_big s W (by omega) (by omega)).mono ?_; rintro e w' ⟨rfl, rfl⟩
          exact ⟨_, rfl, Strs.nil _ _, Below.refl _ _⟩
    have HS := Lib.hid hS
    have HI := Lib.hid hI
    have t1 : ¬ (1048576 : Int) < (s.size : Int) := by omega
    have hcc : (c != c) = false := by cases c <;> rfl
    clear hS hI hd hmx hbig
    go_enter Tryd.func6, Tryd.ntmps6
    go_wp2_with fail
    refine (HS.out w (Below.refl _ _)).mono ?_; rintro e w1 ⟨vs, rfl, hs1, hb1⟩
    have HB1 := Lib.hid hb1
    obtain ⟨asx, csx, rfl, -, -⟩ := hs1.form
    have HRS := Lib.hid hs1.row.1
    clear hs1 hb1
    go_wp2_with fail
    refine (HI.out w1 HB1.out).mono ?_; rintro e w2 ⟨vi, rfl, hs2, hb2⟩
    have HB2 := Lib.hid (HB1.out.trans (hb2.mono HB1.out.size))
    have HB12 := Lib.hid hb2
    obtain ⟨ai, ci, rfl, -, -⟩ := hs2.form
    have HS2 := Lib.hid hs2
    have HR2 := Lib.hid hs2.row.1
    have HRS2 := Lib.hid (HRS.out.keep hb2 (Nat.le_refl _))
    have hw12 := hb2.size
    clear hs2 hb2
    go_wp2_with fail
    refine (eqStringS_same _ _ L.length _ _ L w2 rfl (by unfold maxLen; omega) HR2.out HRS2.out).mono ?_; rintro e w3 ⟨rfl, q, hq⟩
    have HB13 : Hid (Below w1.heap.size w1 w3) := by rw [hq]; exact below_dr HB12.out q
    have HS3 : Hid (Strs w3 w1.heap.size (.slice ai L.length ci) L) := by rw [hq]; exact HS2.out.keep (below_dr (Below.refl _ _) q) (Nat.le_refl _)
    have hsz3 : w1.heap.size ≤ w3.heap.size := HB13.out.size
    clear hq
    go_wp2_with fail
    refine (markStr w1.heap.size _ L 1 w3 HS3.out hsz3 (by omega) (by omega)).mono ?_; rintro e w4 ⟨rfl, hs4, hb4⟩
    have HB14 := Lib.hid (HB13.out.trans hb4)
    have HS4 := Lib.hid hs4
    clear hs4 hb4
    obtain ⟨m, hm⟩ : ∃ m, 1 + L.length = m := ⟨_, rfl⟩
    have HHE := Lib.hid (fun W (h : Strs W w1.heap.size (.slice ai L.length ci) (mtL 1 L.length)) => heldStr w1.heap.size _ L.length 1 W h (by omega) (by omega))
    rw [hm] at HHE ⊢
    have hmb : m ≤ 10000 := by omega
    have hm0 : ¬ (m : Int) < 0 := by omega
    clear hm
    go_wp2_with fail
    refine (HHE.out _ HS4.out).mono ?_; rintro e w5 ⟨rfl, hb5⟩
    have HB15 := Lib.hid (HB14.out.trans (hb5.mono HB14.out.size))
    have HS5 := Lib.hid (HS4.out.keep hb5 (Nat.le_refl _))
    clear hb5
    have HB5 := Lib.hid (HB1.out.trans (HB15.out.mono HB1.out.size))
    go_wp2_with fail
    refine (HI.out w5 HB5.out).mono ?_; rintro e w6 ⟨vh, rfl, hs6, hb6⟩
    obtain ⟨ah, ch, rfl, -, -⟩ := hs6.form
    have HR6 := Lib.hid hs6.row.1
    have HB16 := Lib.hid (HB15.out.trans (hb6.mono HB15.out.size))
    have HRS6 := Lib.hid (HRS.out.keep HB16.out (Nat.le_refl _))
    have HS6 := Lib.hid (HS5.out.keep hb6 (Nat.le_refl _))
    clear hs6 hb6
    go_wp2_with fail
    refine (eqStringS_same _ _ L.length _ _ L w6 rfl (by unfold maxLen; omega) HR6.out HRS6.out).mono ?_; rintro e w7 ⟨rfl, q, hq⟩
    have HB17 : Hid (Below w1.heap.size w1 w7) := by rw [hq]; exact below_dr HB16.out q
    have HS7 : Hid (Strs w7 w1.heap.size (.slice ai L.length ci) (mtL 1 L.length)) := by rw [hq]; exact HS6.out.keep (below_dr (Below.refl _ _) q) (Nat.le_refl _)
    clear hq
    go_wp2_with fail
    refine (HHE.out _ HS7.out).mono ?_; rintro e w8 ⟨rfl, hb8⟩
    have HB18 := Lib.hid (HB17.out.trans (hb8.mono HB17.out.size))
    clear hb8
    go_wp2
    go_ret
    exact ⟨rfl, HB1.out.trans (HB18.out.mono HB1.out.size)⟩
end Go.Proofs.YtkbnllaobnhfbaaDoor
