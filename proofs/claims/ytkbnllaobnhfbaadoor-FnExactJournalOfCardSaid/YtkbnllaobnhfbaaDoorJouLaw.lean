/- The walk of a law: the journal of lines is the same on both sides. -/
import Derived.Test.YtkbnllaobnhfbaaDoorJouI
namespace Go.Proofs.YtkbnllaobnhfbaaDoor
open Go.RowKit
set_option linter.unusedVariables false
set_option linter.unusedSimpArgs false
def SzOk (l : List ByteArray) (n : Nat) (c : Int) : Prop := (n : Int) ≤ c ∧ ∀ k (hk : k < l.length), (l[k].size : Int) ≤ c
set_option maxHeartbeats 1000000 in
theorem szStringS_all (a : Option Addr) (n cap : Nat) (l : List ByteArray) (c : Int) (w : World) (hn : n = l.length) (h : SRow w a l) (hc : 0 ≤ c) (hc2 : c ≤ 1048576) (hm : n ≤ 9223372036854775807) (hs : ∀ k (hk : k < l.length), l[k].size ≤ maxLen) :
    Calls Tryd.prog 16 #[.slice a n cap, .int .i64 c] w fun e w' => ∃ r : Int, e = .returned (.int .i64 r) ∧ (r = -1 ∨ (0 ≤ r ∧ r ≤ c ∧ SzOk l n c)) ∧ w = w' := by
  have HN := Lib.hid hn
  have HA := Lib.hid h
  have HS := Lib.hid hs
  clear hn h hs
  have wr0 : IntKind.i64.wrap (c - (n : Int)) = c - (n : Int) := IntWalk.i64_in _ (by omega)
  go_enter Tryd.func16, Tryd.ntmps16
  by_cases hnc : (n : Int) ≤ c
  · have t0 : decide (c - (n : Int) < 0) = false := decide_eq_false (by omega)
    have t1 : ¬ c - (n : Int) < 0 := by omega
    go_wp2
    go_loop [1, 5] (fun r i => ∃ (k : Nat) (q : Int), k ≤ n ∧ i = .int .i64 (k : Int) ∧ r = .int .i64 q ∧ 0 ≤ q ∧ q ≤ c ∧ Hid (∀ j (hj : j < l.length), j < k → (l[j].size : Int) ≤ c)) (fun _ i => n - (intOf i).toNat)
    case atStart => exact ⟨0, c - (n : Int), Nat.zero_le _, rfl, rfl, by omega, by omega, fun j _ hj => by omega⟩
    case round =>
      obtain ⟨k, q, hk, rfl, rfl, hq0, hqc, HP⟩ := hrel
      by_cases hlt : k < n
      · have hkl : k < l.length := by have := HN.out; omega
        obtain ⟨b, off, rfl, hbl, hcell⟩ := HA.out.at k hkl
        have hsz := HS.out k hkl
        unfold maxLen at hsz
        obtain ⟨y, hy⟩ : ∃ y, l[k] = y := ⟨_, rfl⟩
        rw [hy] at hcell hsz
        have HY := Lib.hid hy
        clear hy
        have wr1 : IntKind.i64.wrap (q - (y.size : Int)) = q - (y.size : Int) := IntWalk.i64_in _ (by omega)
        by_cases hneg : q - (y.size : Int) < 0
        · have t2 : decide (q - (y.size : Int) < 0) = true := decide_eq_true hneg
          go_wp2
          go_ret
          exact ⟨_, rfl, .inl rfl, rfl⟩
        · have t2 : decide (q - (y.size : Int) < 0) = false := decide_eq_false hneg
          have HP2 : Hid (∀ j (hj : j < l.length), j < k + 1 → (l[j].size : Int) ≤ c) := fun j hj h => by
            by_cases e : j = k
            · subst e
              have := HY.out
              rw [this]; omega
            · exact HP.out j hj (by omega)
          go_wp2
          go_round
          case rel => exact ⟨k + 1, _, by omega, by go_num, rfl, by omega, by omega, HP2⟩
          case measure => simp [intOf]; omega
      · obtain rfl : k = n := by omega
        have HE : SzOk l k c := ⟨hnc, fun j hj => HP.out j hj (by have := HN.out; omega)⟩
        go_wp2
        go_ret
        exact ⟨q, rfl, .inr ⟨hq0, hqc⟩, rfl⟩
  · have t0 : decide (c - (n : Int) < 0) = true := decide_eq_true (by omega)
    have t1 : c - (n : Int) < 0 := by omega
    go_wp2
    go_ret
    exact ⟨_, rfl, .inl rfl, rfl⟩
set_option maxHeartbeats 8000000 in
set_option maxRecDepth 100000 in
theorem walk_FnExactJournalOf (a : Option Addr) (n cap : Nat) (ls : List ByteArray) (w : World) (hn : n = ls.length) (hr : SRow w a ls) (hm : n ≤ maxLen) (hs : ∀ k (hk : k < ls.length), ls[k].size ≤ maxLen) (hd : DoorW w) :
    Calls Tryd.prog 5 #[.slice a n cap] w fun e w' => e = .returned (.bool true) ∧ Below w.heap.size w w' := by
  have HN := Lib.hid hn
  have HA := Lib.hid hr
  have HM := Lib.hid hm
  have HD := Lib.hid hd
  have HS := Lib.hid (szStringS_all a n cap ls 1048576 w hn hr (by omega) (by omega) (by unfold maxLen at hm; omega) hs)
  clear hn hr hm hs hd
  go_enter Tryd.func5, Tryd.ntmps5
  go_wp2_with fail
  refine HS.out.mono ?_
  rintro e w' ⟨left, rfl, hr, rfl⟩
  rcases hr with rfl | ⟨r0, r1, HB⟩
  · go_wp2
    go_ret
    exact ⟨rfl, Below.refl _ _⟩
  · have hl0 : ¬ left < 0 := by omega
    have hl1 : decide (left < 0) = false := decide_eq_false hl0
    have hn1 : n ≤ 1048576 := by have := HB.1; omega
    have HSZ : Hid (∀ k (hk : k < ls.length), ls[k].size ≤ 1048576) := fun k hk => by have := HB.2 k hk; omega
    obtain ⟨r, hr⟩ : ∃ r, ansJ ls = r := ⟨_, rfl⟩
    obtain ⟨c, hc⟩ : ∃ c, okJ ls = c := ⟨_, rfl⟩
    have HSP := Lib.hid (fun a cap w (h : SRow w a ls) => specJournal a n cap ls w HN.out h hn1 HSZ.out)
    have HIM := Lib.hid (fun a cap w (h : SRow w a ls) (hd : DoorW w) => implJournal a n cap ls w HN.out h hn1 HSZ.out hd)
    rw [hr, hc] at HSP HIM
    have HTS := Lib.hid (fun W (b : Below w.heap.size w W) => toStringS_any a n cap ls W HN.out (HA.out.keep b (Nat.le_refl _)) hn1)
    clear hr hc r0 r1
    go_wp2_with fail
    refine (HTS.out w (Below.refl _ _)).mono ?_; rintro e w1 ⟨rfl, h1, hb1⟩
    have HB1 := Lib.hid hb1
    have HR1 := Lib.hid h1.row.1
    clear h1 hb1
    go_wp2_with fail
    refine (HSP.out _ _ _ HR1.out).mono ?_; rintro e w2 ⟨rfl, hb2⟩
    have HB2 := Lib.hid (HB1.out.trans (hb2.mono HB1.out.size))
    clear hb2
    go_wp2_with fail
    refine (HTS.out w2 HB2.out).mono ?_; rintro e w3 ⟨rfl, h3, hb3⟩
    have HB3 := Lib.hid (HB2.out.trans (hb3.mono HB2.out.size))
    have HR3 := Lib.hid h3.row.1
    clear h3 hb3
    go_wp2_with fail
    refine (HIM.out _ _ _ HR3.out (HD.out.on HB3.out)).mono ?_; rintro e w4 ⟨rfl, hb4⟩
    have HB4 := Lib.hid (HB3.out.trans (hb4.mono HB3.out.size))
    have HR4 := Lib.hid (HR3.out.keep hb4 (Nat.le_refl _))
    clear hb4
    go_wp2_with fail
    refine (HTS.out w4 HB4.out).mono ?_; rintro e w5 ⟨rfl, h5, hb5⟩
    have HB5 := Lib.hid (HB4.out.trans (hb5.mono HB4.out.size))
    have HR5 := Lib.hid h5.row.1
    have HR6 := Lib.hid (HR4.out.keep hb5 (Nat.le_refl _))
    clear h5 hb5
    go_wp2_with fail
    refine (eqStringS_same _ _ n _ _ ls w5 HN.out HM.out HR6.out HR5.out).mono ?_; rintro e w' ⟨rfl, q, rfl⟩
    go_wp2
    go_ret
    exact ⟨rfl, below_dr HB5.out q⟩
end Go.Proofs.YtkbnllaobnhfbaaDoor
