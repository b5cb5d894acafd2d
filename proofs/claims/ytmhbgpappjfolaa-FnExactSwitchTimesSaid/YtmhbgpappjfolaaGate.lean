/- A gated wave: both sides, and the law's walk. -/
import Derived.Test.YtmhbgpappjfolaaSw1
namespace Go.Proofs.Ytmhbgpappjfolaa
open Go.RowKit Go.Shelf
set_option linter.unusedVariables false

theorem l07Level_t (w : World) : Calls Try.prog 76 #[.bool true] w fun e w' => e = .returned (.int .u8 49) ∧ w = w' := by
  go_enter Try.func76, Try.ntmps76
  go_wp2
  go_ret
  exact ⟨rfl, rfl⟩
theorem l07Level_f (w : World) : Calls Try.prog 76 #[.bool false] w fun e w' => e = .returned (.int .u8 48) ∧ w = w' := by
  go_enter Try.func76, Try.ntmps76
  go_wp2
  go_ret
  exact ⟨rfl, rfl⟩
theorem pre1 (s : ByteArray) : Lib.hasPrefix s.data.toList [49] = bit s 0 := by
  unfold bit
  cases s.data.toList with
  | nil => rfl
  | cons x xs =>
    have : ((x.toNat : Int) == 49) = (x == 49) := by
      rw [Bool.eq_iff_iff]; simp
      constructor
      · intro h; apply UInt8.toNat_inj.1; simpa using (by omega : x.toNat = 49)
      · rintro rfl; rfl
    simp only [List.getD_cons_zero, this]
    unfold Lib.hasPrefix
    simp [List.isPrefixOf, Bool.beq_comm]
theorem cell_set_same' {w : World} {p : Addr} {v u : Value} (h : w.cell? p = some v) : (w.setCell p u).cell? p = some u := by
  exact World.cell?_setCell_same w p u h
theorem stay_set {w : World} {B p o : Nat} (u : Value) (h : p < B) : Stay B w (w.setCell ⟨p, o, none⟩ u) := by
  refine ⟨by simp, fun k hk hlt => ?_⟩
  exact Below.heap_setCell _ _ _ _ (by show k ≠ p; omega)
/-- what a gate does at a tick -/
theorem pass_any (p : Nat) (g x y : Bool) (w : World) (hc : w.cell? ⟨p, 0, none⟩ = some (.bool g)) (hf : w.frozen? ⟨p, 0, none⟩ = false) :
    Calls Try.prog 78 #[.pointer (some ⟨p, 0, none⟩), .bool x, .bool y] w fun e w' => e = .returned (.bool (x && (if x then g else y))) ∧ w' = (if x then w else w.setCell ⟨p, 0, none⟩ (.bool y)) := by
  cases x <;> cases g <;> cases y
  all_goals
    go_enter Try.func78, Try.ntmps78
    go_wp2
    go_ret
    exact ⟨rfl, rfl⟩
theorem gst_succ (w e : ByteArray) (k : Nat) : gst w e (k + 1) = if bit w k then gst w e k else bit e k := rfl
set_option maxHeartbeats 2000000 in
set_option maxRecDepth 100000 in
theorem implGate_t (a b : ByteArray) (w : World) (hs : a.size ≤ maxLen) (hs' : b.size ≤ maxLen) (h : are2B a b = true) :
    Calls Try.prog 43 #[.string a, .string b] w fun e w' => e = .returned (.tuple #[.string (outS (gateF a b) a.size), .bool true]) ∧ Below w.heap.size w w' := by
  obtain ⟨h1, h2, h4⟩ := (are2B_iff a b).1 h
  have h400 := wave_le h1
  have hle := Nat.le_of_eq h4.symm
  have HA := Lib.hid h
  have HP := Lib.hid (pre1 b)
  clear h h1 h2 h4
  go_enter Try.func43, Try.ntmps43
  go_wp2_with fail
  refine (are2_any _ _ a b _ hs hs' (by simp) (by simp [go_sem]) (by simp [go_sem])).mono ?_
  rw [HA.out]
  rintro e w1 ⟨rfl, b1⟩
  have HB1 := Lib.hid (((Below.refl w.heap.size w).alloc (Nat.le_refl _) (.cells #[.string a, .string b] 9)).trans (b1.mono (by simp)))
  clear b1
  have hz1 := HB1.out.size
  go_wp2_with fail
  refine (Try.strings_HasPrefix _ _ _).mono ?_
  rintro e w' ⟨rfl, hw'⟩
  obtain rfl : w1 = w' := hw'.symm
  have HPP : Hid (Lib.hasPrefix b.data.toList (ByteArray.mk #[49]).data.toList = bit b 0) := HP.out
  rw [HPP.out]
  obtain ⟨y0, hy0⟩ : ∃ y, bit b 0 = y := ⟨_, rfl⟩
  rw [hy0]
  obtain ⟨w2, hw2⟩ : ∃ w2, w1.alloc (.cells #[.bool y0] 104) = w2 := ⟨_, rfl⟩
  have hb2 : Below w.heap.size w w2 := by rw [← hw2]; exact HB1.out.alloc hz1 _
  have hsz2 : w1.heap.size < w2.heap.size := by rw [← hw2]; simp
  have hc2 : w2.cell? ⟨w1.heap.size, 0, none⟩ = some (.bool (gst a b 0)) := by rw [← hw2, show gst a b 0 = y0 from hy0]; simp [go_sem]
  have hf2 : w2.frozen? ⟨w1.heap.size, 0, none⟩ = false := by rw [← hw2]; simp [go_sem]
  have HG := Lib.hid (joined_any a b 78 #[.pointer (some ⟨w1.heap.size, 0, none⟩)] #[] (enters_of Try.func78 (by kernel_rfl) rfl) (gateF a b) (fun k W => W.cell? ⟨w1.heap.size, 0, none⟩ = some (.bool (gst a b k)) ∧ W.frozen? ⟨w1.heap.size, 0, none⟩ = false) w1.heap.size w2 hle h400 (Nat.le_of_lt hsz2)
    (fun k W hk hW hJ => (show Calls Try.prog 78 #[.pointer (some ⟨w1.heap.size, 0, none⟩), .bool (bit a k), .bool (bit b k)] W _ from (pass_any w1.heap.size (gst a b k) (bit a k) (bit b k) W hJ.1 hJ.2).mono (fun e w' h => by
      obtain ⟨rfl, rfl⟩ := h
      refine ⟨by unfold gateF; rw [gst_succ], ?_⟩
      rw [gst_succ]
      cases bit a k with
      | true => exact ⟨by simpa using hJ, Below.refl _ _, Stay.refl _ _⟩
      | false =>
        refine ⟨⟨?_, ?_⟩, ?_, ?_⟩
        · exact cell_set_same' hJ.1
        · simpa using hJ.2
        · exact (Below.refl w1.heap.size W).setCell (p := ⟨w1.heap.size, 0, none⟩) (Nat.le_refl _) _
        · exact stay_set _ (by show w1.heap.size < _; exact hsz2))))
    (fun k W W' hJ hb => ⟨(hb.cell (p := ⟨w1.heap.size, 0, none⟩) hsz2).trans hJ.1, (hb.frozen (p := ⟨w1.heap.size, 0, none⟩) hsz2).trans hJ.2⟩) ⟨hc2, hf2⟩)
  have HB2 := Lib.hid hb2
  clear hb2 hc2 hf2 hy0
  go_wp2_with fail
  refine HG.out.mono ?_
  rintro e w3 ⟨rfl, -, b3⟩
  have HB3 := Lib.hid (HB2.out.trans (b3.mono hz1))
  clear b3 HG
  go_wp2
  go_ret2
  exact ⟨rfl, HB3.out⟩
set_option maxHeartbeats 1000000 in
set_option maxRecDepth 100000 in
theorem implGate_f (a b : ByteArray) (w : World) (hs : a.size ≤ maxLen) (hs' : b.size ≤ maxLen) (h : are2B a b = false) :
    Calls Try.prog 43 #[.string a, .string b] w fun e w' => e = .returned (.tuple #[.string ⟨#[]⟩, .bool false]) ∧ Below w.heap.size w w' := by
  have HA := Lib.hid h
  clear h
  go_enter Try.func43, Try.ntmps43
  go_wp2_with fail
  refine (are2_any _ _ a b _ hs hs' (by simp) (by simp [go_sem]) (by simp [go_sem])).mono ?_
  rw [HA.out]
  rintro e w1 ⟨rfl, b1⟩
  have HB1 := Lib.hid (((Below.refl w.heap.size w).alloc (Nat.le_refl _) (.cells #[.string a, .string b] 9)).trans (b1.mono (by simp)))
  clear b1
  go_wp2
  go_ret2
  exact ⟨rfl, HB1.out⟩
end Go.Proofs.Ytmhbgpappjfolaa
