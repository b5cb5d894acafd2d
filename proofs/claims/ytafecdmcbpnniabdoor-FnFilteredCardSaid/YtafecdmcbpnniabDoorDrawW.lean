/- A drawn wave and drawn levels: whatever the bytes, they are waves. -/
import Derived.Test.YtafecdmcbpnniabDoorDraw
import Derived.Test.YtafecdmcbpnniabDoorWaveStr
import Derived.Test.YtafecdmcbpnniabDoorLvMath
namespace Go.Proofs.YtafecdmcbpnniabDoor
open Go.RowKit
set_option linter.unusedVariables false

theorem row_below {w : World} {a : Option Addr} {l : List Int} (h : ByteRow w a l) : RowBelow w.heap.size a l := by
  obtain ⟨_, h⟩ := h
  rcases h with h | ⟨g, off, h1, h2, _⟩
  · exact .inl h
  · exact .inr ⟨_, h1, h2⟩
theorem grown_to_below {w w1 w2 : World} (h : Below w.heap.size w w1) (hg : w1.grownBy w2 (some w.heap.size)) : Below w.heap.size w w2 := by
  refine ⟨hg.os.trans h.os, hg.tape.trans h.tape, hg.output.trans h.output, Nat.le_trans h.size hg.size, fun k hk => ?_⟩
  exact (hg.block k (Nat.lt_of_lt_of_le hk h.size) (fun e => by cases e; omega)).trans (h.block k hk)
theorem dr_new {w w1 : World} {a : Option Addr} {n cap : Nat} {l : List Int} (hn : n = l.length) (hm : n ≤ 1048576) (hr : ByteRow w a l) (hs : Src w1 w.heap.size (.slice a n cap) 0) (hb : Below w.heap.size w w1) (hlt : w.heap.size < w1.heap.size) : Dr w1 w1 w.heap.size a n cap l 0 :=
  ⟨hs, hr.keep hb (Nat.le_refl _), grown_refl _ _, hlt, row_below hr, hn, hm⟩
theorem wave_any (a : Option Addr) (n cap : Nat) (l : List Int) (w : World) (hn : n = l.length) (hm : n ≤ 1048576) (hr : ByteRow w a l) :
    Calls Tryd.prog 5 #[.slice a n cap] w fun e w' => ∃ bs : List UInt8, e = .returned (.string ⟨bs.toArray⟩) ∧ Lv bs ∧ bs.length ≤ 40 ∧ Below w.heap.size w w' := by
  have HR := Lib.hid hr
  have HN := Lib.hid hn
  clear hr hn
  go_enter Tryd.func5, Tryd.ntmps5
  go_wp2_with fail
  refine (l00From_any a n cap w).mono ?_; rintro e w1 ⟨rfl, hs, hb, hlt⟩
  have HD := Lib.hid (dr_new HN.out hm HR.out hs hb hlt)
  have HB := Lib.hid hb
  clear hs hb
  go_wp2_with fail
  refine (drawGood w.heap.size 0 a n cap l w1 (by omega) HD.out).mono ?_; rintro e w2 ⟨bs, rfl, hL, hle, hg⟩
  have HG := Lib.hid (grown_to_below HB.out hg)
  clear hg
  go_wp2
  go_ret
  exact ⟨bs, rfl, hL, hle, HG.out⟩
/-- the text of bytes -/
def txt (l : List UInt8) : ByteArray := ⟨l.toArray⟩
theorem txt_list (l : List UInt8) : (txt l).data.toList = l := by simp [txt]
theorem txt_size (l : List UInt8) : (txt l).size = l.length := by simp [txt, ByteArray.size]
theorem txt_at (l : List UInt8) (k : Nat) (h : k < (txt l).size) (h2 : k < l.length) : (txt l)[k] = l[k] := by
  simp [txt, ByteArray.getElem_eq_getElem_data]
theorem txt_wave (l : List UInt8) (h : Lv l) (hl : l.length ≤ 400) : waveB (txt l).data.toList = true := by
  rw [txt_list]
  unfold waveB
  rw [Bool.and_eq_true]
  refine ⟨?_, decide_eq_true (by omega)⟩
  rw [List.all_eq_true]
  intro x hx
  rcases h x hx with rfl | rfl <;> decide
theorem wave_w (a : Option Addr) (n cap : Nat) (l : List Int) (w : World) (hn : n = l.length) (hm : n ≤ 1048576) (hr : ByteRow w a l) :
    Calls Tryd.prog 5 #[.slice a n cap] w fun e w' => ∃ (s : ByteArray), e = .returned (.string s) ∧ waveB s.data.toList = true ∧ s.size ≤ 40 ∧ Below w.heap.size w w' := by
  refine (wave_any a n cap l w hn hm hr).mono ?_
  rintro e w1 ⟨bs, he, hL, hle, hb⟩
  exact ⟨txt bs, he, txt_wave bs hL (by omega), by rw [txt_size]; exact hle, hb⟩
end Go.Proofs.YtafecdmcbpnniabDoor
