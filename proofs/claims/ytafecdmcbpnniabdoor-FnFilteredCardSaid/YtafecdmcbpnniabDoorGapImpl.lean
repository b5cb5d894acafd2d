/- Gaps of a wave, on the side of the program. -/
import Derived.Test.YtafecdmcbpnniabDoorGapWords
import Derived.Test.YtafecdmcbpnniabDoorEdgeSpec
import Derived.Test.YtafecdmcbpnniabDoorStr
import Derived.Deep.RegionHeld3
import Derived.Deep.AppendLies
import Derived.WalkSpells
import Derived.IntWalk
import Derived.Deep.Onto
import Derived.Test.YtafecdmcbpnniabDoorEdgeImpl
/- Gaps of a wave, on the side of the model. -/
namespace Go.Proofs.YtafecdmcbpnniabDoor
open Go.RowKit

theorem Ints.ne {w : World} {B : Nat} {v : Value} {l : List Int} (h : Ints w B v l) {g : Nat} (hg : g < B) : (some g : Option Nat) ≠ v.ownBlock :=
  fun e => by have := (World.ownsRow.lt h g e.symm).1; omega

end Go.Proofs.YtafecdmcbpnniabDoor
namespace Go.Proofs.YtafecdmcbpnniabDoor
open Go.RowKit

set_option maxHeartbeats 2000000 in
set_option maxRecDepth 100000 in
theorem implGaps_t (s : ByteArray) (w : World) (hs : s.size ≤ maxLen) (hwv : waveB s.data.toList = true) (hs2 : s.size ≤ 1048576) (hall : s.data.toList.all lvlB = true) :
    Calls Tryd.prog 12 #[.string s] w fun e w' => ∃ v, e = .returned (.tuple #[v, .bool true]) ∧ Ints w' w.heap.size v (gapsL (edgesL 49 s.data.toList s.size) (edgesL 48 s.data.toList s.size) ((edgesL 49 s.data.toList s.size).length - 1)) ∧ Below w.heap.size w w' := by
  obtain ⟨i0, hi, hz0, hz1, hz2⟩ := info_parts info_i64
  have hmany := downs_many s hall
  have hub := edgesL_bd 49 s.data.toList s.size
  have hdb := edgesL_bd 48 s.data.toList s.size
  have hul := edgesL_len 49 s.data.toList s.size
  generalize hU : edgesL 49 s.data.toList s.size = U at *
  generalize hD : edgesL 48 s.data.toList s.size = D at *
  have HWV := Lib.hid hwv
  clear hwv
  have HU := Lib.hid hU
  have HD := Lib.hid hD
  have HUB := Lib.hid hub
  have HDB := Lib.hid hdb
  clear hU hD hub hdb
  go_enter Tryd.func12, Tryd.ntmps12
  go_wp2_with fail
  refine (implUps_t s _ hs HWV.out).mono ?_
  rintro e w1 ⟨v1, rfl, i1, b1⟩
  rw [HU.out] at i1
  obtain ⟨a1, c1, rfl, _, k1⟩ := i1.form
  have K1 := Lib.hid k1
  clear k1 i1
  go_wp2_with fail
  refine (implDowns_t s _ hs HWV.out).mono ?_
  rintro e w2 ⟨v2, rfl, i2, b2⟩
  rw [HD.out] at i2
  obtain ⟨a2, c2, rfl, _, k2⟩ := i2.form
  have K2 := Lib.hid k2
  clear k2 i2
  have hs1 := b1.size
  have hs2' := b2.size
  go_wp2
  go_loopw [8, 9] (fun v i wr => ∃ k : Nat, (k + 1 ≤ U.length ∨ k = 0) ∧ i = .int .i64 ((k : Int) + 1) ∧ Ints wr w2.heap.size v (gapsL U D k) ∧ Below w2.heap.size w2 wr) (fun _ i _ => U.length + 1 - (intOf i).toNat)
  case atStart => exact ⟨0, Or.inr rfl, rfl, Ints.nil w2 _, Below.refl _ _⟩
  case round =>
    obtain ⟨k, hk, rfl, hbuf, hB⟩ := hrel
    by_cases hlt : k + 1 < U.length
    · have hlt2 : k < D.length := by omega
      obtain ⟨g1, rfl, _, hg1, hc1, _⟩ := K1.out (k + 1) hlt
      obtain ⟨g2, rfl, _, hg2, hc2, _⟩ := K2.out k hlt2
      have hx := HUB.out _ (List.getElem_mem hlt)
      have hy := HDB.out _ (List.getElem_mem hlt2)
      have HS := Lib.hid (gapsL_snoc U D k hlt hlt2)
      have hlen := gapsL_len U D k
      have HL := Lib.hid hlen
      rw [← b2.cell (p := ⟨g1, k + 1, none⟩) hg1, ← hB.cell (p := ⟨g1, k + 1, none⟩) (by show g1 < _; omega)] at hc1
      rw [← hB.cell (p := ⟨g2, k, none⟩) hg2] at hc2
      generalize U[k + 1] = x at *
      generalize D[k] = y at *
      obtain ⟨hx0, hx1⟩ := hx
      obtain ⟨hy0, hy1⟩ := hy
      have HBUF := Lib.hid hbuf
      clear hbuf hlen
      have hsz := hB.size
      have e1 : IntKind.i64.wrap ((k : Int) + 1 - 1) = (k : Int) := by rw [IntWalk.i64_in _ (by omega)]; omega
      have ew : IntKind.i64.wrap (k : Int) = (k : Int) := IntWalk.i64_in _ (by omega)
      have e2 : ((k : Int) + 1).toNat = k + 1 := by omega
      have e3 : IntKind.i64.wrap (x - y) = x - y := IntWalk.i64_in _ (by omega)
      have hn1 := HBUF.out.ne (g := g1) (by omega)
      have hn2 := HBUF.out.ne (g := g2) (by omega)
      have q0 : (0 : Int) ≤ (k : Int) := by omega
      have q1 : (0 : Int) ≤ (k : Int) + 1 := by omega
      have q2 : (k : Int) + 1 < (U.length : Int) := by omega
      have q3 : (k : Int) < (D.length : Int) := by omega
      have lg1 : g1 < wr.heap.size := by omega
      have lg2 : g2 < wr.heap.size := by omega
      go_wp2
      go_region_held3 (fun w' => w'.cell? ⟨g1, k + 1, none⟩ = some (.int .i64 x) ∧ w'.cell? ⟨g2, k, none⟩ = some (.int .i64 y)) (first | go_keep | (go_split_ands; refine ⟨?_, ?_⟩ <;> first | (rw [hgrow.cell_far _ (by simp; omega) hn1]; assumption) | (rw [hgrow.cell_far _ (by simp; omega) hn2]; assumption)))
        ((refine step_append_lies _ (by rfl) _ _ _ (by rfl) w2.heap.size 2 i0 _ 1 8 Tryd.underlying28 hi hz0 hz1 hz2 rfl (by omega) _ _ _ (by rfl) ((HBUF.out.alloc _).drew) ⟨wr.heap.size, 0, none⟩ 1 1 [.int .i64 (x - y)] (by rfl) (by rfl) (World.news_of_block (cs := #[.int .i64 (x - y)]) (t := 2) (fr := (0, 0)) (heap_alloc_new wr _)) (by simp [Value.oneCell']) (by omega) (by rw [HL.out]; unfold maxLen; omega) (by rw [HL.out]; omega) (by simp; omega) (wr.heap.size + 1) (by simp) ?_; intro gg cap w3 hown3 hgrow hat hlt3))
      all_goals
        have HO := Lib.hid (Ints.snoc hown3)
        have HW := Lib.hid (((hB.alloc hsz _).drew.grown hgrow (by simp; omega) (fun j e => (World.ownsRow.lt HBUF.out j e).1)))
        clear hown3 hgrow
        go_wp2
        go_roundw
        case rel => exact ⟨k + 1, by omega, by go_num, by rw [HS.out]; exact HO.out, HW.out⟩
        case measure => simp [intOf]; omega
    · have hkk : k = U.length - 1 := by omega
      have HK := Lib.hid hkk
      clear hkk
      go_wp2
      go_ret2
      exact ⟨_, rfl, by rw [← HK.out]; exact World.ownsRow.mono hbuf (by omega), b1.trans ((b2.trans (hB.mono hs2')).mono hs1)⟩


theorem implGaps_ok (s : ByteArray) (w : World) (hs : s.size ≤ maxLen) (hwv : waveB s.data.toList = true) :
    Calls Tryd.prog 12 #[.string s] w fun e W' => ∃ v, e = .returned (.tuple #[v, .bool true]) ∧ Ints W' w.heap.size v (gapsL (edgesL 49 s.data.toList s.size) (edgesL 48 s.data.toList s.size) ((edgesL 49 s.data.toList s.size).length - 1)) ∧ Below w.heap.size w W' := by
  have h := hwv
  unfold waveB at h
  simp only [Bool.and_eq_true, decide_eq_true_eq, size_toList] at h
  exact implGaps_t s w hs hwv (by omega) h.1
theorem implGaps_f (s : ByteArray) (w : World) (hs : s.size ≤ maxLen) (hwv : waveB s.data.toList = false) :
    Calls Tryd.prog 12 #[.string s] w fun e W' => e = .returned (.tuple #[.slice none 0 0, .bool false]) ∧ Below w.heap.size w W' := by
  go_enter Tryd.func12, Tryd.ntmps12
  go_wp2_with fail
  refine (implUps_f s _ hs hwv).mono ?_; rintro e w1 ⟨rfl, b1⟩
  go_wp2_with fail
  refine (implDowns_f s _ hs hwv).mono ?_; rintro e w2 ⟨rfl, b2⟩
  go_wp2
  refine wp_loop_rounds 1 ?_
  rw [rounds_succ]
  go_wp2
  go_ret2
  exact ⟨rfl, b1.trans (b2.mono b1.size)⟩
end Go.Proofs.YtafecdmcbpnniabDoor
