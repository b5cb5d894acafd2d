/- The number with a text, on the side of the program. -/
import Derived.Test.YtemjohkieehojaaDoorDecLaw
import Derived.Test.YtemjohkieehojaaDoorIn64
namespace Go.Proofs.YtemjohkieehojaaDoor
open Go.RowKit
set_option linter.unusedVariables false

theorem str_ne {X s : ByteArray} (h : X ≠ s) : (X.toList == s.toList) = false := by
  rw [Lib.toList_data, Lib.toList_data]
  exact beq_eq_false_iff_ne.2 fun e => h (ByteArray.ext (Array.toList_inj.1 e))
theorem bytes_same {s : ByteArray} {l : List UInt8} (h : l = s.data.toList) : (⟨l.toArray⟩ : ByteArray) = s := by
  subst h; cases s; simp
theorem bytes_other {s : ByteArray} {l : List UInt8} (h : l ≠ s.data.toList) : (⟨l.toArray⟩ : ByteArray) ≠ s := by
  intro e; subst e; simp at h

set_option maxHeartbeats 1000000 in
set_option maxRecDepth 100000 in
theorem implRead_ok (s : ByteArray) (m : Nat) (v : Int) (w : World) (hm : m ≤ 1000000000000000000) (hs : s.size ≤ 1048576) (hd : DoorW w) (hp : Lib.parseIntB 64 s.data.toList = .ok v) :
    Calls Tryd.prog 41 #[.string s, .int .i64 (m : Int)] w fun e w' => e = .returned (.tuple #[.int .i64 ((rd m s.data.toList).getD 0), .bool (rd m s.data.toList).isSome]) ∧ Below w.heap.size w w' := by
  have HD := Lib.hid hd
  have HP := Lib.hid (Tryd.strconv_ParseInt_10_at64_ok s (by omega) v hp w)
  have hrd := rd_ok (m := m) hp
  clear hd hp
  by_cases hin : v.natAbs ≤ m
  · have HI := Lib.hid (implDec v)
    by_cases he : Lib.itoa v = s.data.toList
    · rw [if_pos ⟨hin, he⟩] at hrd
      have hbs := bytes_same he
      rw [hrd]
      clear hrd he
      go_enter Tryd.func41, Tryd.ntmps41
      go_wp2_with fail
      refine HP.out.mono ?_
      rintro e w1 ⟨rfl, hw⟩
      have HB1 := Lib.hid (show Below w.heap.size w w1 by
        rcases hw with rfl | ⟨t, rfl⟩
        · exact Below.refl _ _
        · exact Lib.bytesWorld_below _ _ _)
      clear hw
      go_wp2_with fail
      refine (within_i64_t _ _ _ _ (by omega) (by omega)).mono ?_; rintro e w' ⟨rfl, rfl⟩
      go_wp2_with fail
      refine (HI.out _ (by omega) (by omega) (HD.out.on HB1.out)).mono ?_; rintro e w2 ⟨rfl, hb2⟩
      have HB2 := Lib.hid (HB1.out.trans (hb2.mono HB1.out.size))
      clear hb2
      rw [hbs]
      go_wp2
      go_ret2
      exact ⟨rfl, HB2.out⟩
    · rw [if_neg (fun h => he h.2)] at hrd
      have hbs := bytes_other he
      obtain ⟨X, hX⟩ : ∃ X : ByteArray, (⟨(Lib.itoa v).toArray⟩ : ByteArray) = X := ⟨_, rfl⟩
      rw [hX] at hbs HI
      rw [hrd]
      clear hrd he hX
      have n1 := str_ne hbs
      go_enter Tryd.func41, Tryd.ntmps41
      go_wp2_with fail
      refine HP.out.mono ?_
      rintro e w1 ⟨rfl, hw⟩
      have HB1 := Lib.hid (show Below w.heap.size w w1 by
        rcases hw with rfl | ⟨t, rfl⟩
        · exact Below.refl _ _
        · exact Lib.bytesWorld_below _ _ _)
      clear hw
      go_wp2_with fail
      refine (within_i64_t _ _ _ _ (by omega) (by omega)).mono ?_; rintro e w' ⟨rfl, rfl⟩
      go_wp2_with fail
      refine (HI.out _ (by omega) (by omega) (HD.out.on HB1.out)).mono ?_; rintro e w2 ⟨rfl, hb2⟩
      have HB2 := Lib.hid (HB1.out.trans (hb2.mono HB1.out.size))
      clear hb2
      go_wp2
      go_ret2
      exact ⟨rfl, HB2.out⟩
  · rw [if_neg (fun h => hin h.1)] at hrd
    rw [hrd]
    clear hrd
    go_enter Tryd.func41, Tryd.ntmps41
    go_wp2_with fail
    refine HP.out.mono ?_
    rintro e w1 ⟨rfl, hw⟩
    have HB1 := Lib.hid (show Below w.heap.size w w1 by
      rcases hw with rfl | ⟨t, rfl⟩
      · exact Below.refl _ _
      · exact Lib.bytesWorld_below _ _ _)
    clear hw
    go_wp2_with fail
    refine (within_i64_f _ _ _ _ (by omega)).mono ?_; rintro e w' ⟨rfl, rfl⟩
    go_wp2
    go_ret2
    exact ⟨rfl, HB1.out⟩
theorem implRead_bad (s : ByteArray) (m : Nat) (w : World) (hrd : rd m s.data.toList = none) (T : TypeId) (k : Int) (hc : Calls Tryd.prog 61 #[.string s, .int .i64 10, .int .i64 64] w fun e w' => ∃ N, e = .returned (.tuple #[.int .i64 k, .iface T (.pointer (some ⟨N, 0, none⟩))]) ∧ Below w.heap.size w w') :
    Calls Tryd.prog 41 #[.string s, .int .i64 (m : Int)] w fun e w' => e = .returned (.tuple #[.int .i64 ((rd m s.data.toList).getD 0), .bool (rd m s.data.toList).isSome]) ∧ Below w.heap.size w w' := by
  have HC := Lib.hid hc
  rw [hrd]
  clear hrd hc
  go_enter Tryd.func41, Tryd.ntmps41
  go_wp2_with fail
  refine HC.out.mono ?_
  rintro e w1 ⟨N, rfl, hb⟩
  have HB := Lib.hid hb
  clear hb
  go_wp2
  go_ret2
  exact ⟨rfl, HB.out⟩
theorem implRead (s : ByteArray) (m : Nat) (w : World) (hm : m ≤ 1000000000000000000) (hs : s.size ≤ 1048576) (hd : DoorE w) :
    Calls Tryd.prog 41 #[.string s, .int .i64 (m : Int)] w fun e w' => e = .returned (.tuple #[.int .i64 ((rd m s.data.toList).getD 0), .bool (rd m s.data.toList).isSome]) ∧ Below w.heap.size w w' := by
  cases hp : Lib.parseIntB 64 s.data.toList with
  | ok v => exact implRead_ok s m v w hm hs hd.tab hp
  | range =>
    obtain ⟨tp, p, hv⟩ := hd.rng
    exact implRead_bad s m w (rd_bad fun n => by rw [hp]; exact fun h => by cases h) _ _ (Calls.mono (Tryd.strconv_ParseInt_10_at64_range_var s (by omega) hp tp p w hv) fun e w' ⟨N, he, _, _, hb⟩ => ⟨N, he, hb⟩)
  | _ =>
    obtain ⟨tp, p, hv⟩ := hd.syn
    exact implRead_bad s m w (rd_bad fun n => by rw [hp]; exact fun h => by cases h) _ _ (Calls.mono (Tryd.strconv_ParseInt_10_at64_syntax_var s (by omega) hp tp p w hv) fun e w' ⟨N, he, _, _, hb⟩ => ⟨N, he, hb⟩)
end Go.Proofs.YtemjohkieehojaaDoor
