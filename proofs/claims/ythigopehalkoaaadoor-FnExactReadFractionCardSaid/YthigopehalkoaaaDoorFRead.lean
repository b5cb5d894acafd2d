/- The fraction with a text, on both sides. -/
import Derived.Test.YthigopehalkoaaaDoorReadSpec
import Derived.Test.YthigopehalkoaaaDoorReadImpl
import Derived.Test.YthigopehalkoaaaDoorFText
import Derived.Test.YthigopehalkoaaaDoorPair
import Derived.Test.YthigopehalkoaaaDoorDoorE
namespace Go.Proofs.YthigopehalkoaaaDoor
open Go.RowKit
set_option linter.unusedVariables false

/-- .. and the greatest length that a search goes for at once -/
structure DoorM (W : World) : Prop where
  e : DoorE W
  mx : ∃ m : Int, W.cell? ⟨1, 0, none⟩ = some (.int .i64 m)
theorem DoorM.on {W W' : World} (h : DoorM W) (hb : Below W.heap.size W W') : DoorM W' := by
  obtain ⟨m, hm⟩ := h.mx
  exact ⟨h.e.on hb, m, (hb.cell (World.block_lt_of_cell? W _ hm)).trans hm⟩
theorem doorM_of {W : World} {n1 n2 : String} {d1 d2 : DataW Unit} {rest : List (String × DataW Unit)} (h : laidMet Tryd.prog ((n1, d1) :: (n2, d2) :: ("internal/strconv.uint64pow10", Rows.laid_internal_strconv_uint64pow10) :: ("strconv.ErrRange", Rows.laid_strconv_ErrRange) :: ("strconv.ErrSyntax", Rows.laid_strconv_ErrSyntax) :: rest) W) (hsh : W.ShapedOpen Tryd.prog) : DoorM W :=
  ⟨doorE_of h, Tryd.laysM145.s1_3 W hsh⟩
structure Dm (w W : World) : Prop where
  door : DoorM W
  bel : Below w.heap.size w W
theorem Dm.call {w W W1 : World} (h : Dm w W) (hb : Below W.heap.size W W1) : Dm w W1 := ⟨h.door.on hb, h.bel.trans (hb.mono h.bel.size)⟩
theorem Dm.al {w W : World} (h : Dm w W) (o : Obj) : Dm w (W.alloc o) := h.call ((Below.refl _ W).alloc (Nat.le_refl _) o)

/-- where a text is cut: at its first '/', or at its end -/
def cutK (l : List UInt8) : Nat := l.findIdx (· == 47)
theorem cutK_le (l : List UInt8) : cutK l ≤ l.length := List.findIdx_le_length
theorem index_cutK : ∀ l : List UInt8, Lib.index l [47] = if cutK l < l.length then (cutK l : Int) else -1
  | [] => by simp [Lib.index, cutK]
  | b :: l => by
    have ih := index_cutK l
    unfold Lib.index cutK
    rw [List.findIdx_cons]
    by_cases hb : b = 47
    · subst hb; simp
    · have h1 : ([47] : List UInt8).isPrefixOf (b :: l) = false := by simp [List.isPrefixOf]; exact fun e => hb e.symm
      have h2 : (b == 47) = false := beq_eq_false_iff_ne.2 hb
      rw [h1, h2, ih]
      unfold cutK
      by_cases hk : l.findIdx (· == 47) < l.length
      · have h3 : ((l.findIdx (· == 47) : Nat) : Int) ≠ -1 := by omega
        simp [hk, h3]
      · simp [hk]
theorem cut_hitF (l : List UInt8) (h : cutK l < l.length) : Lib.cut l [47] = (l.take (cutK l), l.drop (cutK l + 1), true) := by
  have := index_cutK l
  rw [if_pos h] at this
  unfold Lib.cut
  rw [this, if_pos (by omega)]
  simp
theorem cut_missF (l : List UInt8) (h : ¬ cutK l < l.length) : Lib.cut l [47] = (l, [], false) := by
  have := index_cutK l
  rw [if_neg h] at this
  unfold Lib.cut
  rw [this, if_neg (by omega)]
/-- what the two parts are, and the fraction -/
def frO (l : List UInt8) : List UInt8 := l.take (cutK l)
def frU (l : List UInt8) : List UInt8 := if cutK l < l.length then l.drop (cutK l + 1) else [49]
def frV (l : List UInt8) : Value := match rd 1000000000000000000 (frO l), rd 1000000000000000000 (frU l) with
  | some n, some d => if fracB n d = true ∧ ftx n d = l then .tuple #[.agg #[.int .i64 n, .int .i64 d], .bool true] else .tuple #[.agg #[.int .i64 0, .int .i64 0], .bool false]
  | _, _ => .tuple #[.agg #[.int .i64 0, .int .i64 0], .bool false]
theorem rd_one : rd 1000000000000000000 [49] = some 1 := by
  have h : Lib.itoa 1 = [49] := by rw [itoa_nn (by omega), decD_small (by decide)]; rfl
  rw [← h]; exact rd_itoa _ (by decide) 1 (by decide)
theorem frV_no {l : List UInt8} (h : rd 1000000000000000000 (frO l) = none ∨ rd 1000000000000000000 (frU l) = none) : frV l = .tuple #[.agg #[.int .i64 0, .int .i64 0], .bool false] := by
  unfold frV
  rcases h with h | h
  · rw [h]
  · rw [h]; cases rd 1000000000000000000 (frO l) <;> rfl
theorem frV_bad {l : List UInt8} {n d : Int} (h1 : rd 1000000000000000000 (frO l) = some n) (h2 : rd 1000000000000000000 (frU l) = some d) (h : ¬ (fracB n d = true ∧ ftx n d = l)) : frV l = .tuple #[.agg #[.int .i64 0, .int .i64 0], .bool false] := by
  unfold frV; rw [h1, h2]; simp only [if_neg h]
theorem frV_ok {l : List UInt8} {n d : Int} (h1 : rd 1000000000000000000 (frO l) = some n) (h2 : rd 1000000000000000000 (frU l) = some d) (h3 : fracB n d = true) (h4 : ftx n d = l) : frV l = .tuple #[.agg #[.int .i64 n, .int .i64 d], .bool true] := by
  unfold frV; rw [h1, h2]; simp only [if_pos (And.intro h3 h4)]
theorem frO_miss {l : List UInt8} (h : ¬ cutK l < l.length) : frO l = l := List.take_of_length_le (by have := cutK_le l; omega)
theorem implRead18 (s : ByteArray) (w : World) (hs : s.size ≤ 1048576) (hd : DoorE w) :
    Calls Tryd.prog 47 #[.string s, .int .i64 1000000000000000000] w fun e w' => e = .returned (.tuple #[.int .i64 ((rd 1000000000000000000 s.data.toList).getD 0), .bool (rd 1000000000000000000 s.data.toList).isSome]) ∧ Below w.heap.size w w' :=
  implRead s 1000000000000000000 w (by decide) hs hd

set_option maxHeartbeats 2000000 in
set_option maxRecDepth 100000 in
theorem implFR_hit_o (s : ByteArray) (w : World) (hs : s.size ≤ 1048576) (hd : DoorM w) (hk : cutK s.data.toList < s.data.toList.length) (h1 : rd 1000000000000000000 (frO s.data.toList) = none) :
    Calls Tryd.prog 21 #[.string s] w fun e w' => e = .returned (frV s.data.toList) ∧ Below w.heap.size w w' := by
  have HV := Lib.hid (frV_no (.inl h1))
  have HDM := Lib.hid (Dm.al (w := w) ⟨hd, Below.refl _ _⟩ (.cells #[.int .i64 0, .int .i64 0] 31))
  have HA := Lib.hid (At2.new w (.int .i64 0) (.int .i64 0) 31)
  obtain ⟨O, hO⟩ : ∃ O : ByteArray, (⟨(frO s.data.toList).toArray⟩ : ByteArray) = O := ⟨_, rfl⟩
  obtain ⟨U, hU⟩ : ∃ U : ByteArray, (⟨(frU s.data.toList).toArray⟩ : ByteArray) = U := ⟨_, rfl⟩
  have hOl : O.data.toList = frO s.data.toList := by rw [← hO]
  have hUl : U.data.toList = frU s.data.toList := by rw [← hU]
  have hOs : O.size ≤ 1048576 := by rw [← size_toList, hOl]; unfold frO; rw [List.length_take, size_toList]; omega
  have hUs : U.size ≤ 1048576 := by rw [← size_toList, hUl]; unfold frU; rw [if_pos hk, List.length_drop, size_toList]; omega
  have HC : Hid (∀ W, DoorM W → Calls Tryd.prog 52 #[.string s, .string ⟨#[47]⟩] W fun e w' => e = .returned (.tuple #[.string O, .string U, .bool true]) ∧ Below W.heap.size W w') := fun W h => by
    obtain ⟨m, hm⟩ := h.mx
    refine (Tryd.strings_Cut s ⟨#[47]⟩ m W (by omega) hm).mono ?_
    rintro e w' ⟨rfl, q, rfl⟩
    rw [show ((⟨#[47]⟩ : ByteArray).data.toList) = [47] from rfl, cut_hitF _ hk]
    refine ⟨?_, below_drewN2 _ _⟩
    rw [← hO, ← hU]; unfold frO frU; rw [if_pos hk]
  have HR1 : Hid (∀ W, DoorM W → Calls Tryd.prog 47 #[.string O, .int .i64 1000000000000000000] W fun e w' => e = .returned (.tuple #[.int .i64 0, .bool false]) ∧ Below W.heap.size W w') := fun W h => by
    have := implRead18 O W hOs h.e
    rw [hOl, h1] at this
    exact this
  obtain ⟨d, b2, hdb⟩ : ∃ (d : Int) (b2 : Bool), (rd 1000000000000000000 (frU s.data.toList)).getD 0 = d ∧ (rd 1000000000000000000 (frU s.data.toList)).isSome = b2 := ⟨_, _, rfl, rfl⟩
  have HR2 : Hid (∀ W, DoorM W → Calls Tryd.prog 47 #[.string U, .int .i64 1000000000000000000] W fun e w' => e = .returned (.tuple #[.int .i64 d, .bool b2]) ∧ Below W.heap.size W w') := fun W h => by
    have := implRead18 U W hUs h.e
    rw [hUl, hdb.1, hdb.2] at this
    exact this
  obtain ⟨X, bk, hft⟩ : ∃ (X : ByteArray) (bk : Bool), ftxV 0 d = .tuple #[.string X, .bool bk] := by
    unfold ftxV; split
    · exact ⟨_, _, rfl⟩
    · exact ⟨_, _, rfl⟩
  have HT : Hid (∀ W, DoorM W → Calls Tryd.prog 19 #[.agg #[.int .i64 0, .int .i64 d]] W fun e w' => e = .returned (.tuple #[.string X, .bool bk]) ∧ Below W.heap.size W w') := fun W h => by
    rw [← hft]; exact implFText 0 d W h.e.tab
  clear hd hOl hUl hOs hUs hft hk hO hU h1 hdb
  go_enter Tryd.func21, Tryd.ntmps21
  go_wp2_with fail
  refine (HC.out _ HDM.out.door).mono ?_; rintro e w1 ⟨rfl, hb1⟩
  have HA := Lib.hid (HA.out.below hb1 (by simp))
  have HDM := Lib.hid (HDM.out.call hb1)
  clear hb1
  go_wp2_with fail
  refine (HR1.out _ HDM.out.door).mono ?_; rintro e w2 ⟨rfl, hb2⟩
  have HA := Lib.hid (HA.out.below hb2 HA.out.lt)
  have HDM := Lib.hid (HDM.out.call hb2)
  clear hb2
  go_wp2_with fail
  refine (HR2.out _ HDM.out.door).mono ?_; rintro e w3 ⟨rfl, hb3⟩
  have HA := Lib.hid (HA.out.below hb3 HA.out.lt)
  have hw3 := HA.out.lt
  have HA := Lib.hid (HA.out.alloc (.cells #[.int .i64 0, .int .i64 d] 31))
  have HDM := Lib.hid ((HDM.out.call hb3).al (.cells #[.int .i64 0, .int .i64 d] 31))
  have HF := Lib.hid (At2.new w3 (.int .i64 0) (.int .i64 d) 31)
  clear hb3
  go_wp2_with fail
  refine (HT.out _ HDM.out.door).mono ?_; rintro e w4 ⟨rfl, hb4⟩
  have HA := Lib.hid (HA.out.below hb4 HA.out.lt)
  have HF := Lib.hid (HF.out.below hb4 (by simp))
  have HB := Lib.hid (HDM.out.call hb4).bel
  obtain ⟨f0, f1, -, -⟩ := HF.out
  clear hb4
  all_goals
    have q0 := Lib.hid (HA.out.set0 (.int .i64 0)).1
    have q1 := Lib.hid ((HA.out.set0 (.int .i64 0)).set1 (.int .i64 0)).2.1
    obtain ⟨a0, a1, a2, a3⟩ := HA.out
    go_wp2
    refine bodyPost_ret (v := .tuple #[.agg #[.int .i64 0, .int .i64 0], .bool false]) (by simp [results, Tryd.results21, go_sem, q0.out, q1.out]) rfl ⟨by rw [HV.out], ?_⟩
    exact (HB.out.setCell (Nat.le_refl _) _).setCell (Nat.le_refl _) _

set_option maxHeartbeats 2000000 in
set_option maxRecDepth 100000 in
theorem implFR_hit_u (s : ByteArray) (w : World) (hs : s.size ≤ 1048576) (hd : DoorM w) (hk : cutK s.data.toList < s.data.toList.length) (n : Int) (h1 : rd 1000000000000000000 (frO s.data.toList) = some n) (h2 : rd 1000000000000000000 (frU s.data.toList) = none) :
    Calls Tryd.prog 21 #[.string s] w fun e w' => e = .returned (frV s.data.toList) ∧ Below w.heap.size w w' := by
  have HV := Lib.hid (frV_no (.inr h2))
  have HDM := Lib.hid (Dm.al (w := w) ⟨hd, Below.refl _ _⟩ (.cells #[.int .i64 0, .int .i64 0] 31))
  have HA := Lib.hid (At2.new w (.int .i64 0) (.int .i64 0) 31)
  obtain ⟨O, hO⟩ : ∃ O : ByteArray, (⟨(frO s.data.toList).toArray⟩ : ByteArray) = O := ⟨_, rfl⟩
  obtain ⟨U, hU⟩ : ∃ U : ByteArray, (⟨(frU s.data.toList).toArray⟩ : ByteArray) = U := ⟨_, rfl⟩
  have hOl : O.data.toList = frO s.data.toList := by rw [← hO]
  have hUl : U.data.toList = frU s.data.toList := by rw [← hU]
  have hOs : O.size ≤ 1048576 := by rw [← size_toList, hOl]; unfold frO; rw [List.length_take, size_toList]; omega
  have hUs : U.size ≤ 1048576 := by rw [← size_toList, hUl]; unfold frU; rw [if_pos hk, List.length_drop, size_toList]; omega
  have HC : Hid (∀ W, DoorM W → Calls Tryd.prog 52 #[.string s, .string ⟨#[47]⟩] W fun e w' => e = .returned (.tuple #[.string O, .string U, .bool true]) ∧ Below W.heap.size W w') := fun W h => by
    obtain ⟨m, hm⟩ := h.mx
    refine (Tryd.strings_Cut s ⟨#[47]⟩ m W (by omega) hm).mono ?_
    rintro e w' ⟨rfl, q, rfl⟩
    rw [show ((⟨#[47]⟩ : ByteArray).data.toList) = [47] from rfl, cut_hitF _ hk]
    refine ⟨?_, below_drewN2 _ _⟩
    rw [← hO, ← hU]; unfold frO frU; rw [if_pos hk]
  have HR1 : Hid (∀ W, DoorM W → Calls Tryd.prog 47 #[.string O, .int .i64 1000000000000000000] W fun e w' => e = .returned (.tuple #[.int .i64 n, .bool true]) ∧ Below W.heap.size W w') := fun W h => by
    have := implRead18 O W hOs h.e
    rw [hOl, h1] at this
    exact this
  have HR2 : Hid (∀ W, DoorM W → Calls Tryd.prog 47 #[.string U, .int .i64 1000000000000000000] W fun e w' => e = .returned (.tuple #[.int .i64 0, .bool false]) ∧ Below W.heap.size W w') := fun W h => by
    have := implRead18 U W hUs h.e
    rw [hUl, h2] at this
    exact this
  obtain ⟨X, bk, hft⟩ : ∃ (X : ByteArray) (bk : Bool), ftxV n 0 = .tuple #[.string X, .bool bk] := by
    unfold ftxV; split
    · exact ⟨_, _, rfl⟩
    · exact ⟨_, _, rfl⟩
  have HT : Hid (∀ W, DoorM W → Calls Tryd.prog 19 #[.agg #[.int .i64 n, .int .i64 0]] W fun e w' => e = .returned (.tuple #[.string X, .bool bk]) ∧ Below W.heap.size W w') := fun W h => by
    rw [← hft]; exact implFText n 0 W h.e.tab
  clear hd hOl hUl hOs hUs hft hk hO hU h1 h2
  go_enter Tryd.func21, Tryd.ntmps21
  go_wp2_with fail
  refine (HC.out _ HDM.out.door).mono ?_; rintro e w1 ⟨rfl, hb1⟩
  have HA := Lib.hid (HA.out.below hb1 (by simp))
  have HDM := Lib.hid (HDM.out.call hb1)
  clear hb1
  go_wp2_with fail
  refine (HR1.out _ HDM.out.door).mono ?_; rintro e w2 ⟨rfl, hb2⟩
  have HA := Lib.hid (HA.out.below hb2 HA.out.lt)
  have HDM := Lib.hid (HDM.out.call hb2)
  clear hb2
  go_wp2_with fail
  refine (HR2.out _ HDM.out.door).mono ?_; rintro e w3 ⟨rfl, hb3⟩
  have HA := Lib.hid (HA.out.below hb3 HA.out.lt)
  have hw3 := HA.out.lt
  have HA := Lib.hid (HA.out.alloc (.cells #[.int .i64 n, .int .i64 0] 31))
  have HDM := Lib.hid ((HDM.out.call hb3).al (.cells #[.int .i64 n, .int .i64 0] 31))
  have HF := Lib.hid (At2.new w3 (.int .i64 n) (.int .i64 0) 31)
  clear hb3
  go_wp2_with fail
  refine (HT.out _ HDM.out.door).mono ?_; rintro e w4 ⟨rfl, hb4⟩
  have HA := Lib.hid (HA.out.below hb4 HA.out.lt)
  have HF := Lib.hid (HF.out.below hb4 (by simp))
  have HB := Lib.hid (HDM.out.call hb4).bel
  obtain ⟨f0, f1, -, -⟩ := HF.out
  clear hb4
  have q0 := Lib.hid (HA.out.set0 (.int .i64 0)).1
  have q1 := Lib.hid ((HA.out.set0 (.int .i64 0)).set1 (.int .i64 0)).2.1
  obtain ⟨a0, a1, a2, a3⟩ := HA.out
  go_wp2
  refine bodyPost_ret (v := .tuple #[.agg #[.int .i64 0, .int .i64 0], .bool false]) (by simp [results, Tryd.results21, go_sem, q0.out, q1.out]) rfl ⟨by rw [HV.out], ?_⟩
  exact (HB.out.setCell (Nat.le_refl _) _).setCell (Nat.le_refl _) _

set_option maxHeartbeats 2000000 in
set_option maxRecDepth 100000 in
theorem implFR_hit_v (s : ByteArray) (w : World) (hs : s.size ≤ 1048576) (hd : DoorM w) (hk : cutK s.data.toList < s.data.toList.length) (n d : Int) (h1 : rd 1000000000000000000 (frO s.data.toList) = some n) (h2 : rd 1000000000000000000 (frU s.data.toList) = some d) (h3 : fracB n d = false) :
    Calls Tryd.prog 21 #[.string s] w fun e w' => e = .returned (frV s.data.toList) ∧ Below w.heap.size w w' := by
  have HV := Lib.hid (frV_bad h1 h2 (fun h => by rw [h3] at h; exact absurd h.1 (by decide)))
  have HDM := Lib.hid (Dm.al (w := w) ⟨hd, Below.refl _ _⟩ (.cells #[.int .i64 0, .int .i64 0] 31))
  have HA := Lib.hid (At2.new w (.int .i64 0) (.int .i64 0) 31)
  obtain ⟨O, hO⟩ : ∃ O : ByteArray, (⟨(frO s.data.toList).toArray⟩ : ByteArray) = O := ⟨_, rfl⟩
  obtain ⟨U, hU⟩ : ∃ U : ByteArray, (⟨(frU s.data.toList).toArray⟩ : ByteArray) = U := ⟨_, rfl⟩
  have hOl : O.data.toList = frO s.data.toList := by rw [← hO]
  have hUl : U.data.toList = frU s.data.toList := by rw [← hU]
  have hOs : O.size ≤ 1048576 := by rw [← size_toList, hOl]; unfold frO; rw [List.length_take, size_toList]; omega
  have hUs : U.size ≤ 1048576 := by rw [← size_toList, hUl]; unfold frU; rw [if_pos hk, List.length_drop, size_toList]; omega
  have HC : Hid (∀ W, DoorM W → Calls Tryd.prog 52 #[.string s, .string ⟨#[47]⟩] W fun e w' => e = .returned (.tuple #[.string O, .string U, .bool true]) ∧ Below W.heap.size W w') := fun W h => by
    obtain ⟨m, hm⟩ := h.mx
    refine (Tryd.strings_Cut s ⟨#[47]⟩ m W (by omega) hm).mono ?_
    rintro e w' ⟨rfl, q, rfl⟩
    rw [show ((⟨#[47]⟩ : ByteArray).data.toList) = [47] from rfl, cut_hitF _ hk]
    refine ⟨?_, below_drewN2 _ _⟩
    rw [← hO, ← hU]; unfold frO frU; rw [if_pos hk]
  have HR1 : Hid (∀ W, DoorM W → Calls Tryd.prog 47 #[.string O, .int .i64 1000000000000000000] W fun e w' => e = .returned (.tuple #[.int .i64 n, .bool true]) ∧ Below W.heap.size W w') := fun W h => by
    have := implRead18 O W hOs h.e
    rw [hOl, h1] at this
    exact this
  have HR2 : Hid (∀ W, DoorM W → Calls Tryd.prog 47 #[.string U, .int .i64 1000000000000000000] W fun e w' => e = .returned (.tuple #[.int .i64 d, .bool true]) ∧ Below W.heap.size W w') := fun W h => by
    have := implRead18 U W hUs h.e
    rw [hUl, h2] at this
    exact this
  have hft : ftxV n d = .tuple #[.string ⟨#[]⟩, .bool false] := by unfold ftxV; rw [h3]; rfl
  have HT : Hid (∀ W, DoorM W → Calls Tryd.prog 19 #[.agg #[.int .i64 n, .int .i64 d]] W fun e w' => e = .returned (.tuple #[.string ⟨#[]⟩, .bool false]) ∧ Below W.heap.size W w') := fun W h => by
    rw [← hft]; exact implFText n d W h.e.tab
  clear hd hOl hUl hOs hUs hft hk hO hU h1 h2 h3
  go_enter Tryd.func21, Tryd.ntmps21
  go_wp2_with fail
  refine (HC.out _ HDM.out.door).mono ?_; rintro e w1 ⟨rfl, hb1⟩
  have HA := Lib.hid (HA.out.below hb1 (by simp))
  have HDM := Lib.hid (HDM.out.call hb1)
  clear hb1
  go_wp2_with fail
  refine (HR1.out _ HDM.out.door).mono ?_; rintro e w2 ⟨rfl, hb2⟩
  have HA := Lib.hid (HA.out.below hb2 HA.out.lt)
  have HDM := Lib.hid (HDM.out.call hb2)
  clear hb2
  go_wp2_with fail
  refine (HR2.out _ HDM.out.door).mono ?_; rintro e w3 ⟨rfl, hb3⟩
  have HA := Lib.hid (HA.out.below hb3 HA.out.lt)
  have hw3 := HA.out.lt
  have HA := Lib.hid (HA.out.alloc (.cells #[.int .i64 n, .int .i64 d] 31))
  have HDM := Lib.hid ((HDM.out.call hb3).al (.cells #[.int .i64 n, .int .i64 d] 31))
  have HF := Lib.hid (At2.new w3 (.int .i64 n) (.int .i64 d) 31)
  clear hb3
  go_wp2_with fail
  refine (HT.out _ HDM.out.door).mono ?_; rintro e w4 ⟨rfl, hb4⟩
  have HA := Lib.hid (HA.out.below hb4 HA.out.lt)
  have HF := Lib.hid (HF.out.below hb4 (by simp))
  have HB := Lib.hid (HDM.out.call hb4).bel
  obtain ⟨f0, f1, -, -⟩ := HF.out
  clear hb4
  have q0 := Lib.hid (HA.out.set0 (.int .i64 0)).1
  have q1 := Lib.hid ((HA.out.set0 (.int .i64 0)).set1 (.int .i64 0)).2.1
  obtain ⟨a0, a1, a2, a3⟩ := HA.out
  go_wp2
  refine bodyPost_ret (v := .tuple #[.agg #[.int .i64 0, .int .i64 0], .bool false]) (by simp [results, Tryd.results21, go_sem, q0.out, q1.out]) rfl ⟨by rw [HV.out], ?_⟩
  exact (HB.out.setCell (Nat.le_refl _) _).setCell (Nat.le_refl _) _

set_option maxHeartbeats 2000000 in
set_option maxRecDepth 100000 in
theorem implFR_hit_t (s : ByteArray) (w : World) (hs : s.size ≤ 1048576) (hd : DoorM w) (hk : cutK s.data.toList < s.data.toList.length) (n d : Int) (h1 : rd 1000000000000000000 (frO s.data.toList) = some n) (h2 : rd 1000000000000000000 (frU s.data.toList) = some d) (h3 : fracB n d = true) (h4 : ftx n d ≠ s.data.toList) :
    Calls Tryd.prog 21 #[.string s] w fun e w' => e = .returned (frV s.data.toList) ∧ Below w.heap.size w w' := by
  have HV := Lib.hid (frV_bad h1 h2 (fun h => h4 h.2))
  have HDM := Lib.hid (Dm.al (w := w) ⟨hd, Below.refl _ _⟩ (.cells #[.int .i64 0, .int .i64 0] 31))
  have HA := Lib.hid (At2.new w (.int .i64 0) (.int .i64 0) 31)
  obtain ⟨O, hO⟩ : ∃ O : ByteArray, (⟨(frO s.data.toList).toArray⟩ : ByteArray) = O := ⟨_, rfl⟩
  obtain ⟨U, hU⟩ : ∃ U : ByteArray, (⟨(frU s.data.toList).toArray⟩ : ByteArray) = U := ⟨_, rfl⟩
  have hOl : O.data.toList = frO s.data.toList := by rw [← hO]
  have hUl : U.data.toList = frU s.data.toList := by rw [← hU]
  have hOs : O.size ≤ 1048576 := by rw [← size_toList, hOl]; unfold frO; rw [List.length_take, size_toList]; omega
  have hUs : U.size ≤ 1048576 := by rw [← size_toList, hUl]; unfold frU; rw [if_pos hk, List.length_drop, size_toList]; omega
  have HC : Hid (∀ W, DoorM W → Calls Tryd.prog 52 #[.string s, .string ⟨#[47]⟩] W fun e w' => e = .returned (.tuple #[.string O, .string U, .bool true]) ∧ Below W.heap.size W w') := fun W h => by
    obtain ⟨m, hm⟩ := h.mx
    refine (Tryd.strings_Cut s ⟨#[47]⟩ m W (by omega) hm).mono ?_
    rintro e w' ⟨rfl, q, rfl⟩
    rw [show ((⟨#[47]⟩ : ByteArray).data.toList) = [47] from rfl, cut_hitF _ hk]
    refine ⟨?_, below_drewN2 _ _⟩
    rw [← hO, ← hU]; unfold frO frU; rw [if_pos hk]
  have HR1 : Hid (∀ W, DoorM W → Calls Tryd.prog 47 #[.string O, .int .i64 1000000000000000000] W fun e w' => e = .returned (.tuple #[.int .i64 n, .bool true]) ∧ Below W.heap.size W w') := fun W h => by
    have := implRead18 O W hOs h.e
    rw [hOl, h1] at this
    exact this
  have HR2 : Hid (∀ W, DoorM W → Calls Tryd.prog 47 #[.string U, .int .i64 1000000000000000000] W fun e w' => e = .returned (.tuple #[.int .i64 d, .bool true]) ∧ Below W.heap.size W w') := fun W h => by
    have := implRead18 U W hUs h.e
    rw [hUl, h2] at this
    exact this
  have hne := bytes_other h4
  obtain ⟨X, hX⟩ : ∃ X : ByteArray, (⟨(ftx n d).toArray⟩ : ByteArray) = X := ⟨_, rfl⟩
  have hft : ftxV n d = .tuple #[.string X, .bool true] := by unfold ftxV; rw [h3, if_pos rfl, hX]
  rw [hX] at hne
  have n1 := str_ne hne
  have HT : Hid (∀ W, DoorM W → Calls Tryd.prog 19 #[.agg #[.int .i64 n, .int .i64 d]] W fun e w' => e = .returned (.tuple #[.string X, .bool true]) ∧ Below W.heap.size W w') := fun W h => by
    rw [← hft]; exact implFText n d W h.e.tab
  clear hd hOl hUl hOs hUs hft hk hO hU h1 h2 h3 h4 hX hne
  go_enter Tryd.func21, Tryd.ntmps21
  go_wp2_with fail
  refine (HC.out _ HDM.out.door).mono ?_; rintro e w1 ⟨rfl, hb1⟩
  have HA := Lib.hid (HA.out.below hb1 (by simp))
  have HDM := Lib.hid (HDM.out.call hb1)
  clear hb1
  go_wp2_with fail
  refine (HR1.out _ HDM.out.door).mono ?_; rintro e w2 ⟨rfl, hb2⟩
  have HA := Lib.hid (HA.out.below hb2 HA.out.lt)
  have HDM := Lib.hid (HDM.out.call hb2)
  clear hb2
  go_wp2_with fail
  refine (HR2.out _ HDM.out.door).mono ?_; rintro e w3 ⟨rfl, hb3⟩
  have HA := Lib.hid (HA.out.below hb3 HA.out.lt)
  have hw3 := HA.out.lt
  have HA := Lib.hid (HA.out.alloc (.cells #[.int .i64 n, .int .i64 d] 31))
  have HDM := Lib.hid ((HDM.out.call hb3).al (.cells #[.int .i64 n, .int .i64 d] 31))
  have HF := Lib.hid (At2.new w3 (.int .i64 n) (.int .i64 d) 31)
  clear hb3
  go_wp2_with fail
  refine (HT.out _ HDM.out.door).mono ?_; rintro e w4 ⟨rfl, hb4⟩
  have HA := Lib.hid (HA.out.below hb4 HA.out.lt)
  have HF := Lib.hid (HF.out.below hb4 (by simp))
  have HB := Lib.hid (HDM.out.call hb4).bel
  obtain ⟨f0, f1, -, -⟩ := HF.out
  clear hb4
  have q0 := Lib.hid (HA.out.set0 (.int .i64 0)).1
  have q1 := Lib.hid ((HA.out.set0 (.int .i64 0)).set1 (.int .i64 0)).2.1
  obtain ⟨a0, a1, a2, a3⟩ := HA.out
  go_wp2
  refine bodyPost_ret (v := .tuple #[.agg #[.int .i64 0, .int .i64 0], .bool false]) (by simp [results, Tryd.results21, go_sem, q0.out, q1.out]) rfl ⟨by rw [HV.out], ?_⟩
  exact (HB.out.setCell (Nat.le_refl _) _).setCell (Nat.le_refl _) _

set_option maxHeartbeats 2000000 in
set_option maxRecDepth 100000 in
theorem implFR_hit_y (s : ByteArray) (w : World) (hs : s.size ≤ 1048576) (hd : DoorM w) (hk : cutK s.data.toList < s.data.toList.length) (n d : Int) (h1 : rd 1000000000000000000 (frO s.data.toList) = some n) (h2 : rd 1000000000000000000 (frU s.data.toList) = some d) (h3 : fracB n d = true) (h4 : ftx n d = s.data.toList) :
    Calls Tryd.prog 21 #[.string s] w fun e w' => e = .returned (frV s.data.toList) ∧ Below w.heap.size w w' := by
  have HV := Lib.hid (frV_ok h1 h2 h3 h4)
  have HDM := Lib.hid (Dm.al (w := w) ⟨hd, Below.refl _ _⟩ (.cells #[.int .i64 0, .int .i64 0] 31))
  have HA := Lib.hid (At2.new w (.int .i64 0) (.int .i64 0) 31)
  obtain ⟨O, hO⟩ : ∃ O : ByteArray, (⟨(frO s.data.toList).toArray⟩ : ByteArray) = O := ⟨_, rfl⟩
  obtain ⟨U, hU⟩ : ∃ U : ByteArray, (⟨(frU s.data.toList).toArray⟩ : ByteArray) = U := ⟨_, rfl⟩
  have hOl : O.data.toList = frO s.data.toList := by rw [← hO]
  have hUl : U.data.toList = frU s.data.toList := by rw [← hU]
  have hOs : O.size ≤ 1048576 := by rw [← size_toList, hOl]; unfold frO; rw [List.length_take, size_toList]; omega
  have hUs : U.size ≤ 1048576 := by rw [← size_toList, hUl]; unfold frU; rw [if_pos hk, List.length_drop, size_toList]; omega
  have HC : Hid (∀ W, DoorM W → Calls Tryd.prog 52 #[.string s, .string ⟨#[47]⟩] W fun e w' => e = .returned (.tuple #[.string O, .string U, .bool true]) ∧ Below W.heap.size W w') := fun W h => by
    obtain ⟨m, hm⟩ := h.mx
    refine (Tryd.strings_Cut s ⟨#[47]⟩ m W (by omega) hm).mono ?_
    rintro e w' ⟨rfl, q, rfl⟩
    rw [show ((⟨#[47]⟩ : ByteArray).data.toList) = [47] from rfl, cut_hitF _ hk]
    refine ⟨?_, below_drewN2 _ _⟩
    rw [← hO, ← hU]; unfold frO frU; rw [if_pos hk]
  have HR1 : Hid (∀ W, DoorM W → Calls Tryd.prog 47 #[.string O, .int .i64 1000000000000000000] W fun e w' => e = .returned (.tuple #[.int .i64 n, .bool true]) ∧ Below W.heap.size W w') := fun W h => by
    have := implRead18 O W hOs h.e
    rw [hOl, h1] at this
    exact this
  have HR2 : Hid (∀ W, DoorM W → Calls Tryd.prog 47 #[.string U, .int .i64 1000000000000000000] W fun e w' => e = .returned (.tuple #[.int .i64 d, .bool true]) ∧ Below W.heap.size W w') := fun W h => by
    have := implRead18 U W hUs h.e
    rw [hUl, h2] at this
    exact this
  have hft : ftxV n d = .tuple #[.string s, .bool true] := by unfold ftxV; rw [h3, if_pos rfl, bytes_same h4]
  have HT : Hid (∀ W, DoorM W → Calls Tryd.prog 19 #[.agg #[.int .i64 n, .int .i64 d]] W fun e w' => e = .returned (.tuple #[.string s, .bool true]) ∧ Below W.heap.size W w') := fun W h => by
    rw [← hft]; exact implFText n d W h.e.tab
  clear hd hOl hUl hOs hUs hft hk hO hU h1 h2 h3 h4
  go_enter Tryd.func21, Tryd.ntmps21
  go_wp2_with fail
  refine (HC.out _ HDM.out.door).mono ?_; rintro e w1 ⟨rfl, hb1⟩
  have HA := Lib.hid (HA.out.below hb1 (by simp))
  have HDM := Lib.hid (HDM.out.call hb1)
  clear hb1
  go_wp2_with fail
  refine (HR1.out _ HDM.out.door).mono ?_; rintro e w2 ⟨rfl, hb2⟩
  have HA := Lib.hid (HA.out.below hb2 HA.out.lt)
  have HDM := Lib.hid (HDM.out.call hb2)
  clear hb2
  go_wp2_with fail
  refine (HR2.out _ HDM.out.door).mono ?_; rintro e w3 ⟨rfl, hb3⟩
  have HA := Lib.hid (HA.out.below hb3 HA.out.lt)
  have hw3 := HA.out.lt
  have HA := Lib.hid (HA.out.alloc (.cells #[.int .i64 n, .int .i64 d] 31))
  have HDM := Lib.hid ((HDM.out.call hb3).al (.cells #[.int .i64 n, .int .i64 d] 31))
  have HF := Lib.hid (At2.new w3 (.int .i64 n) (.int .i64 d) 31)
  clear hb3
  go_wp2_with fail
  refine (HT.out _ HDM.out.door).mono ?_; rintro e w4 ⟨rfl, hb4⟩
  have HA := Lib.hid (HA.out.below hb4 HA.out.lt)
  have HF := Lib.hid (HF.out.below hb4 (by simp))
  have HB := Lib.hid (HDM.out.call hb4).bel
  obtain ⟨f0, f1, -, -⟩ := HF.out
  clear hb4
  have q0 := Lib.hid (HA.out.set0 (.int .i64 n)).1
  have q1 := Lib.hid ((HA.out.set0 (.int .i64 n)).set1 (.int .i64 d)).2.1
  obtain ⟨a0, a1, a2, a3⟩ := HA.out
  go_wp2
  refine bodyPost_ret (v := .tuple #[.agg #[.int .i64 n, .int .i64 d], .bool true]) (by simp [results, Tryd.results21, go_sem, q0.out, q1.out]) rfl ⟨by rw [HV.out], ?_⟩
  exact (HB.out.setCell (Nat.le_refl _) _).setCell (Nat.le_refl _) _

set_option maxHeartbeats 2000000 in
set_option maxRecDepth 100000 in
theorem implFR_miss_o (s : ByteArray) (w : World) (hs : s.size ≤ 1048576) (hd : DoorM w) (hk : ¬ cutK s.data.toList < s.data.toList.length) (h1 : rd 1000000000000000000 (frO s.data.toList) = none) :
    Calls Tryd.prog 21 #[.string s] w fun e w' => e = .returned (frV s.data.toList) ∧ Below w.heap.size w w' := by
  have HV := Lib.hid (frV_no (.inl h1))
  have HDM := Lib.hid (Dm.al (w := w) ⟨hd, Below.refl _ _⟩ (.cells #[.int .i64 0, .int .i64 0] 31))
  have HA := Lib.hid (At2.new w (.int .i64 0) (.int .i64 0) 31)
  have hOl : s.data.toList = frO s.data.toList := (frO_miss hk).symm
  have hUl : (⟨#[49]⟩ : ByteArray).data.toList = frU s.data.toList := by unfold frU; rw [if_neg hk]
  have hOs := hs
  have hUs : (⟨#[49]⟩ : ByteArray).size ≤ 1048576 := by decide
  have HC : Hid (∀ W, DoorM W → Calls Tryd.prog 52 #[.string s, .string ⟨#[47]⟩] W fun e w' => e = .returned (.tuple #[.string s, .string ⟨#[]⟩, .bool false]) ∧ Below W.heap.size W w') := fun W h => by
    obtain ⟨m, hm⟩ := h.mx
    refine (Tryd.strings_Cut s ⟨#[47]⟩ m W (by omega) hm).mono ?_
    rintro e w' ⟨rfl, q, rfl⟩
    rw [show ((⟨#[47]⟩ : ByteArray).data.toList) = [47] from rfl, cut_missF _ hk]
    exact ⟨by rw [bytes_same rfl], below_drewN2 _ _⟩
  have HR1 : Hid (∀ W, DoorM W → Calls Tryd.prog 47 #[.string s, .int .i64 1000000000000000000] W fun e w' => e = .returned (.tuple #[.int .i64 0, .bool false]) ∧ Below W.heap.size W w') := fun W h => by
    have := implRead18 s W hOs h.e
    rw [hOl, h1] at this
    exact this
  obtain ⟨d, b2, hdb⟩ : ∃ (d : Int) (b2 : Bool), (rd 1000000000000000000 (frU s.data.toList)).getD 0 = d ∧ (rd 1000000000000000000 (frU s.data.toList)).isSome = b2 := ⟨_, _, rfl, rfl⟩
  have HR2 : Hid (∀ W, DoorM W → Calls Tryd.prog 47 #[.string ⟨#[49]⟩, .int .i64 1000000000000000000] W fun e w' => e = .returned (.tuple #[.int .i64 d, .bool b2]) ∧ Below W.heap.size W w') := fun W h => by
    have := implRead18 ⟨#[49]⟩ W hUs h.e
    rw [hUl, hdb.1, hdb.2] at this
    exact this
  obtain ⟨X, bk, hft⟩ : ∃ (X : ByteArray) (bk : Bool), ftxV 0 d = .tuple #[.string X, .bool bk] := by
    unfold ftxV; split
    · exact ⟨_, _, rfl⟩
    · exact ⟨_, _, rfl⟩
  have HT : Hid (∀ W, DoorM W → Calls Tryd.prog 19 #[.agg #[.int .i64 0, .int .i64 d]] W fun e w' => e = .returned (.tuple #[.string X, .bool bk]) ∧ Below W.heap.size W w') := fun W h => by
    rw [← hft]; exact implFText 0 d W h.e.tab
  clear hd hOl hUl hOs hUs hft hk h1 hdb
  go_enter Tryd.func21, Tryd.ntmps21
  go_wp2_with fail
  refine (HC.out _ HDM.out.door).mono ?_; rintro e w1 ⟨rfl, hb1⟩
  have HA := Lib.hid (HA.out.below hb1 (by simp))
  have HDM := Lib.hid (HDM.out.call hb1)
  clear hb1
  go_wp2_with fail
  refine (HR1.out _ HDM.out.door).mono ?_; rintro e w2 ⟨rfl, hb2⟩
  have HA := Lib.hid (HA.out.below hb2 HA.out.lt)
  have HDM := Lib.hid (HDM.out.call hb2)
  clear hb2
  go_wp2_with fail
  refine (HR2.out _ HDM.out.door).mono ?_; rintro e w3 ⟨rfl, hb3⟩
  have HA := Lib.hid (HA.out.below hb3 HA.out.lt)
  have hw3 := HA.out.lt
  have HA := Lib.hid (HA.out.alloc (.cells #[.int .i64 0, .int .i64 d] 31))
  have HDM := Lib.hid ((HDM.out.call hb3).al (.cells #[.int .i64 0, .int .i64 d] 31))
  have HF := Lib.hid (At2.new w3 (.int .i64 0) (.int .i64 d) 31)
  clear hb3
  go_wp2_with fail
  refine (HT.out _ HDM.out.door).mono ?_; rintro e w4 ⟨rfl, hb4⟩
  have HA := Lib.hid (HA.out.below hb4 HA.out.lt)
  have HF := Lib.hid (HF.out.below hb4 (by simp))
  have HB := Lib.hid (HDM.out.call hb4).bel
  obtain ⟨f0, f1, -, -⟩ := HF.out
  clear hb4
  all_goals
    have q0 := Lib.hid (HA.out.set0 (.int .i64 0)).1
    have q1 := Lib.hid ((HA.out.set0 (.int .i64 0)).set1 (.int .i64 0)).2.1
    obtain ⟨a0, a1, a2, a3⟩ := HA.out
    go_wp2
    refine bodyPost_ret (v := .tuple #[.agg #[.int .i64 0, .int .i64 0], .bool false]) (by simp [results, Tryd.results21, go_sem, q0.out, q1.out]) rfl ⟨by rw [HV.out], ?_⟩
    exact (HB.out.setCell (Nat.le_refl _) _).setCell (Nat.le_refl _) _

set_option maxHeartbeats 2000000 in
set_option maxRecDepth 100000 in
theorem implFR_miss_u (s : ByteArray) (w : World) (hs : s.size ≤ 1048576) (hd : DoorM w) (hk : ¬ cutK s.data.toList < s.data.toList.length) (n : Int) (h1 : rd 1000000000000000000 (frO s.data.toList) = some n) (h2 : rd 1000000000000000000 (frU s.data.toList) = none) :
    Calls Tryd.prog 21 #[.string s] w fun e w' => e = .returned (frV s.data.toList) ∧ Below w.heap.size w w' := by
  have HV := Lib.hid (frV_no (.inr h2))
  have HDM := Lib.hid (Dm.al (w := w) ⟨hd, Below.refl _ _⟩ (.cells #[.int .i64 0, .int .i64 0] 31))
  have HA := Lib.hid (At2.new w (.int .i64 0) (.int .i64 0) 31)
  have hOl : s.data.toList = frO s.data.toList := (frO_miss hk).symm
  have hUl : (⟨#[49]⟩ : ByteArray).data.toList = frU s.data.toList := by unfold frU; rw [if_neg hk]
  have hOs := hs
  have hUs : (⟨#[49]⟩ : ByteArray).size ≤ 1048576 := by decide
  have HC : Hid (∀ W, DoorM W → Calls Tryd.prog 52 #[.string s, .string ⟨#[47]⟩] W fun e w' => e = .returned (.tuple #[.string s, .string ⟨#[]⟩, .bool false]) ∧ Below W.heap.size W w') := fun W h => by
    obtain ⟨m, hm⟩ := h.mx
    refine (Tryd.strings_Cut s ⟨#[47]⟩ m W (by omega) hm).mono ?_
    rintro e w' ⟨rfl, q, rfl⟩
    rw [show ((⟨#[47]⟩ : ByteArray).data.toList) = [47] from rfl, cut_missF _ hk]
    exact ⟨by rw [bytes_same rfl], below_drewN2 _ _⟩
  have HR1 : Hid (∀ W, DoorM W → Calls Tryd.prog 47 #[.string s, .int .i64 1000000000000000000] W fun e w' => e = .returned (.tuple #[.int .i64 n, .bool true]) ∧ Below W.heap.size W w') := fun W h => by
    have := implRead18 s W hOs h.e
    rw [hOl, h1] at this
    exact this
  have HR2 : Hid (∀ W, DoorM W → Calls Tryd.prog 47 #[.string ⟨#[49]⟩, .int .i64 1000000000000000000] W fun e w' => e = .returned (.tuple #[.int .i64 0, .bool false]) ∧ Below W.heap.size W w') := fun W h => by
    have := implRead18 ⟨#[49]⟩ W hUs h.e
    rw [hUl, h2] at this
    exact this
  obtain ⟨X, bk, hft⟩ : ∃ (X : ByteArray) (bk : Bool), ftxV n 0 = .tuple #[.string X, .bool bk] := by
    unfold ftxV; split
    · exact ⟨_, _, rfl⟩
    · exact ⟨_, _, rfl⟩
  have HT : Hid (∀ W, DoorM W → Calls Tryd.prog 19 #[.agg #[.int .i64 n, .int .i64 0]] W fun e w' => e = .returned (.tuple #[.string X, .bool bk]) ∧ Below W.heap.size W w') := fun W h => by
    rw [← hft]; exact implFText n 0 W h.e.tab
  clear hd hOl hUl hOs hUs hft hk h1 h2
  go_enter Tryd.func21, Tryd.ntmps21
  go_wp2_with fail
  refine (HC.out _ HDM.out.door).mono ?_; rintro e w1 ⟨rfl, hb1⟩
  have HA := Lib.hid (HA.out.below hb1 (by simp))
  have HDM := Lib.hid (HDM.out.call hb1)
  clear hb1
  go_wp2_with fail
  refine (HR1.out _ HDM.out.door).mono ?_; rintro e w2 ⟨rfl, hb2⟩
  have HA := Lib.hid (HA.out.below hb2 HA.out.lt)
  have HDM := Lib.hid (HDM.out.call hb2)
  clear hb2
  go_wp2_with fail
  refine (HR2.out _ HDM.out.door).mono ?_; rintro e w3 ⟨rfl, hb3⟩
  have HA := Lib.hid (HA.out.below hb3 HA.out.lt)
  have hw3 := HA.out.lt
  have HA := Lib.hid (HA.out.alloc (.cells #[.int .i64 n, .int .i64 0] 31))
  have HDM := Lib.hid ((HDM.out.call hb3).al (.cells #[.int .i64 n, .int .i64 0] 31))
  have HF := Lib.hid (At2.new w3 (.int .i64 n) (.int .i64 0) 31)
  clear hb3
  go_wp2_with fail
  refine (HT.out _ HDM.out.door).mono ?_; rintro e w4 ⟨rfl, hb4⟩
  have HA := Lib.hid (HA.out.below hb4 HA.out.lt)
  have HF := Lib.hid (HF.out.below hb4 (by simp))
  have HB := Lib.hid (HDM.out.call hb4).bel
  obtain ⟨f0, f1, -, -⟩ := HF.out
  clear hb4
  have q0 := Lib.hid (HA.out.set0 (.int .i64 0)).1
  have q1 := Lib.hid ((HA.out.set0 (.int .i64 0)).set1 (.int .i64 0)).2.1
  obtain ⟨a0, a1, a2, a3⟩ := HA.out
  go_wp2
  refine bodyPost_ret (v := .tuple #[.agg #[.int .i64 0, .int .i64 0], .bool false]) (by simp [results, Tryd.results21, go_sem, q0.out, q1.out]) rfl ⟨by rw [HV.out], ?_⟩
  exact (HB.out.setCell (Nat.le_refl _) _).setCell (Nat.le_refl _) _

set_option maxHeartbeats 2000000 in
set_option maxRecDepth 100000 in
theorem implFR_miss_v (s : ByteArray) (w : World) (hs : s.size ≤ 1048576) (hd : DoorM w) (hk : ¬ cutK s.data.toList < s.data.toList.length) (n d : Int) (h1 : rd 1000000000000000000 (frO s.data.toList) = some n) (h2 : rd 1000000000000000000 (frU s.data.toList) = some d) (h3 : fracB n d = false) :
    Calls Tryd.prog 21 #[.string s] w fun e w' => e = .returned (frV s.data.toList) ∧ Below w.heap.size w w' := by
  have HV := Lib.hid (frV_bad h1 h2 (fun h => by rw [h3] at h; exact absurd h.1 (by decide)))
  have HDM := Lib.hid (Dm.al (w := w) ⟨hd, Below.refl _ _⟩ (.cells #[.int .i64 0, .int .i64 0] 31))
  have HA := Lib.hid (At2.new w (.int .i64 0) (.int .i64 0) 31)
  have hOl : s.data.toList = frO s.data.toList := (frO_miss hk).symm
  have hUl : (⟨#[49]⟩ : ByteArray).data.toList = frU s.data.toList := by unfold frU; rw [if_neg hk]
  have hOs := hs
  have hUs : (⟨#[49]⟩ : ByteArray).size ≤ 1048576 := by decide
  have HC : Hid (∀ W, DoorM W → Calls Tryd.prog 52 #[.string s, .string ⟨#[47]⟩] W fun e w' => e = .returned (.tuple #[.string s, .string ⟨#[]⟩, .bool false]) ∧ Below W.heap.size W w') := fun W h => by
    obtain ⟨m, hm⟩ := h.mx
    refine (Tryd.strings_Cut s ⟨#[47]⟩ m W (by omega) hm).mono ?_
    rintro e w' ⟨rfl, q, rfl⟩
    rw [show ((⟨#[47]⟩ : ByteArray).data.toList) = [47] from rfl, cut_missF _ hk]
    exact ⟨by rw [bytes_same rfl], below_drewN2 _ _⟩
  have HR1 : Hid (∀ W, DoorM W → Calls Tryd.prog 47 #[.string s, .int .i64 1000000000000000000] W fun e w' => e = .returned (.tuple #[.int .i64 n, .bool true]) ∧ Below W.heap.size W w') := fun W h => by
    have := implRead18 s W hOs h.e
    rw [hOl, h1] at this
    exact this
  have HR2 : Hid (∀ W, DoorM W → Calls Tryd.prog 47 #[.string ⟨#[49]⟩, .int .i64 1000000000000000000] W fun e w' => e = .returned (.tuple #[.int .i64 d, .bool true]) ∧ Below W.heap.size W w') := fun W h => by
    have := implRead18 ⟨#[49]⟩ W hUs h.e
    rw [hUl, h2] at this
    exact this
  have hft : ftxV n d = .tuple #[.string ⟨#[]⟩, .bool false] := by unfold ftxV; rw [h3]; rfl
  have HT : Hid (∀ W, DoorM W → Calls Tryd.prog 19 #[.agg #[.int .i64 n, .int .i64 d]] W fun e w' => e = .returned (.tuple #[.string ⟨#[]⟩, .bool false]) ∧ Below W.heap.size W w') := fun W h => by
    rw [← hft]; exact implFText n d W h.e.tab
  clear hd hOl hUl hOs hUs hft hk h1 h2 h3
  go_enter Tryd.func21, Tryd.ntmps21
  go_wp2_with fail
  refine (HC.out _ HDM.out.door).mono ?_; rintro e w1 ⟨rfl, hb1⟩
  have HA := Lib.hid (HA.out.below hb1 (by simp))
  have HDM := Lib.hid (HDM.out.call hb1)
  clear hb1
  go_wp2_with fail
  refine (HR1.out _ HDM.out.door).mono ?_; rintro e w2 ⟨rfl, hb2⟩
  have HA := Lib.hid (HA.out.below hb2 HA.out.lt)
  have HDM := Lib.hid (HDM.out.call hb2)
  clear hb2
  go_wp2_with fail
  refine (HR2.out _ HDM.out.door).mono ?_; rintro e w3 ⟨rfl, hb3⟩
  have HA := Lib.hid (HA.out.below hb3 HA.out.lt)
  have hw3 := HA.out.lt
  have HA := Lib.hid (HA.out.alloc (.cells #[.int .i64 n, .int .i64 d] 31))
  have HDM := Lib.hid ((HDM.out.call hb3).al (.cells #[.int .i64 n, .int .i64 d] 31))
  have HF := Lib.hid (At2.new w3 (.int .i64 n) (.int .i64 d) 31)
  clear hb3
  go_wp2_with fail
  refine (HT.out _ HDM.out.door).mono ?_; rintro e w4 ⟨rfl, hb4⟩
  have HA := Lib.hid (HA.out.below hb4 HA.out.lt)
  have HF := Lib.hid (HF.out.below hb4 (by simp))
  have HB := Lib.hid (HDM.out.call hb4).bel
  obtain ⟨f0, f1, -, -⟩ := HF.out
  clear hb4
  have q0 := Lib.hid (HA.out.set0 (.int .i64 0)).1
  have q1 := Lib.hid ((HA.out.set0 (.int .i64 0)).set1 (.int .i64 0)).2.1
  obtain ⟨a0, a1, a2, a3⟩ := HA.out
  go_wp2
  refine bodyPost_ret (v := .tuple #[.agg #[.int .i64 0, .int .i64 0], .bool false]) (by simp [results, Tryd.results21, go_sem, q0.out, q1.out]) rfl ⟨by rw [HV.out], ?_⟩
  exact (HB.out.setCell (Nat.le_refl _) _).setCell (Nat.le_refl _) _

set_option maxHeartbeats 2000000 in
set_option maxRecDepth 100000 in
theorem implFR_miss_t (s : ByteArray) (w : World) (hs : s.size ≤ 1048576) (hd : DoorM w) (hk : ¬ cutK s.data.toList < s.data.toList.length) (n d : Int) (h1 : rd 1000000000000000000 (frO s.data.toList) = some n) (h2 : rd 1000000000000000000 (frU s.data.toList) = some d) (h3 : fracB n d = true) (h4 : ftx n d ≠ s.data.toList) :
    Calls Tryd.prog 21 #[.string s] w fun e w' => e = .returned (frV s.data.toList) ∧ Below w.heap.size w w' := by
  have HV := Lib.hid (frV_bad h1 h2 (fun h => h4 h.2))
  have HDM := Lib.hid (Dm.al (w := w) ⟨hd, Below.refl _ _⟩ (.cells #[.int .i64 0, .int .i64 0] 31))
  have HA := Lib.hid (At2.new w (.int .i64 0) (.int .i64 0) 31)
  have hOl : s.data.toList = frO s.data.toList := (frO_miss hk).symm
  have hUl : (⟨#[49]⟩ : ByteArray).data.toList = frU s.data.toList := by unfold frU; rw [if_neg hk]
  have hOs := hs
  have hUs : (⟨#[49]⟩ : ByteArray).size ≤ 1048576 := by decide
  have HC : Hid (∀ W, DoorM W → Calls Tryd.prog 52 #[.string s, .string ⟨#[47]⟩] W fun e w' => e = .returned (.tuple #[.string s, .string ⟨#[]⟩, .bool false]) ∧ Below W.heap.size W w') := fun W h => by
    obtain ⟨m, hm⟩ := h.mx
    refine (Tryd.strings_Cut s ⟨#[47]⟩ m W (by omega) hm).mono ?_
    rintro e w' ⟨rfl, q, rfl⟩
    rw [show ((⟨#[47]⟩ : ByteArray).data.toList) = [47] from rfl, cut_missF _ hk]
    exact ⟨by rw [bytes_same rfl], below_drewN2 _ _⟩
  have HR1 : Hid (∀ W, DoorM W → Calls Tryd.prog 47 #[.string s, .int .i64 1000000000000000000] W fun e w' => e = .returned (.tuple #[.int .i64 n, .bool true]) ∧ Below W.heap.size W w') := fun W h => by
    have := implRead18 s W hOs h.e
    rw [hOl, h1] at this
    exact this
  have HR2 : Hid (∀ W, DoorM W → Calls Tryd.prog 47 #[.string ⟨#[49]⟩, .int .i64 1000000000000000000] W fun e w' => e = .returned (.tuple #[.int .i64 d, .bool true]) ∧ Below W.heap.size W w') := fun W h => by
    have := implRead18 ⟨#[49]⟩ W hUs h.e
    rw [hUl, h2] at this
    exact this
  have hne := bytes_other h4
  obtain ⟨X, hX⟩ : ∃ X : ByteArray, (⟨(ftx n d).toArray⟩ : ByteArray) = X := ⟨_, rfl⟩
  have hft : ftxV n d = .tuple #[.string X, .bool true] := by unfold ftxV; rw [h3, if_pos rfl, hX]
  rw [hX] at hne
  have n1 := str_ne hne
  have HT : Hid (∀ W, DoorM W → Calls Tryd.prog 19 #[.agg #[.int .i64 n, .int .i64 d]] W fun e w' => e = .returned (.tuple #[.string X, .bool true]) ∧ Below W.heap.size W w') := fun W h => by
    rw [← hft]; exact implFText n d W h.e.tab
  clear hd hOl hUl hOs hUs hft hk h1 h2 h3 h4 hX hne
  go_enter Tryd.func21, Tryd.ntmps21
  go_wp2_with fail
  refine (HC.out _ HDM.out.door).mono ?_; rintro e w1 ⟨rfl, hb1⟩
  have HA := Lib.hid (HA.out.below hb1 (by simp))
  have HDM := Lib.hid (HDM.out.call hb1)
  clear hb1
  go_wp2_with fail
  refine (HR1.out _ HDM.out.door).mono ?_; rintro e w2 ⟨rfl, hb2⟩
  have HA := Lib.hid (HA.out.below hb2 HA.out.lt)
  have HDM := Lib.hid (HDM.out.call hb2)
  clear hb2
  go_wp2_with fail
  refine (HR2.out _ HDM.out.door).mono ?_; rintro e w3 ⟨rfl, hb3⟩
  have HA := Lib.hid (HA.out.below hb3 HA.out.lt)
  have hw3 := HA.out.lt
  have HA := Lib.hid (HA.out.alloc (.cells #[.int .i64 n, .int .i64 d] 31))
  have HDM := Lib.hid ((HDM.out.call hb3).al (.cells #[.int .i64 n, .int .i64 d] 31))
  have HF := Lib.hid (At2.new w3 (.int .i64 n) (.int .i64 d) 31)
  clear hb3
  go_wp2_with fail
  refine (HT.out _ HDM.out.door).mono ?_; rintro e w4 ⟨rfl, hb4⟩
  have HA := Lib.hid (HA.out.below hb4 HA.out.lt)
  have HF := Lib.hid (HF.out.below hb4 (by simp))
  have HB := Lib.hid (HDM.out.call hb4).bel
  obtain ⟨f0, f1, -, -⟩ := HF.out
  clear hb4
  have q0 := Lib.hid (HA.out.set0 (.int .i64 0)).1
  have q1 := Lib.hid ((HA.out.set0 (.int .i64 0)).set1 (.int .i64 0)).2.1
  obtain ⟨a0, a1, a2, a3⟩ := HA.out
  go_wp2
  refine bodyPost_ret (v := .tuple #[.agg #[.int .i64 0, .int .i64 0], .bool false]) (by simp [results, Tryd.results21, go_sem, q0.out, q1.out]) rfl ⟨by rw [HV.out], ?_⟩
  exact (HB.out.setCell (Nat.le_refl _) _).setCell (Nat.le_refl _) _

set_option maxHeartbeats 2000000 in
set_option maxRecDepth 100000 in
theorem implFR_miss_y (s : ByteArray) (w : World) (hs : s.size ≤ 1048576) (hd : DoorM w) (hk : ¬ cutK s.data.toList < s.data.toList.length) (n d : Int) (h1 : rd 1000000000000000000 (frO s.data.toList) = some n) (h2 : rd 1000000000000000000 (frU s.data.toList) = some d) (h3 : fracB n d = true) (h4 : ftx n d = s.data.toList) :
    Calls Tryd.prog 21 #[.string s] w fun e w' => e = .returned (frV s.data.toList) ∧ Below w.heap.size w w' := by
  have HV := Lib.hid (frV_ok h1 h2 h3 h4)
  have HDM := Lib.hid (Dm.al (w := w) ⟨hd, Below.refl _ _⟩ (.cells #[.int .i64 0, .int .i64 0] 31))
  have HA := Lib.hid (At2.new w (.int .i64 0) (.int .i64 0) 31)
  have hOl : s.data.toList = frO s.data.toList := (frO_miss hk).symm
  have hUl : (⟨#[49]⟩ : ByteArray).data.toList = frU s.data.toList := by unfold frU; rw [if_neg hk]
  have hOs := hs
  have hUs : (⟨#[49]⟩ : ByteArray).size ≤ 1048576 := by decide
  have HC : Hid (∀ W, DoorM W → Calls Tryd.prog 52 #[.string s, .string ⟨#[47]⟩] W fun e w' => e = .returned (.tuple #[.string s, .string ⟨#[]⟩, .bool false]) ∧ Below W.heap.size W w') := fun W h => by
    obtain ⟨m, hm⟩ := h.mx
    refine (Tryd.strings_Cut s ⟨#[47]⟩ m W (by omega) hm).mono ?_
    rintro e w' ⟨rfl, q, rfl⟩
    rw [show ((⟨#[47]⟩ : ByteArray).data.toList) = [47] from rfl, cut_missF _ hk]
    exact ⟨by rw [bytes_same rfl], below_drewN2 _ _⟩
  have HR1 : Hid (∀ W, DoorM W → Calls Tryd.prog 47 #[.string s, .int .i64 1000000000000000000] W fun e w' => e = .returned (.tuple #[.int .i64 n, .bool true]) ∧ Below W.heap.size W w') := fun W h => by
    have := implRead18 s W hOs h.e
    rw [hOl, h1] at this
    exact this
  have HR2 : Hid (∀ W, DoorM W → Calls Tryd.prog 47 #[.string ⟨#[49]⟩, .int .i64 1000000000000000000] W fun e w' => e = .returned (.tuple #[.int .i64 d, .bool true]) ∧ Below W.heap.size W w') := fun W h => by
    have := implRead18 ⟨#[49]⟩ W hUs h.e
    rw [hUl, h2] at this
    exact this
  have hft : ftxV n d = .tuple #[.string s, .bool true] := by unfold ftxV; rw [h3, if_pos rfl, bytes_same h4]
  have HT : Hid (∀ W, DoorM W → Calls Tryd.prog 19 #[.agg #[.int .i64 n, .int .i64 d]] W fun e w' => e = .returned (.tuple #[.string s, .bool true]) ∧ Below W.heap.size W w') := fun W h => by
    rw [← hft]; exact implFText n d W h.e.tab
  clear hd hOl hUl hOs hUs hft hk h1 h2 h3 h4
  go_enter Tryd.func21, Tryd.ntmps21
  go_wp2_with fail
  refine (HC.out _ HDM.out.door).mono ?_; rintro e w1 ⟨rfl, hb1⟩
  have HA := Lib.hid (HA.out.below hb1 (by simp))
  have HDM := Lib.hid (HDM.out.call hb1)
  clear hb1
  go_wp2_with fail
  refine (HR1.out _ HDM.out.door).mono ?_; rintro e w2 ⟨rfl, hb2⟩
  have HA := Lib.hid (HA.out.below hb2 HA.out.lt)
  have HDM := Lib.hid (HDM.out.call hb2)
  clear hb2
  go_wp2_with fail
  refine (HR2.out _ HDM.out.door).mono ?_; rintro e w3 ⟨rfl, hb3⟩
  have HA := Lib.hid (HA.out.below hb3 HA.out.lt)
  have hw3 := HA.out.lt
  have HA := Lib.hid (HA.out.alloc (.cells #[.int .i64 n, .int .i64 d] 31))
  have HDM := Lib.hid ((HDM.out.call hb3).al (.cells #[.int .i64 n, .int .i64 d] 31))
  have HF := Lib.hid (At2.new w3 (.int .i64 n) (.int .i64 d) 31)
  clear hb3
  go_wp2_with fail
  refine (HT.out _ HDM.out.door).mono ?_; rintro e w4 ⟨rfl, hb4⟩
  have HA := Lib.hid (HA.out.below hb4 HA.out.lt)
  have HF := Lib.hid (HF.out.below hb4 (by simp))
  have HB := Lib.hid (HDM.out.call hb4).bel
  obtain ⟨f0, f1, -, -⟩ := HF.out
  clear hb4
  have q0 := Lib.hid (HA.out.set0 (.int .i64 n)).1
  have q1 := Lib.hid ((HA.out.set0 (.int .i64 n)).set1 (.int .i64 d)).2.1
  obtain ⟨a0, a1, a2, a3⟩ := HA.out
  go_wp2
  refine bodyPost_ret (v := .tuple #[.agg #[.int .i64 n, .int .i64 d], .bool true]) (by simp [results, Tryd.results21, go_sem, q0.out, q1.out]) rfl ⟨by rw [HV.out], ?_⟩
  exact (HB.out.setCell (Nat.le_refl _) _).setCell (Nat.le_refl _) _

theorem implFRead (s : ByteArray) (w : World) (hs : s.size ≤ 1048576) (hd : DoorM w) :
    Calls Tryd.prog 21 #[.string s] w fun e w' => e = .returned (frV s.data.toList) ∧ Below w.heap.size w w' := by
  by_cases hk : cutK s.data.toList < s.data.toList.length
  · cases h1 : rd 1000000000000000000 (frO s.data.toList) with
    | none => exact implFR_hit_o s w hs hd hk h1
    | some n =>
      cases h2 : rd 1000000000000000000 (frU s.data.toList) with
      | none => exact implFR_hit_u s w hs hd hk n h1 h2
      | some d =>
        cases h3 : fracB n d with
        | false => exact implFR_hit_v s w hs hd hk n d h1 h2 h3
        | true =>
          by_cases h4 : ftx n d = s.data.toList
          · exact implFR_hit_y s w hs hd hk n d h1 h2 h3 h4
          · exact implFR_hit_t s w hs hd hk n d h1 h2 h3 h4
  · cases h1 : rd 1000000000000000000 (frO s.data.toList) with
    | none => exact implFR_miss_o s w hs hd hk h1
    | some n =>
      cases h2 : rd 1000000000000000000 (frU s.data.toList) with
      | none => exact implFR_miss_u s w hs hd hk n h1 h2
      | some d =>
        cases h3 : fracB n d with
        | false => exact implFR_miss_v s w hs hd hk n d h1 h2 h3
        | true =>
          by_cases h4 : ftx n d = s.data.toList
          · exact implFR_miss_y s w hs hd hk n d h1 h2 h3 h4
          · exact implFR_miss_t s w hs hd hk n d h1 h2 h3 h4
end Go.Proofs.YthigopehalkoaaaDoor
