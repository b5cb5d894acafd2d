/- Whether an order keeps a ratio, on the side of the program. -/
import Derived.Test.YtomdoamfdidghabDoorOrdMath
import Derived.Test.YtomdoamfdidghabDoorIn64
import Derived.Test.YtomdoamfdidghabDoorShelf
import Derived.Shelf.Strings.SlTrimAscii
import Derived.IntWalk
import Derived.Deep.RegionWith
namespace Go.Proofs.YtomdoamfdidghabDoor
open Go.RowKit
set_option linter.unusedVariables false
theorem bwo {B : Nat} {a w : World} (h : Below B a w) (n : Nat) : Below B a (w.drewN n) := ⟨h.os, h.tape, h.output, h.size, h.block⟩
theorem steps_trim (s : ByteArray) (w : World) (h0 : 0 < s.size) (hs : s.size ≤ 300) :
    Calls Tryd.prog 13 #[.string s, .string ⟨#[114, 115]⟩] w fun e w' => e = .returned (.string ⟨(Lib.trimS s.data.toList [114, 115]).toArray⟩) ∧ Below w.heap.size w w' :=
  (Any.strings_Trim_set Tryd.lays160 (fun w => by kernel_rfl) (by kernel_rfl) s ⟨#[114, 115]⟩ w (by decide) h0 (by omega) (by decide) (by intro j b h; rcases j with _ | _ | j <;> simp at h <;> subst h <;> decide)).mono fun e w' h => by
    obtain ⟨h1, q, rfl⟩ := h
    exact ⟨h1, bwo (((Below.refl _ _).alloc (Nat.le_refl _) _).alloc (by simp) _) q⟩
theorem trim_mt (w : World) :
    Calls Tryd.prog 13 #[.string ⟨#[]⟩, .string ⟨#[114, 115]⟩] w fun e w' => e = .returned (.string ⟨#[]⟩) ∧ Below w.heap.size w w' := by
  go_enter Tryd.func13, Tryd.ntmps13
  go_wp2
  go_ret
  exact ⟨rfl, Below.refl _ _⟩
theorem trim_any (s : ByteArray) (w : World) (hs : s.size ≤ 300) :
    Calls Tryd.prog 13 #[.string s, .string ⟨#[114, 115]⟩] w fun e w' => e = .returned (.string ⟨(Lib.trimS s.data.toList [114, 115]).toArray⟩) ∧ Below w.heap.size w w' := by
  by_cases h0 : 0 < s.size
  · exact steps_trim s w h0 hs
  · have e : s = ⟨#[]⟩ := by
      rcases s with ⟨a⟩
      have : a.size = 0 := by have : (⟨a⟩ : ByteArray).size = a.size := rfl; omega
      rw [Array.eq_empty_of_size_eq_zero this]
    subst e
    exact trim_mt w
theorem areSteps_t (s : ByteArray) (w : World) (hs : s.size ≤ 300) (h : stepB s.data.toList = true) :
    Calls Tryd.prog 8 #[.string s] w fun e w' => e = .returned (.bool true) ∧ Below w.heap.size w w' := by
  have HT := Lib.hid (trim_any s w hs)
  rw [(trim_nil s.data.toList [114, 115]).2 h] at HT
  clear h
  go_enter Tryd.func8, Tryd.ntmps8
  go_wp2_with fail
  refine HT.out.mono ?_; rintro e w1 ⟨rfl, hb1⟩
  go_wp2
  go_ret
  exact ⟨rfl, hb1⟩
theorem areSteps_f (s : ByteArray) (w : World) (hs : s.size ≤ 300) (h : stepB s.data.toList = false) :
    Calls Tryd.prog 8 #[.string s] w fun e w' => e = .returned (.bool false) ∧ Below w.heap.size w w' := by
  have HT := Lib.hid (trim_any s w hs)
  have hne : Lib.trimS s.data.toList [114, 115] ≠ [] := fun e => by
    have := (trim_nil s.data.toList [114, 115]).1 e
    unfold stepB at h
    rw [this] at h; cases h
  obtain ⟨t, ht⟩ : ∃ t : ByteArray, (⟨(Lib.trimS s.data.toList [114, 115]).toArray⟩ : ByteArray) = t := ⟨_, rfl⟩
  have he : t.toList.isEmpty = false := by
    rw [← ht, Lib.toList_data]
    cases hl : Lib.trimS s.data.toList [114, 115] with
    | nil => exact absurd hl hne
    | cons a l => rfl
  rw [ht] at HT
  clear h hne ht
  go_enter Tryd.func8, Tryd.ntmps8
  go_wp2_with fail
  refine HT.out.mono ?_; rintro e w1 ⟨rfl, hb1⟩
  go_wp2
  go_ret
  exact ⟨by simp, hb1⟩
theorem areSteps_l (s : ByteArray) (w : World) (hs : ¬ s.size ≤ 300) (hs2 : s.size ≤ 1048576) :
    Calls Tryd.prog 8 #[.string s] w fun e w' => e = .returned (.bool false) ∧ Below w.heap.size w w' := by
  have hd : decide ((s.size : Int) ≤ 300) = false := decide_eq_false (by omega)
  go_enter Tryd.func8, Tryd.ntmps8
  go_wp2
  go_ret
  exact ⟨rfl, Below.refl _ _⟩
def ordB (s : ByteArray) : Bool := decide (s.size ≤ 300) && stepB s.data.toList
theorem areSteps_any (s : ByteArray) (w : World) (hs2 : s.size ≤ 1048576) :
    Calls Tryd.prog 8 #[.string s] w fun e w' => e = .returned (.bool (ordB s)) ∧ Below w.heap.size w w' := by
  by_cases hs : s.size ≤ 300
  · cases h : stepB s.data.toList with
    | true => rw [show ordB s = true by unfold ordB; rw [h, decide_eq_true hs]; rfl]; exact areSteps_t s w hs h
    | false => rw [show ordB s = false by unfold ordB; rw [h, Bool.and_false]]; exact areSteps_f s w hs h
  · rw [show ordB s = false by unfold ordB; rw [decide_eq_false hs, Bool.false_and]]; exact areSteps_l s w hs hs2
/-- the program's answer -/
def ordI (s : ByteArray) (m : Nat) : Bool := !Lib.contains s.data.toList (List.replicate (m + 1) 114) && !Lib.contains s.data.toList (List.replicate (m + 1) 115)
set_option maxHeartbeats 1000000 in
theorem implOrder_t (s : ByteArray) (m : Nat) (w : World) (mx : Int) (hmx : w.cell? ⟨0, 0, none⟩ = some (.int .i64 mx)) (hs2 : s.size ≤ 1048576) (h : ordB s = true) (hm1 : 1 ≤ m) (hm4 : m ≤ 4) :
    Calls Tryd.prog 5 #[.string s, .int .i64 (m : Int)] w fun e w' => e = .returned (.bool (ordI s m)) ∧ Below w.heap.size w w' := by
  have HS := Lib.hid (areSteps_any s w hs2)
  rw [h] at HS
  clear h
  have hlt := World.block_lt_of_cell? w _ hmx
  have HMX := Lib.hid hmx
  have RR := Lib.hid (fun W => Tryd.strings_Repeat_main ⟨#[114]⟩ (m + 1) W (by omega) (by omega) (by show 1 * (m + 1) ≤ _; omega) (by decide))
  have RS := Lib.hid (fun W => Tryd.strings_Repeat_main ⟨#[115]⟩ (m + 1) W (by omega) (by omega) (by show 1 * (m + 1) ≤ _; omega) (by decide))
  rw [show (⟨#[114]⟩ : ByteArray).data.toList = [114] from rfl, repeat_rep] at RR
  rw [show (⟨#[115]⟩ : ByteArray).data.toList = [115] from rfl, repeat_rep] at RS
  have CR := Lib.hid (fun (W : World) (h : W.cell? ⟨0, 0, none⟩ = some (.int .i64 mx)) => Tryd.strings_Contains s ⟨(List.replicate (m + 1) (114 : UInt8)).toArray⟩ mx W (by omega) h)
  have CS := Lib.hid (fun (W : World) (h : W.cell? ⟨0, 0, none⟩ = some (.int .i64 mx)) => Tryd.strings_Contains s ⟨(List.replicate (m + 1) (115 : UInt8)).toArray⟩ mx W (by omega) h)
  obtain ⟨tr, htr⟩ : ∃ t : ByteArray, (⟨(List.replicate (m + 1) (114 : UInt8)).toArray⟩ : ByteArray) = t := ⟨_, rfl⟩
  obtain ⟨ts, hts⟩ : ∃ t : ByteArray, (⟨(List.replicate (m + 1) (115 : UInt8)).toArray⟩ : ByteArray) = t := ⟨_, rfl⟩
  have etr : tr.data.toList = List.replicate (m + 1) 114 := by rw [← htr]
  have ets : ts.data.toList = List.replicate (m + 1) 115 := by rw [← hts]
  rw [htr] at RR CR
  rw [hts] at RS CS
  rw [etr] at CR
  rw [ets] at CS
  obtain ⟨br, hbr⟩ : ∃ b, Lib.contains s.data.toList (List.replicate (m + 1) 114) = b := ⟨_, rfl⟩
  obtain ⟨bs, hbs⟩ : ∃ b, Lib.contains s.data.toList (List.replicate (m + 1) 115) = b := ⟨_, rfl⟩
  have HE := Lib.hid (show ordI s m = (!br && !bs) by unfold ordI; rw [hbr, hbs])
  rw [hbr] at CR
  rw [hbs] at CS
  clear hbr hbs etr ets htr hts hmx
  obtain ⟨c, hc⟩ : ∃ c, m + 1 = c := ⟨_, rfl⟩
  rw [hc] at RR RS
  have e1 : (m : Int) + 1 = (c : Int) := by omega
  have e2 : IntKind.i64.wrap (c : Int) = (c : Int) := IntWalk.i64_in _ (by omega)
  clear hc
  rw [HE.out]
  cases br with
  | true =>
    go_enter Tryd.func5, Tryd.ntmps5
    go_wp2_with fail
    refine HS.out.mono ?_; rintro e w1 ⟨rfl, hb1⟩
    have HX1 := Lib.hid ((hb1.cell (p := ⟨0, 0, none⟩) hlt).trans HMX.out)
    have HB1 := Lib.hid hb1
    clear hb1
    go_wp2_with fail
    refine (within_i64_t _ _ _ _ (by omega) (by omega)).mono ?_; rintro e w' ⟨rfl, rfl⟩
    go_wp2_with fail
    refine (RR.out _).mono ?_; rintro e w2 ⟨rfl, hb2⟩
    have HX2 := Lib.hid ((hb2.cell (p := ⟨0, 0, none⟩) (Nat.lt_of_lt_of_le hlt HB1.out.size)).trans HX1.out)
    have HB2 := Lib.hid (HB1.out.trans (hb2.mono HB1.out.size))
    clear hb2
    go_wp2_with fail
    refine (CR.out _ HX2.out).mono ?_; rintro e w' ⟨rfl, rfl⟩
    go_wp2
    go_ret
    exact ⟨rfl, HB2.out⟩
  | false =>
    go_enter Tryd.func5, Tryd.ntmps5
    go_wp2_with fail
    refine HS.out.mono ?_; rintro e w1 ⟨rfl, hb1⟩
    have HX1 := Lib.hid ((hb1.cell (p := ⟨0, 0, none⟩) hlt).trans HMX.out)
    have HB1 := Lib.hid hb1
    clear hb1
    go_wp2_with fail
    refine (within_i64_t _ _ _ _ (by omega) (by omega)).mono ?_; rintro e w' ⟨rfl, rfl⟩
    go_wp2_with fail
    refine (RR.out _).mono ?_; rintro e w2 ⟨rfl, hb2⟩
    have HX2 := Lib.hid ((hb2.cell (p := ⟨0, 0, none⟩) (Nat.lt_of_lt_of_le hlt HB1.out.size)).trans HX1.out)
    have HB2 := Lib.hid (HB1.out.trans (hb2.mono HB1.out.size))
    clear hb2
    go_wp2_with fail
    refine (CR.out _ HX2.out).mono ?_; rintro e w' ⟨rfl, rfl⟩
    go_wp2_with fail
    refine (RS.out _).mono ?_; rintro e w3 ⟨rfl, hb3⟩
    have HX3 := Lib.hid ((hb3.cell (p := ⟨0, 0, none⟩) (Nat.lt_of_lt_of_le hlt HB2.out.size)).trans HX2.out)
    have HB3 := Lib.hid (HB2.out.trans (hb3.mono HB2.out.size))
    clear hb3
    go_wp2_with fail
    refine (CS.out _ HX3.out).mono ?_; rintro e w' ⟨rfl, rfl⟩
    go_wp2
    go_ret
    exact ⟨rfl, HB3.out⟩
end Go.Proofs.YtomdoamfdidghabDoor
