/- strings.SplitSeq at a separator of one byte, told: it yields the pieces. -/
import Derived.Test.YtemjohkieehojaaDoorToldL
import Derived.Test.YtemjohkieehojaaDoorPieM
import Derived.Test.YtemjohkieehojaaDoorShelf
import Derived.Test.YtemjohkieehojaaDoorIn64
import Derived.RangeFuncBox
import Derived.RangeFuncLeaves
import Derived.Shelf.Abstract
import Derived.WalkKit
import Derived.OwnWalkIn
import Derived.TacticsInMore
import Derived.LoopNIn
import Derived.LoopIn
import Derived.Lib.OthersKept
import Derived.WalkSmall
import Derived.Lib.IndexBytes
namespace Go.Proofs.YtemjohkieehojaaDoor
open Go.RowKit Go.Shelf
set_option linter.unusedVariables false
set_option linter.unusedSimpArgs false
attribute [local go_sem] Oper.semAt_some
abbrev MineS : List TypeId := [9, 3]
theorem indexByte_pcK (c : UInt8) (l : List UInt8) : Lib.indexByte l c = if pcK c l < l.length then (pcK c l : Int) else -1 := by
  rw [← Lib.index_one, index_pcK]
theorem splitSeq_told0 (n : Nat) (s sep : ByteArray) (w : World) :
    CallsIn Fence.wide n Tryd.prog 40 #[.string s, .string sep, .int .i64 0] w fun e w' => e = .returned (.func (.func 58) #[] #[.pointer (some ⟨w.heap.size + 1, 0, none⟩), .pointer (some ⟨w.heap.size, 0, none⟩), .pointer (some ⟨w.heap.size + 1 + 1, 0, none⟩)]) ∧ w' = ((w.alloc (.cells #[.string s] 9)).alloc (.cells #[.string sep] 9)).alloc (.cells #[.int .i64 0] 3) := by
  refine callsIn_of_wp Tryd.func40 rfl trivial ?_ rfl
  simp only [Tryd.ntmps40, List.size_toArray, List.length_cons, List.length_nil, Nat.reduceAdd, Nat.reduceSub, Array.replicate_succ, Array.replicate_zero, List.push_toArray, List.append_toArray, List.nil_append, List.cons_append]
  gi_wp2
  go_ret
  exact ⟨rfl, rfl⟩
theorem splitSeq_told (n : Nat) (h1 : 1 ≤ n) (s sep : ByteArray) (w : World) :
    CallsIn Fence.wide n Tryd.prog 19 #[.string s, .string sep] w fun e w' => e = .returned (.func (.func 58) #[] #[.pointer (some ⟨w.heap.size + 1, 0, none⟩), .pointer (some ⟨w.heap.size, 0, none⟩), .pointer (some ⟨w.heap.size + 1 + 1, 0, none⟩)]) ∧ w' = ((w.alloc (.cells #[.string s] 9)).alloc (.cells #[.string sep] 9)).alloc (.cells #[.int .i64 0] 3) := by
  refine callsIn_of_wp Tryd.func19 rfl trivial ?_ rfl
  simp only [Tryd.ntmps19, List.size_toArray, List.length_cons, List.length_nil, Nat.reduceAdd, Nat.reduceSub, Array.replicate_succ, Array.replicate_zero, List.push_toArray, List.append_toArray, List.nil_append, List.cons_append]
  gi_wp2_with fail
  refine ⟨trivial, ?_⟩
  refine (splitSeq_told0 (n - 1) s sep _).mono ?_
  rintro e w2 ⟨rfl, rfl⟩
  gi_wp2
  go_ret
  exact ⟨rfl, rfl⟩
theorem heap_set_otherS {W : World} {k j : Nat} (h : j ≠ k) (v : Value) : (W.setCell ⟨k, 0, none⟩ v).heap[j]? = W.heap[j]? := Below.heap_setCell W ⟨k, 0, none⟩ v j h
/-- how far the iterator has come -/
def SplJ (J : List (List UInt8) → World → Prop) (bs bp bv : Nat) (c : UInt8) (T : List UInt8) (pre : List (List UInt8)) (t : ByteArray) (W : World) : Prop :=
  W.heap[bs]? = some (.cells #[.string t] 9 (0, 0)) ∧ W.heap[bp]? = some (.cells #[.string ⟨#[c]⟩] 9 (0, 0)) ∧ W.heap[bv]? = some (.cells #[.int .i64 0] 3 (0, 0)) ∧ pcs c T = pre ++ pcs c t.data.toList ∧ J pre W
def restS (bs : Nat) (w : World) : Nat := match w.cell? ⟨bs, 0, none⟩ with
  | some (.string t) => t.size
  | _ => 0
theorem restS_of {bs : Nat} {w : World} {t : ByteArray} {ty : TypeId} (h : w.heap[bs]? = some (.cells #[.string t] ty (0, 0))) : restS bs w = t.size := by
  unfold restS; rw [show w.cell? ⟨bs, 0, none⟩ = _ from Lib.cell_of_heap h 0]; rfl
set_option maxRecDepth 100000 in
set_option maxHeartbeats 1000000 in
theorem split_told (n : Nat) (hn : 2 ≤ n) (bs bp bv : Nat) (c : UInt8) (s : ByteArray) (hsz : s.size ≤ 1048576) (w : World) (hbs : bs < w.heap.size) (hbp : bp < w.heap.size) (hbv : bv < w.heap.size) (hne : bp ≠ bs) (hnv : bv ≠ bs)
    (hcs : w.heap[bs]? = some (.cells #[.string s] 9 (0, 0))) (hcp : w.heap[bp]? = some (.cells #[.string ⟨#[c]⟩] 9 (0, 0))) (hcv : w.heap[bv]? = some (.cells #[.int .i64 0] 3 (0, 0))) :
    TellsL MineS bs Fence.wide n Tryd.prog 58 #[.pointer (some ⟨bp, 0, none⟩), .pointer (some ⟨bs, 0, none⟩), .pointer (some ⟨bv, 0, none⟩)] (fun x : List UInt8 => #[Value.string ⟨x.toArray⟩]) (pcs c s.data.toList) w := by
  intro l J Jx W hbW hJ hJx hY h0
  have hcs : W.heap[bs]? = some (.cells #[.string s] 9 (0, 0)) := (hbW.block bs hbs).trans hcs
  have hcp : W.heap[bp]? = some (.cells #[.string ⟨#[c]⟩] 9 (0, 0)) := (hbW.block bp hbp).trans hcp
  have hcv : W.heap[bv]? = some (.cells #[.int .i64 0] 3 (0, 0)) := (hbW.block bv hbv).trans hcv
  have HST : Hid (SplJ J bs bp bv c s.data.toList [] s W) := ⟨hcs, hcp, hcv, by simp, h0⟩
  have HY := Lib.hid hY
  have HJ := Lib.hid hJ
  have cp : W.cell? ⟨bp, 0, none⟩ = some (.string ⟨#[c]⟩) := by rw [show W.cell? ⟨bp, 0, none⟩ = _ from Lib.cell_of_heap hcp 0]; rfl
  have e1 : (({ data := #[c] } : ByteArray).size : Int) = 1 := rfl
  have e2 : ({ data := #[c] } : ByteArray).size = 1 := rfl
  have h1 : 1 ≤ n := by omega
  clear hY hJ hJx hbW h0
  refine callsIn_of_wp Tryd.func58 rfl trivial ?_ rfl
  simp only [Tryd.ntmps58, List.size_toArray, List.length_cons, List.length_nil, Nat.reduceAdd, Nat.reduceSub, Array.replicate_succ, Array.replicate_zero, List.push_toArray, List.append_toArray, List.nil_append, List.cons_append]
  gi_wp2
  gi_loopw [7, 8] (fun _ _ wr => ∃ (pre : List (List UInt8)) (t : ByteArray), Hid (SplJ J bs bp bv c s.data.toList pre t wr) ∧ t.size ≤ 1048576) (fun _ _ wr => restS bs wr)
  case atStart => exact ⟨[], s, HST, hsz⟩
  case round =>
    obtain ⟨pre, t, HS, hts⟩ := hrel
    obtain ⟨g1, g2, g3, g4, g5⟩ := HS.out
    have c1 : wr.cell? ⟨bs, 0, none⟩ = some (.string t) := by rw [show wr.cell? ⟨bs, 0, none⟩ = _ from Lib.cell_of_heap g1 0]; rfl
    have c2 : wr.cell? ⟨bp, 0, none⟩ = some (.string ⟨#[c]⟩) := by rw [show wr.cell? ⟨bp, 0, none⟩ = _ from Lib.cell_of_heap g2 0]; rfl
    have c3 : wr.cell? ⟨bv, 0, none⟩ = some (.int .i64 0) := by rw [show wr.cell? ⟨bv, 0, none⟩ = _ from Lib.cell_of_heap g3 0]; rfl
    have HIX := Lib.hid (Tryd.strings_Index_one t c wr)
    rw [indexByte_pcK] at HIX
    clear c1 g1 g2 g3 g5 HIX
    obtain ⟨x, rfl⟩ : ∃ x : List UInt8, t = ⟨x.toArray⟩ := ⟨t.data.toList, by cases t; simp⟩
    have hxl : (⟨x.toArray⟩ : ByteArray).data.toList = x := by simp
    have HXL := Lib.hid hxl
    have hxs : (⟨x.toArray⟩ : ByteArray).size = x.length := by rw [← size_toList, hxl]
    rw [hxl] at g4
    have HIX := Lib.hid (Tryd.strings_Index_one ⟨x.toArray⟩ c wr)
    rw [indexByte_pcK, hxl] at HIX
    rw [hxs] at hts
    have c1 : wr.cell? ⟨bs, 0, none⟩ = some (.string ⟨x.toArray⟩) := by rw [show wr.cell? ⟨bs, 0, none⟩ = _ from Lib.cell_of_heap HS.out.1 0]; rfl
    by_cases hk : pcK c x < x.length
    · rw [if_pos hk] at HIX
      rw [pcs_hit c x hk] at g4
      obtain ⟨k, hke⟩ : ∃ k, pcK c x = k := ⟨_, rfl⟩
      rw [hke] at hk HIX g4
      obtain ⟨y, hye⟩ : ∃ y, x.take k = y := ⟨_, rfl⟩
      obtain ⟨z, hze⟩ : ∃ z, x.drop (k + 1) = z := ⟨_, rfl⟩
      rw [hye, hze] at g4
      have hex : (⟨x.toArray⟩ : ByteArray).extract 0 k = ⟨y.toArray⟩ := by
        rw [← hye]; apply ByteArray.ext; apply Array.toList_inj.1; rw [Lib.extract_eq]; simp
      have hez : (⟨x.toArray⟩ : ByteArray).extract (k + 1) (⟨x.toArray⟩ : ByteArray).size = ⟨z.toArray⟩ := by
        rw [← hze, hxs]; apply ByteArray.ext; apply Array.toList_inj.1; rw [Lib.extract_eq]; simp; rw [List.take_of_length_le (by simp)]
      have hez2 : (⟨x.toArray⟩ : ByteArray).extract (k + 1) x.length = ⟨z.toArray⟩ := by rw [← hxs]; exact hez
      have hzl : z.length < x.length := by rw [← hze]; simp; omega
      have HG4 := Lib.hid g4
      obtain ⟨fn, tmps, assign, body, hy, hR⟩ := HY.out pre y (pcs c z) wr g4.symm HS.out.2.2.2.2
      have HR := Lib.hid hR
      clear hke hye hze hR g4
      have hw1 : IntKind.i64.wrap ((k : Int) + 0) = (k : Int) := by rw [IntWalk.i64_in _ (by omega)]; omega
      have hw2 : IntKind.i64.wrap ((k : Int) + 1) = ((k + 1 : Nat) : Int) := by rw [IntWalk.i64_in _ (by omega)]; omega
      gi_wp2_with fail
      refine ⟨trivial, ?_⟩
      refine (callsIn_wide.2 HIX.out).mono ?_
      rintro e w2 ⟨rfl, h2⟩
      rw [h2]
      clear h2
      gi_wp2
      refine HR.out.mono ?_
      rintro e W3 (⟨rfl, hJ3, hk3⟩ | ⟨rfl, hJx⟩)
      · have s1 := hk3.same _ _ HS.out.1 (by simp [isHis])
        have s2 := hk3.same _ _ HS.out.2.1 (by simp [isHis])
        have s3 := hk3.same _ _ HS.out.2.2.1 (by simp [isHis])
        have d1 : W3.cell? ⟨bs, 0, none⟩ = some (.string ⟨x.toArray⟩) := by rw [show W3.cell? ⟨bs, 0, none⟩ = _ from Lib.cell_of_heap s1 0]; rfl
        have d2 : W3.cell? ⟨bp, 0, none⟩ = some (.string ⟨#[c]⟩) := by rw [show W3.cell? ⟨bp, 0, none⟩ = _ from Lib.cell_of_heap s2 0]; rfl
        have f1 : W3.frozen? ⟨bs, 0, none⟩ = false := Lib.frozen_of_heap s1 0
        have HN : Hid (SplJ J bs bp bv c s.data.toList (pre ++ [y]) ⟨z.toArray⟩ (W3.setCell ⟨bs, 0, none⟩ (.string ⟨z.toArray⟩))) := by
          refine ⟨Boxed.set (W := W3) (v := .string ⟨x.toArray⟩) _ s1, (heap_set_otherS (by omega) _).trans s2, (heap_set_otherS (by omega) _).trans s3, ?_, HJ.out _ _ _ (some bs) hJ3 (grownBy_setCell' _ _ _) (fun r e => by cases e; exact ⟨_, s1, by simp [isHis], .inr ⟨Nat.le_refl _, rfl⟩⟩)⟩
          rw [HG4.out]; simp
        have hms : restS bs (W3.setCell ⟨bs, 0, none⟩ (.string ⟨z.toArray⟩)) < restS bs wr := by
          rw [restS_of HN.out.1, restS_of HS.out.1, hxs, show (⟨z.toArray⟩ : ByteArray).size = z.length by rw [← size_toList]]; omega
        have HM := Lib.hid hms
        clear s1 s2 s3 hms hJ3 hk3
        gi_wp2
        go_roundw
        case rel => exact ⟨pre ++ [y], ⟨z.toArray⟩, HN, by rw [show (⟨z.toArray⟩ : ByteArray).size = z.length by rw [← size_toList]]; omega⟩
        case measure => exact HM.out
      · gi_wp2
        refine bodyPost_ret (results_none rfl _ _ _) rfl ?_
        exact ⟨⟨_, rfl⟩, .inr ⟨_, hJx⟩⟩
    · rw [if_neg hk] at HIX
      rw [pcs_miss c x hk] at g4
      obtain ⟨fn, tmps, assign, body, hy, hR⟩ := HY.out pre x [] wr g4.symm HS.out.2.2.2.2
      have HR := Lib.hid hR
      have HG4 := Lib.hid g4
      clear hk hR g4
      gi_wp2_with fail
      refine ⟨trivial, ?_⟩
      refine (callsIn_wide.2 HIX.out).mono ?_
      rintro e w2 ⟨rfl, h2⟩
      rw [h2]
      clear h2
      gi_wp2
      refine HR.out.mono ?_
      rintro e W3 (⟨rfl, hJ3, hk3⟩ | ⟨rfl, hJx⟩)
      · gi_wp2
        go_end0
        exact ⟨⟨_, rfl⟩, .inl (by rw [HG4.out]; exact hJ3)⟩
      · gi_wp2
        go_end0
        exact ⟨⟨_, rfl⟩, .inr ⟨_, hJx⟩⟩
end Go.Proofs.YtemjohkieehojaaDoor
