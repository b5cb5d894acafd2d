/- The iterator over windows of a wave, told: how often the wave goes up in each. -/
import Derived.Test.YtkipgeecibimoaaToldM
import Derived.Test.YtkipgeecibimoaaFiltSh
import Derived.RangeFuncBox
import Derived.RangeFuncLeaves
import Derived.Shelf.Abstract
import Derived.WalkKit
import Derived.OwnWalkIn
import Derived.TacticsInMore
import Derived.LoopNIn
import Derived.LoopIn
import Derived.Lib.OthersKept
import Derived.WalkSmall
namespace Go.Proofs.Ytkipgeecibimoaa
open Go.RowKit Go.Shelf
set_option linter.unusedVariables false
set_option linter.unusedSimpArgs false

attribute [local go_sem] Oper.semAt_some

abbrev TFol : Nat := 100
/-- the windows that end with one of the first k ticks: the tick behind, and how often the wave goes up -/
def upsL (s : ByteArray) (T : Nat) : Nat → List (Int × Int)
  | 0 => []
  | k + 1 => if T ≤ k + 1 then upsL s T k ++ [(((k + 1 : Nat) : Int), ((lastC (upB s) T (k + 1) : Nat) : Int))] else upsL s T k
theorem upsL_hit (s : ByteArray) (T k : Nat) (h : T ≤ k + 1) : upsL s T (k + 1) = upsL s T k ++ [(((k + 1 : Nat) : Int), ((lastC (upB s) T (k + 1) : Nat) : Int))] := by rw [upsL, if_pos h]
theorem upsL_miss (s : ByteArray) (T k : Nat) (h : ¬ T ≤ k + 1) : upsL s T (k + 1) = upsL s T k := by rw [upsL, if_neg h]
theorem upsL_prefix (s : ByteArray) (T k : Nat) : ∀ n, k ≤ n → ∃ post, upsL s T k ++ post = upsL s T n := by
  intro n
  induction n with
  | zero =>
    intro h
    have e : k = 0 := by omega
    subst e
    exact ⟨[], by simp⟩
  | succ n ih =>
    intro h
    by_cases he : k = n + 1
    · subst he; exact ⟨[], by simp⟩
    · obtain ⟨post, hp⟩ := ih (by omega)
      by_cases hT : T ≤ n + 1
      · exact ⟨post ++ [(((n + 1 : Nat) : Int), ((lastC (upB s) T (n + 1) : Nat) : Int))], by rw [upsL_hit s T n hT, ← hp, List.append_assoc]⟩
      · exact ⟨post, by rw [upsL_miss s T n hT, hp]⟩
theorem wpListIn_val {n : Nat} {P : Program} {ops : Array Oper} {rest : List Oper} {o : Oper} {a : Act} {w w' : World} {Q : Exit → Act → World → Prop} (hg : o.guard = none) (hnd : ∀ c, o.op ≠ .defer c) (v : Value)
    (hrun : (execOp a.eval o).run P w = .ok (.value v) w') (h : wpListIn Fence.wide n P ops Q rest (a.put o.dst v) w') : wpListIn Fence.wide n P ops Q (o :: rest) a w :=
  wpListIn_plain hg fun K hK => ⟨fun _ _ => trivial, by rw [Oper.semAt_plain _ _ _ hnd, hrun]; exact hK _ _ h⟩
theorem wpListIn_skp {n : Nat} {P : Program} {ops : Array Oper} {rest : List Oper} {o : Oper} {a : Act} {w w' : World} {Q : Exit → Act → World → Prop} (hg : o.guard = none) (hnd : ∀ c, o.op ≠ .defer c)
    (hrun : (execOp a.eval o).run P w = .ok .skip w') (h : wpListIn Fence.wide n P ops Q rest (a.put o.dst undef) w') : wpListIn Fence.wide n P ops Q (o :: rest) a w :=
  wpListIn_plain hg fun K hK => ⟨fun _ _ => trivial, by rw [Oper.semAt_plain _ _ _ hnd, hrun]; exact hK _ _ h⟩
theorem wpListIn_build_win {n : Nat} {ops : Array Oper} {rest : List Oper} {o : Oper} {a : Act} {w : World} {Q : Exit → Act → World → Prop} (hg : o.guard = none) (x : Operand) (ho : o.op = .build TWin #[(0, x)]) (T : Nat) (hx : a.eval x = .int .i64 (T : Int))
    (h : wpListIn Fence.wide n Try.prog ops Q rest (a.put o.dst (.agg (winC T 0 0 (fun _ => false)))) w) : wpListIn Fence.wide n Try.prog ops Q (o :: rest) a w :=
  wpListIn_val hg (by rw [ho]; intro c h; cases h) _ (by
    unfold execOp
    simp only [ho, List.map_toArray, List.map_cons, List.map_nil, hx, Sem.run_bind, run_build w TWin #[(0, .int .i64 (T : Int))] _ (win_built (T : Int)), Result.andThen_ok]
    rfl) h
theorem wpListIn_alloc_win {n : Nat} {ops : Array Oper} {rest : List Oper} {o : Oper} {a : Act} {w : World} {Q : Exit → Act → World → Prop} (hg : o.guard = none) (ho : o.op = .alloc TWin)
    (h : wpListIn Fence.wide n Try.prog ops Q rest (a.put o.dst (.pointer (some ⟨w.heap.size, 0, none⟩))) (w.alloc (.cells winZ TWin))) : wpListIn Fence.wide n Try.prog ops Q (o :: rest) a w :=
  wpListIn_val hg (by rw [ho]; intro c h; cases h) _ (by
    unfold execOp
    simp only [ho, Instr.alloc, newVar, newRow, newObj, Sem.run_bind, Sem.run_pure, Result.andThen_ok, win_zero w, Value.cells]
    rfl) h
theorem wpListIn_store_win {n : Nat} {ops : Array Oper} {rest : List Oper} {o : Oper} {a : Act} {w : World} {Q : Exit → Act → World → Prop} (hgd : o.guard = none) (x y : Operand) (ho : o.op = .store TWin x y)
    (T : Nat) (hx : a.eval x = .pointer (some ⟨w.heap.size, 0, none⟩)) (hy : a.eval y = .agg (winC T 0 0 (fun _ => false)))
    (h : wpListIn Fence.wide n Try.prog ops Q rest (a.put o.dst undef) (w.alloc (.cells (winC T 0 0 (fun _ => false)) TWin))) : wpListIn Fence.wide n Try.prog ops Q (o :: rest) a (w.alloc (.cells winZ TWin)) :=
  wpListIn_skp hgd (by rw [ho]; intro c h; cases h) (by
    unfold execOp
    simp only [ho, hx, hy, Instr.storeAt, Instr.sureAddr, Sem.run_bind, Sem.run_pure, Result.andThen_ok, run_storeVar_row (P := Try.prog) (w.alloc (.cells winZ TWin)) w.heap.size TWin TWin winZ (winC T 0 0 (fun _ => false)) (heap_alloc_last w _) (by rw [(winC_is T 0 0 _).size]; kernel_rfl) (by rw [winZ_size, (winC_is T 0 0 _).size]) (winC_one _ _ _ _), World.setRow_alloc_new]) h

/-- a follower at its place -/
def FolAt (W : World) (b : Nat) (y : Bool) : Prop := W.heap[b]? = some (.cells #[.bool y] TFol (0, 0))
theorem FolAt.same {w w' : World} {b : Nat} {y : Bool} (h : FolAt w b y) (hb : w'.heap[b]? = w.heap[b]?) : FolAt w' b y := hb.trans h
theorem FolAt.cell {w : World} {b : Nat} {y : Bool} (h : FolAt w b y) : w.cell? ⟨b, 0, none⟩ = some (.bool y) ∧ w.frozen? ⟨b, 0, none⟩ = false :=
  ⟨by rw [show w.cell? ⟨b, 0, none⟩ = _ from Lib.cell_of_heap h 0]; rfl, Lib.frozen_of_heap h 0⟩
theorem FolAt.set {w : World} {b : Nat} {y : Bool} (h : FolAt w b y) (n : Nat) (x : Bool) : FolAt ((w.drewN n).setCell ⟨b, 0, none⟩ (.bool x)) b x := by
  have h2 : w.heap[b]? = some (.cells #[.bool y] TFol (0, 0)) := h
  unfold FolAt
  simp [World.setCell, Array.getElem?_modify, h2]
abbrev MineW : List TypeId := [TWin, TFol]
def TickZ (bT : Nat) (T : Nat) (W : World) : Prop := W.cell? ⟨bT, 0, none⟩ = some (.int .i64 (T : Int))
theorem upsIn_told (n : Nat) (s : ByteArray) (T : Nat) (w : World) :
    CallsIn Fence.wide n Try.prog 70 #[.string s, .int .i64 (T : Int)] w fun e w' => e = .returned (.func (.func 131) #[] #[.pointer (some ⟨w.heap.size + 1, 0, none⟩), .pointer (some ⟨w.heap.size, 0, none⟩)]) ∧ w' = (w.alloc (.cells #[.string s] 9)).alloc (.cells #[.int .i64 (T : Int)] 2) := by
  refine callsIn_of_wp Try.func70 rfl trivial ?_ rfl
  simp only [Try.ntmps70, List.size_toArray, List.length_cons, List.length_nil, Nat.reduceAdd, Nat.reduceSub, Array.replicate_succ, Array.replicate_zero, List.push_toArray, List.append_toArray, List.nil_append, List.cons_append]
  gi_wp2
  go_ret
  exact ⟨by simp, rfl⟩
set_option maxRecDepth 100000 in
set_option maxHeartbeats 4000000 in
theorem ups_told (n : Nat) (hn : 2 ≤ n) (bT bs T : Nat) (s : ByteArray) (hw : waveB s.data.toList = true) (hT : 1 ≤ T) (hT2 : T ≤ 50) (w : World) (hbs : bs < w.heap.size) (hc : w.cell? ⟨bs, 0, none⟩ = some (.string s)) :
    TellsM MineW (TickZ bT T) Fence.wide n Try.prog 131 #[.pointer (some ⟨bT, 0, none⟩), .pointer (some ⟨bs, 0, none⟩)] (fun x : Int × Int => #[Value.int .i64 x.1, Value.int .i64 x.2]) (upsL s T s.size) w := by
  intro l J W hbW hJ hJZ hY h0
  have hcs := (hbW.cell (p := ⟨bs, 0, none⟩) hbs).trans hc
  have hz := wave_le hw
  have HA := Lib.hid (fun k h => wave_at hw k h)
  have hct : W.cell? ⟨bT, 0, none⟩ = some (.int .i64 (T : Int)) := hJZ _ _ h0
  have hbs2 : bs < W.heap.size := Nat.lt_of_lt_of_le hbs hbW.size
  have hbT2 : bT < W.heap.size := World.block_lt_of_cell? W _ hct
  have HJZ := Lib.hid hJZ
  have HJ := Lib.hid hJ
  clear hc hw hJZ
  refine callsIn_of_wp Try.func131 rfl trivial ?_ rfl
  simp only [Try.ntmps131, List.size_toArray, List.length_cons, List.length_nil, Nat.reduceAdd, Nat.reduceSub, Array.replicate_succ, Array.replicate_zero, List.push_toArray, List.append_toArray, List.nil_append, List.cons_append]
  gi_wp2_with (first | (refine wpListIn_build_win rfl _ rfl T rfl ?_) | (refine wpListIn_alloc_win rfl rfl ?_) | (refine wpListIn_store_win rfl _ _ rfl T rfl rfl ?_))
  have hJ1 : J [] (((W.alloc (.cells (winC T 0 0 (fun _ => false)) TWin)).alloc (.cells #[.bool false] TFol)).iter s 0) := by
    refine HJ.out _ _ _ none (HJ.out _ _ _ none (HJ.out _ _ _ none h0 (World.grownBy_alloc W _ none) (fun r e => by cases e)) (World.grownBy_alloc _ _ none) (fun r e => by cases e)) (World.grownBy_alloc _ _ none) (fun r e => by cases e)
  gi_loopw [6, 7, 8, 9, 10] (fun _ _ _ _ _ wr => ∃ k : Nat, k ≤ s.size ∧ Hid (WinAt wr W.heap.size T k (upB s) ∧ FolAt wr (W.heap.size + 1) (prevB s k) ∧ J (upsL s T k) wr ∧ W.heap.size + 2 < wr.heap.size) ∧ wr.heap[W.heap.size + 2]? = some (.stringIter s k))
    (fun _ _ _ _ _ wr => s.size - wr.iterPos (W.heap.size + 2))
  case atStart =>
    refine ⟨0, Nat.zero_le _, ⟨?_, ?_, hJ1, ?_⟩, ?_⟩
    · exact ⟨winC T 0 0 (fun _ => false), ((Below.heap_alloc _ (.stringIter s 0) _ (by simp; omega)).trans (Below.heap_alloc _ _ _ (by simp))).trans (heap_alloc_last W _), WinK.start T (upB s)⟩
    · have := heap_alloc_last (W.alloc (.cells (winC T 0 0 (fun _ => false)) TWin)) (.cells #[.bool false] TFol)
      rw [World.size_alloc] at this
      exact (Below.heap_alloc _ (.stringIter s 0) _ (by simp)).trans this
    · show _ < (((W.alloc _).alloc _).alloc (.stringIter s 0)).heap.size
      simp
    · have := World.iter_heap ((W.alloc (.cells (winC T 0 0 (fun _ => false)) TWin)).alloc (.cells #[.bool false] TFol)) s 0
      simpa using this
  case round =>
    obtain ⟨k, hk, HH, hit⟩ := hrel
    by_cases hlt : k < s.size
    · have hav := HA.out k hlt
      have ha : s[k].toNat < 128 := by split at hav <;> omega
      have hnx : ∀ ty, (Instr.next (.pointer (some ⟨W.heap.size + 2, 0, none⟩)) true ty).run Try.prog wr = _ := fun ty => Lib.run_next_ascii_at wr (W.heap.size + 2) s k ty hit hlt ha
      have hit2 := Lib.iterAt_heap wr (W.heap.size + 2) s k (k + 1) hit
      have hbe := bit_at s k hlt
      have hgi := grown_iter wr (W.heap.size + 2) s (k + 1)
      have hsz := HH.out.2.2.2
      have HW2 : Hid (WinAt (wr.iterAt (W.heap.size + 2) s (k + 1)) W.heap.size T k (upB s)) := HH.out.1.same (hgi.block _ (by omega) (by simp))
      have HF2 : Hid (FolAt (wr.iterAt (W.heap.size + 2) s (k + 1)) (W.heap.size + 1) (prevB s k)) := HH.out.2.1.same (hgi.block _ (by omega) (by simp))
      have HJ2 : Hid (J (upsL s T k) (wr.iterAt (W.heap.size + 2) s (k + 1))) := HJ.out _ _ _ (some (W.heap.size + 2)) HH.out.2.2.1 hgi (fun r e => by cases e; exact ⟨by omega, _, hit, rfl⟩)
      have hs2 : (wr.iterAt (W.heap.size + 2) s (k + 1)).heap.size = wr.heap.size := Lib.iterAt_size _ _ _ _
      obtain ⟨x, hx⟩ : ∃ x, bit s k = x := ⟨_, rfl⟩
      rw [hx] at hbe
      have hup : (!prevB s k && x) = upB s k := by rw [← hx, Bool.and_comm]; rfl
      obtain ⟨u, hu⟩ : ∃ u, upB s k = u := ⟨_, rfl⟩
      have HU := Lib.hid hu
      have HPS : Hid (prevB s (k + 1) = x) := by show _ = _; rw [prevB_succ]; exact hx
      have HI2 := Lib.hid hit2
      have HN2 := Lib.hid (show W.heap.size + 2 < (wr.iterAt (W.heap.size + 2) s (k + 1)).heap.size by omega)
      obtain ⟨c0, f0⟩ := HF2.out.cell
      have HFW := Lib.hid (callsIn_wide (n := n - 1).2 (follow_any (W.heap.size + 1) 0 (prevB s k) x _ c0 f0))
      rw [hup, hu] at HFW
      have HFS := Lib.hid (fun m => HF2.out.set m x)
      clear hav hgi hx hit2 hs2 hup hu c0 f0
      gi_wp2_with fail
      refine ⟨trivial, fun _ => by omega, ?_⟩
      refine HFW.out.mono ?_
      rintro e w2 ⟨rfl, m, rfl⟩
      have HFZ := Lib.hid (HFS.out m)
      have hgs : (wr.iterAt (W.heap.size + 2) s (k + 1)).grownBy (((wr.iterAt (W.heap.size + 2) s (k + 1)).drewN m).setCell ⟨W.heap.size + 1, 0, none⟩ (.bool x)) (some (W.heap.size + 1)) :=
        grown_trans (grown_drew (grown_below (Below.refl _ _) (some (W.heap.size + 1))) m) (grown_set _ _ 0 _)
      obtain ⟨w3, hw3⟩ : ∃ w3, ((wr.iterAt (W.heap.size + 2) s (k + 1)).drewN m).setCell ⟨W.heap.size + 1, 0, none⟩ (.bool x) = w3 := ⟨_, rfl⟩
      rw [hw3] at hgs HFZ
      have HW3 : Hid (WinAt w3 W.heap.size T k (upB s)) := HW2.out.same (hgs.block _ (by have := HN2.out; omega) (by simp))
      have HJ3 : Hid (J (upsL s T k) w3) := HJ.out _ _ _ (some (W.heap.size + 1)) HJ2.out hgs (fun r e => by cases e; exact ⟨by omega, _, HF2.out, by simp [isMine]⟩)
      have HI3 : Hid (w3.heap[W.heap.size + 2]? = some (.stringIter s (k + 1))) := (hgs.block _ (by have := HN2.out; omega) (by simp)).trans HI2.out
      have HN3 : Hid (W.heap.size + 2 < w3.heap.size) := Nat.lt_of_lt_of_le HN2.out hgs.size
      have HSL := Lib.hid (callsIn_wide (n := n - 1).2 (slide_any W.heap.size T k (upB s) u HU.out w3 hT hT2 HW3.out))
      rw [hw3]
      clear hw3 hgs HFW HFS HI2 HN2 HJ2 HW2 HF2
      gi_wp2_with fail
      refine ⟨trivial, fun _ => by omega, ?_⟩
      refine HSL.out.mono ?_
      rintro e w4 ⟨rfl, hwin, hg4⟩
      obtain ⟨cs3, hb3, -⟩ := HW3.out
      have HF4 : Hid (FolAt w4 (W.heap.size + 1) (prevB s (k + 1))) := by show FolAt _ _ _; rw [HPS.out]; exact HFZ.out.same (hg4.block _ (by have := HN3.out; omega) (by simp))
      have HJ4 : Hid (J (upsL s T k) w4) := HJ.out _ _ _ (some W.heap.size) HJ3.out hg4 (fun r e => by cases e; exact ⟨Nat.le_refl _, _, hb3, by simp [isMine]⟩)
      have HI4 : Hid (w4.heap[W.heap.size + 2]? = some (.stringIter s (k + 1))) := (hg4.block _ (by have := HN3.out; omega) (by simp)).trans HI3.out
      have HN4 : Hid (W.heap.size + 2 < w4.heap.size) := Nat.lt_of_lt_of_le HN3.out hg4.size
      have hct4 : w4.cell? ⟨bT, 0, none⟩ = some (.int .i64 (T : Int)) := HJZ.out _ _ HJ4.out
      obtain ⟨cs, hb4, arr, hv, hring⟩ := hwin
      have hcm : w4.cell? ⟨W.heap.size, 1, none⟩ = some (.int .i64 ((lastC (upB s) T (k + 1) : Nat) : Int)) := by rw [hb4.cell]; exact hv.c1
      have HW4 : Hid (WinAt w4 W.heap.size T (k + 1) (upB s)) := ⟨cs, hb4, arr, hv, hring⟩
      have hwk : IntKind.i64.wrap ((k : Int) + 1) = ((k + 1 : Nat) : Int) := by rw [IntWalk.i64_in _ (by omega)]; omega
      obtain ⟨k1, hk1⟩ : ∃ k1, k + 1 = k1 := ⟨_, rfl⟩
      obtain ⟨c, hcc⟩ : ∃ c, lastC (upB s) T (k + 1) = c := ⟨_, rfl⟩
      have HHIT := Lib.hid (upsL_hit s T k)
      have HMISS := Lib.hid (upsL_miss s T k)
      have HPRE := Lib.hid (upsL_prefix s T (k + 1) s.size (by omega))
      rw [hcc] at hcm HHIT
      rw [hk1] at hwk HHIT HMISS HPRE
      have hk1s : k1 ≤ s.size := by omega
      have hk1I : (k : Int) + 1 = (k1 : Int) := by omega
      rw [hk1] at HW4 HF4 HI4
      have HK1 := Lib.hid hk1
      clear hb3 hg4 hb4 hv hring hcc HSL HI3 HN3 HJ3 HW3 HFZ hk1
      by_cases hge : T ≤ k1
      · have hgI : (T : Int) ≤ (k1 : Int) := by omega
        have hgD := decide_eq_true hgI
        have HS := Lib.hid (HHIT.out hge)
        obtain ⟨post, hpost⟩ := HPRE.out
        obtain ⟨fn, tmps, assign, body, hy, hR⟩ := hY _ ((k1 : Int), (c : Int)) post w4 (by rw [← hpost, HS.out]; simp) HJ4.out
        have HR := Lib.hid hR
        clear hpost hR HHIT HMISS HPRE
        dsimp only at hy
        gi_wp2
        refine ⟨fun _ => by omega, ?_⟩
        refine HR.out.mono ?_
        rintro e w5 ⟨rfl, hJ5, hk5⟩
        have hit5 := hk5.same _ _ HI4.out rfl
        obtain ⟨cs, hb4, hrest⟩ := HW4.out
        have HW5 : Hid (WinAt w5 W.heap.size T k1 (upB s)) := ⟨cs, hk5.same _ _ hb4 (by simp [isMine]), hrest⟩
        have HF5 : Hid (FolAt w5 (W.heap.size + 1) (prevB s k1)) := hk5.same _ _ HF4.out (by simp [isMine])
        have HN5 : Hid (W.heap.size + 2 < w5.heap.size) := Nat.lt_of_lt_of_le HN4.out hk5.size
        have HJ5 := Lib.hid hJ5
        clear hk5 hb4 hrest hJ5
        gi_wp2
        go_roundw
        case rel => exact ⟨k1, hk1s, ⟨HW5.out, HF5.out, by rw [HS.out]; exact HJ5.out, HN5.out⟩, hit5⟩
        case measure => rw [iterPos_of hit5, iterPos_of hit]; have := HK1.out; omega
      · have hgI : ¬ (T : Int) ≤ (k1 : Int) := by omega
        have hgD := decide_eq_false hgI
        have HS := Lib.hid (HMISS.out hge)
        clear HHIT HMISS HPRE
        gi_wp2
        refine ⟨fun _ h => (by cases h), ?_⟩
        gi_wp2
        go_roundw
        case rel => exact ⟨k1, hk1s, ⟨HW4.out, HF4.out, by rw [HS.out]; exact HJ4.out, HN4.out⟩, HI4.out⟩
        case measure => rw [iterPos_of HI4.out, iterPos_of hit]; have := HK1.out; omega
    · have hnx : ∀ ty, (Instr.next (.pointer (some ⟨W.heap.size + 2, 0, none⟩)) true ty).run Try.prog wr = _ := fun ty => Lib.run_next_end_at wr (W.heap.size + 2) s k ty hit hlt
      obtain rfl : k = s.size := by omega
      have HJE := Lib.hid HH.out.2.2.1
      clear HH
      gi_wp2
      go_end0
      exact ⟨⟨_, rfl⟩, HJE.out⟩
end Go.Proofs.Ytkipgeecibimoaa
