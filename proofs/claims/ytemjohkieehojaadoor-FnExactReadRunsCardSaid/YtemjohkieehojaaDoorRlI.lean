/- The numbers of a text: the program's side. -/
import Derived.Test.YtemjohkieehojaaDoorSpl
import Derived.Test.YtemjohkieehojaaDoorRlS
import Derived.Test.YtemjohkieehojaaDoorReadLaw
import Derived.Test.YtemjohkieehojaaDoorInts
import Derived.Deep.Onto
namespace Go.Proofs.YtemjohkieehojaaDoor
open Go.RowKit Go.Shelf
set_option linter.unusedVariables false
set_option linter.unusedSimpArgs false
attribute [local go_sem] Oper.semAt_some
theorem keepsHis_below {ts : List TypeId} {W W' : World} (h : Below W.heap.size W W') : KeepsHis ts W W' := ⟨h.size, fun k o hk _ => (h.block k (Array.getElem?_eq_some_iff.1 hk).1).trans hk⟩
theorem below_grownBy {N : Nat} {w W W' : World} {row : Option Nat} (h : Below N w W) (hw : w.heap.size ≤ N ∨ True) (hg : W.grownBy W' row) (hN : N ≤ W.heap.size) (hr : ∀ r, row = some r → N ≤ r) : Below N w W' :=
  ⟨hg.os.trans h.os, hg.tape.trans h.tape, hg.output.trans h.output, Nat.le_trans h.size hg.size, fun k hk => (hg.block k (by omega) (fun e => by have := hr k e.symm; omega)).trans (h.block k hk)⟩
theorem his_box {W : World} {B : Nat} {t : TypeId} {v : Value} {row : Option Nat} (h : Boxed W B t v) (ht : MineS.contains t = false) (hr : ∀ r, row = some r → ∃ o : Obj, W.heap[r]? = some o ∧ isHis MineS o = true) : some B ≠ row := by
  intro e
  obtain ⟨o, ho, hh⟩ := hr B e.symm
  rw [show W.heap[B]? = _ from h] at ho; cases ho
  simp only [isHis] at hh
  rw [ht] at hh; cases hh
theorem his_row {W : World} {B : Nat} {t : TypeId} {sz n : Nat} {v : Value} {xs : List Value} {row : Option Nat} (h : W.ownsRow B t sz v n xs) (ht : MineS.contains t = false) (hr : ∀ r, row = some r → ∃ o : Obj, W.heap[r]? = some o ∧ isHis MineS o = true) : v.ownBlock = none ∨ v.ownBlock ≠ row := by
  rcases h.2 with ⟨rfl, _⟩ | ⟨g, cap, cur, rfl, hg, hgb, _⟩
  · exact .inl rfl
  · refine .inr (fun e => ?_)
    obtain ⟨o, ho, hh⟩ := hr g (by simpa [Value.ownBlock] using e.symm)
    rw [hgb] at ho; cases ho
    simp only [isHis] at hh
    rw [ht] at hh; cases hh
/-- what the reader's cells hold -/
def NumI (w : World) (pre : List (List UInt8)) (W : World) : Prop :=
  (∃ (v : Value) (L : List Int), Boxed W (w.heap.size + 1 + 1) 22 v ∧ Ints W w.heap.size v L ∧ nums 1000000000000000 pre = some L ∧ L.length ≤ 64) ∧ Boxed W w.heap.size 22 (.slice none 0 0) ∧ Boxed W (w.heap.size + 1) 4 (.bool false) ∧ Below w.heap.size w W
def NumX (w : World) (T : List (List UInt8)) (c : Code) (_ : List (List UInt8)) (W : World) : Prop :=
  c = .ret ∧ numL 1000000000000000 64 T = none ∧ Boxed W w.heap.size 22 (.slice none 0 0) ∧ Boxed W (w.heap.size + 1) 4 (.bool false) ∧ Below w.heap.size w W
theorem NumI.own (w : World) {B0 B : Nat} (h0 : w.heap.size ≤ B0) (h1 : w.heap.size ≤ B) : OwnFromL MineS B0 B (NumI w) := by
  rintro pre X Y row ⟨⟨v, L, b1, hi, hn, hl⟩, b2, b3, hb⟩ hg hr
  have hr2 : ∀ r, row = some r → ∃ o : Obj, X.heap[r]? = some o ∧ isHis MineS o = true := fun r e => by obtain ⟨o, ho, hh, _⟩ := hr r e; exact ⟨o, ho, hh⟩
  refine ⟨⟨v, L, b1.kept hg (his_box b1 (by decide) hr2), World.ownsRow.kept hi hg (his_row hi (by decide) hr2), hn, hl⟩, b2.kept hg (his_box b2 (by decide) hr2), b3.kept hg (his_box b3 (by decide) hr2), below_grownBy hb (.inr trivial) hg hb.size (fun r e => ?_)⟩
  obtain ⟨o, ho, hh, h | ⟨h, -⟩⟩ := hr r e <;> omega
theorem NumX.own (w : World) (T : List (List UInt8)) {B0 B : Nat} (h0 : w.heap.size ≤ B0) (h1 : w.heap.size ≤ B) (c : Code) : OwnFromL MineS B0 B (NumX w T c) := by
  rintro pre X Y row ⟨hc, hn, b2, b3, hb⟩ hg hr
  have hr2 : ∀ r, row = some r → ∃ o : Obj, X.heap[r]? = some o ∧ isHis MineS o = true := fun r e => by obtain ⟨o, ho, hh, _⟩ := hr r e; exact ⟨o, ho, hh⟩
  refine ⟨hc, hn, b2.kept hg (his_box b2 (by decide) hr2), b3.kept hg (his_box b3 (by decide) hr2), below_grownBy hb (.inr trivial) hg hb.size (fun r e => ?_)⟩
  obtain ⟨o, ho, hh, h | ⟨h, -⟩⟩ := hr r e <;> omega
theorem pcs_mem_len (c : UInt8) : ∀ (T p : List UInt8), p ∈ pcs c T → p.length ≤ T.length
  | [], p, h => by simp [pcs] at h; subst h; simp
  | b :: r, p, h => by
    have ih := pcs_mem_len c r
    unfold pcs at h
    split at h
    · rcases List.mem_cons.1 h with rfl | h
      · simp
      · have := ih p h; simp; omega
    · cases hr : pcs c r with
      | nil => rw [hr] at h; simp at h; subst h; simp
      | cons q qs =>
        rw [hr] at h ih
        rcases List.mem_cons.1 h with rfl | h
        · have := ih q (by simp); simp; omega
        · have := ih p (by simp [h]); simp; omega
theorem isHis_ncS (ts : List TypeId) {o : Obj} (h : o.isCells = false) : isHis ts o = true := by cases o <;> simp_all [isHis, Obj.isCells]
theorem keepsHis_from {ts : List TypeId} {W W' : World} (h : KeepsHis ts W W') (B : Nat) : KeepsFrom B W W' :=
  ⟨h.size, fun k o _ hk ho => h.same k o hk (isHis_ncS ts ho)⟩
theorem NumI.below {w W W2 : World} {pre : List (List UInt8)} (h : NumI w pre W) (hb : Below W.heap.size W W2) : NumI w pre W2 := by
  obtain ⟨⟨v, L, b1, hi, hn, hl⟩, b2, b3, h0⟩ := h
  exact ⟨⟨v, L, (hb.block _ b1.lt).trans b1, hi.keep hb (Nat.le_refl _), hn, hl⟩, (hb.block _ b2.lt).trans b2, (hb.block _ b3.lt).trans b3, h0.trans (hb.mono h0.size)⟩
theorem NumX.left {w W w2 : World} {T pre pre' : List (List UInt8)} {B : Nat} (h : NumI w pre w2) (hk : KeepsHis MineS W w2) (hn : numL 1000000000000000 64 T = none) (a : Act) :
    toldPostL MineS B (NumI w) (NumX w T) pre' W .ret a ((w2.setCell ⟨w.heap.size, 0, none⟩ (.slice none 0 0)).setCell ⟨w.heap.size + 1, 0, none⟩ (.bool false)) := by
  obtain ⟨⟨v, L, b1, hi, -, -⟩, b2, b3, h0⟩ := h
  refine ⟨((keepsHis_from hk B).trans ((KeepsOthers.setCell _ _ _).from B)).trans ((KeepsOthers.setCell _ _ _).from B), rfl, hn, (b2.set _).kept (grownBy_setCell' _ _ _) (by simp), (b3.kept (grownBy_setCell' _ _ _) (by simp)).set _, (h0.setCell (p := ⟨w.heap.size, 0, none⟩) (Nat.le_refl _) _).setCell (p := ⟨w.heap.size + 1, 0, none⟩) (Nat.le_succ _) _⟩
theorem NumI.right {w W w2 w3 : World} {T : List (List UInt8)} {pre : List (List UInt8)} {x : List UInt8} {z : Int} {v v' : Value} {L : List Int} {tmp : Obj} {B : Nat} (b1 : Boxed w2 (w.heap.size + 1 + 1) 22 v) (hi : Ints w2 w.heap.size v L) (hn : nums 1000000000000000 pre = some L) (hl : L.length < 64)
    (b2 : Boxed w2 w.heap.size 22 (.slice none 0 0)) (b3 : Boxed w2 (w.heap.size + 1) 4 (.bool false)) (h0 : Below w.heap.size w w2) (hk : KeepsHis MineS W w2) (hrd : rd 1000000000000000 x = some z)
    (hown' : w3.ownsRow w.heap.size 2 1 v' (L.length + 1) (L.map (Value.int .i64) ++ [.int .i64 z])) (hgrow : (w2.alloc tmp).grownBy w3 v.ownBlock) (a : Act) :
    toldPostL MineS B (NumI w) (NumX w T) (pre ++ [x]) W .normal a (w3.setCell ⟨w.heap.size + 1 + 1, 0, none⟩ v') := by
  obtain ⟨hv1, hv2, hr2, hk2, hb2⟩ := b1.appended (by decide) hi h0.size (by omega) hown' hgrow
  have hk3 : KeepsHis MineS w2 (w3.setCell ⟨w.heap.size + 1 + 1, 0, none⟩ v') := by
    refine (KeepsHis.alloc _ w2 tmp).trans ((KeepsHis.of_grownBy hgrow (fun j o ej hj => ?_)).trans (KeepsHis.of_grownBy (grownBy_setCell' w3 _ v') (fun j o ej hj => ?_)))
    · rcases (World.ownsRow.alloc hi tmp).2 with ⟨rfl, _⟩ | ⟨g, cap, cur, rfl, _, hgb, _⟩
      · simp [Value.ownBlock] at ej
      · obtain rfl : g = j := by simpa [Value.ownBlock] using ej
        rw [hgb] at hj; cases hj
        simp only [isHis]; decide
    · cases ej
      rw [show w3.heap[w.heap.size + 1 + 1]? = _ from hv1] at hj; cases hj
      simp only [isHis]; decide
  have c2 := (((b2.alloc tmp).kept hgrow (b2.not_row (by decide) hi)).kept (grownBy_setCell' w3 (w.heap.size + 1 + 1) v') (by simp; omega))
  have c3 := (((b3.alloc tmp).kept hgrow (b3.not_row (by decide) hi)).kept (grownBy_setCell' w3 (w.heap.size + 1 + 1) v') (by simp))
  refine ⟨(keepsHis_from hk B).trans (hk2.from B), hk.trans hk3, ⟨v', L ++ [z], hv2, ?_, nums_snoc hn hrd, by simp; omega⟩, c2, c3, h0.trans hb2⟩
  unfold Ints
  rw [List.map_append, List.length_append]; exact hr2
set_option maxRecDepth 100000 in
set_option maxHeartbeats 1000000 in
theorem implNums_in (n : Nat) (hn : 8 ≤ n) (s : ByteArray) (w : World) (hs : s.size ≤ 1048576) (hne : s ≠ (⟨#[110, 111, 110, 101]⟩ : ByteArray)) (hd : DoorE w) :
    CallsIn Fence.wide n Tryd.prog 7 #[.string s] w fun e w' => ∃ v, e = .returned (.tuple #[v, .bool (numL 1000000000000000 64 (pcs 44 s.data.toList)).isSome]) ∧ Ints w' w.heap.size v ((numL 1000000000000000 64 (pcs 44 s.data.toList)).getD []) ∧ Below w.heap.size w w' := by
  obtain ⟨i0, hi, hz0, hz1, hz2⟩ := info_parts info_i64
  have n1 : (s.toList == [110, 111, 110, 101]) = false := str_ne2 hne
  have h1 : 1 ≤ n := by omega
  have HD := Lib.hid hd
  clear hne hd
  refine callsIn_of_wp_marks Tryd.func7 rfl trivial ?_ rfl
  simp only [Tryd.ntmps7, List.size_toArray, List.length_cons, List.length_nil, Nat.reduceAdd, Nat.reduceSub, Array.replicate_succ, Array.replicate_zero, List.push_toArray, List.append_toArray, List.nil_append, List.cons_append]
  gi_wp2_with fail
  refine ⟨trivial, ?_⟩
  refine (splitSeq_told (n - 1) (by omega) s ⟨#[44]⟩ _).mono ?_
  rintro e w2 ⟨rfl, rfl⟩
  gi_wp2_with fail
  obtain ⟨W0, hW0⟩ : ∃ W0, (((((w.alloc (.cells #[.slice none 0 0] 22)).alloc (.cells #[.bool false] 4)).alloc (.cells #[.slice none 0 0] 22)).alloc (.cells #[.string s] 9)).alloc (.cells #[.string ⟨#[44]⟩] 9)).alloc (.cells #[.int .i64 0] 3) = W0 := ⟨_, rfl⟩
  have z0 : W0.heap.size = w.heap.size + 6 := by rw [← hW0]; simp
  have b0 : Boxed W0 w.heap.size 22 (.slice none 0 0) := by
    rw [← hW0]; exact (((((Boxed.new w _ _).alloc _).alloc _).alloc _).alloc _).alloc _
  have b1 : Boxed W0 (w.heap.size + 1) 4 (.bool false) := by
    rw [← hW0]
    have h := Boxed.new (w.alloc (.cells #[.slice none 0 0] 22)) 4 (.bool false)
    rw [World.size_alloc] at h
    exact (((h.alloc _).alloc _).alloc _).alloc _
  have b2 : Boxed W0 (w.heap.size + 1 + 1) 22 (.slice none 0 0) := by
    rw [← hW0]
    have h := Boxed.new ((w.alloc (.cells #[.slice none 0 0] 22)).alloc (.cells #[.bool false] 4)) 22 (.slice none 0 0)
    rw [World.size_alloc, World.size_alloc] at h
    exact ((h.alloc _).alloc _).alloc _
  have b3 : Boxed W0 (w.heap.size + 1 + 1 + 1) 9 (.string s) := by
    rw [← hW0]
    have h := Boxed.new (((w.alloc (.cells #[.slice none 0 0] 22)).alloc (.cells #[.bool false] 4)).alloc (.cells #[.slice none 0 0] 22)) 9 (.string s)
    rw [World.size_alloc, World.size_alloc, World.size_alloc] at h
    exact (h.alloc _).alloc _
  have b4 : Boxed W0 (w.heap.size + 1 + 1 + 1 + 1) 9 (.string ⟨#[44]⟩) := by
    rw [← hW0]
    have h := Boxed.new ((((w.alloc (.cells #[.slice none 0 0] 22)).alloc (.cells #[.bool false] 4)).alloc (.cells #[.slice none 0 0] 22)).alloc (.cells #[.string s] 9)) 9 (.string ⟨#[44]⟩)
    rw [World.size_alloc, World.size_alloc, World.size_alloc, World.size_alloc] at h
    exact h.alloc _
  have b5 : Boxed W0 (w.heap.size + 1 + 1 + 1 + 1 + 1) 3 (.int .i64 0) := by
    rw [← hW0]
    have h := Boxed.new (((((w.alloc (.cells #[.slice none 0 0] 22)).alloc (.cells #[.bool false] 4)).alloc (.cells #[.slice none 0 0] 22)).alloc (.cells #[.string s] 9)).alloc (.cells #[.string ⟨#[44]⟩] 9)) 3 (.int .i64 0)
    rw [World.size_alloc, World.size_alloc, World.size_alloc, World.size_alloc, World.size_alloc] at h
    exact h
  have hb0 : Below w.heap.size w W0 := by
    rw [← hW0]; exact ((((((Below.refl _ w).alloc (Nat.le_refl _) _).alloc (by simp) _).alloc (by simp; omega) _).alloc (by simp; omega) _).alloc (by simp; omega) _).alloc (by simp; omega) _
  have HI0 : Hid (NumI w [] W0) := ⟨⟨_, [], b2, Ints.nil _ _, rfl, Nat.zero_le _⟩, b0, b1, hb0⟩
  have HB3 := Lib.hid b3
  have HB4 := Lib.hid b4
  have HB5 := Lib.hid b5
  rw [hW0]
  clear hW0 b0 b1 b2 b3 b4 b5 hb0
  refine loop_toldL (ts := MineS) (B0 := w.heap.size + 1 + 1 + 1) rfl h1 (gf := 58) (lb := #[.pointer (some ⟨w.heap.size + 1 + 1 + 1 + 1, 0, none⟩), .pointer (some ⟨w.heap.size + 1 + 1 + 1, 0, none⟩), .pointer (some ⟨w.heap.size + 1 + 1 + 1 + 1 + 1, 0, none⟩)]) rfl trivial (enters_of Tryd.func58 (by kernel_rfl) rfl) (pcs 44 s.data.toList)
    (split_told (n - 1) (by omega) _ _ _ 44 s hs W0 (by omega) (by omega) (by omega) (by omega) (by omega) HB3.out HB4.out HB5.out) (fun _ => rfl)
    (NumI w) (NumX w (pcs 44 s.data.toList)) (NumI.own w (by omega) (by omega)) (fun c => NumX.own w _ (by omega) (by omega) c) HI0.out
    (fun x => { tmps := #[.string s, undef, .pointer (some ⟨w.heap.size, 0, none⟩), .pointer (some ⟨w.heap.size + 1, 0, none⟩), .pointer (some ⟨w.heap.size + 1 + 1, 0, none⟩), .string ⟨x.toArray⟩, undef, undef, .string s, .bool false, .string s, .func (.func 58) #[] #[.pointer (some ⟨w.heap.size + 1 + 1 + 1 + 1, 0, none⟩), .pointer (some ⟨w.heap.size + 1 + 1 + 1, 0, none⟩), .pointer (some ⟨w.heap.size + 1 + 1 + 1 + 1 + 1, 0, none⟩)], .string ⟨x.toArray⟩, undef, undef, undef, undef, undef, undef, undef, undef, undef, undef, undef, undef, undef, undef, undef, undef, undef], defers := [] }) ?assign ?body ?done ?stop
  case assign =>
    intro l x W K hK
    gi_wp2
    exact hK
  case body =>
    rintro l pre x post W hpx hI
    have hxl : x.length ≤ 1048576 := by
      have h := pcs_mem_len 44 s.data.toList x (by rw [← hpx]; simp)
      rw [size_toList] at h; omega
    have hxs : (⟨x.toArray⟩ : ByteArray).size ≤ 1048576 := by rw [← size_toList]; exact hxl
    have HRD := Lib.hid (implReadDecimal ⟨x.toArray⟩ W hxs (HD.out.on hI.2.2.2))
    have HI := Lib.hid hI
    have HPX := Lib.hid hpx
    rw [show (⟨x.toArray⟩ : ByteArray).data.toList = x by simp] at HRD
    unfold rdV at HRD
    clear hpx hI hxs
    cases hrd : rd 1000000000000000 x with
    | none =>
      rw [hrd] at HRD
      have HNO : Hid (numL 1000000000000000 64 (pcs 44 s.data.toList) = none) := by
        obtain ⟨⟨v, L, -, -, hn, -⟩, -⟩ := HI.out
        rw [Hid, ← HPX.out, show pre ++ x :: post = (pre ++ [x]) ++ post by simp]
        exact numL_bad hn hrd
      clear hrd
      gi_wp2_with fail
      refine ⟨trivial, fun h => absurd h (by decide), ?_⟩
      refine (CallsIn.inRound l (callsIn_wide.2 HRD.out)).mono ?_
      rintro e w2 ⟨rfl, hb2⟩
      have HI2 := Lib.hid (NumI.below HI.out hb2)
      have HK2 := Lib.hid (keepsHis_below (ts := MineS) hb2)
      clear hb2
      have c0 := HI2.out.2.1.cell
      have f0 := HI2.out.2.1.frozen
      have c1 := HI2.out.2.2.1.cell
      have f1 := HI2.out.2.2.1.frozen
      gi_wp2
      exact NumX.left HI2.out HK2.out HNO.out _
    | some z =>
      rw [hrd] at HRD
      have HRZ := Lib.hid hrd
      clear hrd
      obtain ⟨⟨v, L, bv, hi1, hn, hl⟩, d2, d3, h0⟩ := HI.out
      obtain ⟨a0, cap0, rfl, -, -⟩ := hi1.form
      have BV := Lib.hid bv
      have HII := Lib.hid hi1
      have HNN := Lib.hid hn
      have D2 := Lib.hid d2
      have D3 := Lib.hid d3
      have H0 := Lib.hid h0
      clear bv hi1 hn d2 d3 h0
      by_cases h64 : L.length = 64
      · have HNO : Hid (numL 1000000000000000 64 (pcs 44 s.data.toList) = none) := by
          rw [Hid, ← HPX.out, show pre ++ x :: post = (pre ++ [x]) ++ post by simp]
          exact numL_long HNN.out h64
        have t64 : ((L.length : Int) == 64) = true := by simp; omega
        have t65 : (L.length == 64) = true := by simp; omega
        clear h64
        gi_wp2_with fail
        refine ⟨trivial, fun h => absurd h (by decide), ?_⟩
        refine (CallsIn.inRound l (callsIn_wide.2 HRD.out)).mono ?_
        rintro e w2 ⟨rfl, hb2⟩
        have HI2 := Lib.hid (NumI.below HI.out hb2)
        have HK2 := Lib.hid (keepsHis_below (ts := MineS) hb2)
        have bv2 : Boxed w2 (w.heap.size + 1 + 1) 22 (.slice a0 L.length cap0) := (hb2.block _ BV.out.lt).trans BV.out
        have c2 := bv2.cell
        clear hb2 bv2
        have c0 := HI2.out.2.1.cell
        have f0 := HI2.out.2.1.frozen
        have c1 := HI2.out.2.2.1.cell
        have f1 := HI2.out.2.2.1.frozen
        gi_wp2
        exact NumX.left HI2.out HK2.out HNO.out _
      · have hl6 : L.length < 64 := by omega
        have t64 : ((L.length : Int) == 64) = false := by simp; omega
        have t65 : (L.length == 64) = false := by simp; omega
        clear h64
        gi_wp2_with fail
        refine ⟨trivial, fun h => absurd h (by decide), ?_⟩
        refine (CallsIn.inRound l (callsIn_wide.2 HRD.out)).mono ?_
        rintro e w2 ⟨rfl, hb2⟩
        have HK2 := Lib.hid (keepsHis_below (ts := MineS) hb2)
        have hv : Boxed w2 (w.heap.size + 1 + 1) 22 (.slice a0 L.length cap0) := (hb2.block _ BV.out.lt).trans BV.out
        have hrow : Ints w2 w.heap.size (.slice a0 L.length cap0) L := HII.out.keep hb2 (Nat.le_refl _)
        have E2 := Lib.hid (show Boxed w2 w.heap.size 22 (.slice none 0 0) from (hb2.block _ D2.out.lt).trans D2.out)
        have E3 := Lib.hid (show Boxed w2 (w.heap.size + 1) 4 (.bool false) from (hb2.block _ D3.out.lt).trans D3.out)
        have hB := H0.out.trans (hb2.mono H0.out.size)
        have hBs := hB.size
        have HB := Lib.hid hB
        have c2 := hv.cell
        have HV := Lib.hid hv
        have HROW := Lib.hid hrow
        clear hb2 hB
        gi_wp2_with (gi_at_builtin; refine wpListIn_append_own _ rfl _ _ 22 rfl w.heap.size 2 i0 (.int .i64 0) 1 8 Tryd.underlying22 hi hz0 hz1 hz2 rfl (by decide) _ _ _ rfl (hrow.alloc _) ⟨w2.heap.size, 0, none⟩ 1 1 [.int .i64 z] rfl rfl (cell_one_new _ _ _) (by simp [Value.oneCell']) (by unfold maxLen; omega) (by omega) (by simp; omega) ?_; intro v' w3 hown' hgrow _; obtain ⟨g', cap', rfl⟩ := ownsRow_succ hown'; have hv1 := (hv.alloc (.cells #[.int .i64 z] 2)).kept hgrow (hv.not_row (by decide) hrow); have hc1 := hv1.cell; have hf1 := hv1.frozen; have HOW := Lib.hid hown'; have HGR := Lib.hid hgrow)
        exact NumI.right HV.out HROW.out HNN.out hl6 E2.out E3.out HB.out HK2.out HRZ.out HOW.out HGR.out _
  case done =>
    rintro D W hD ⟨⟨v, L, bv, hi1, hn, hl⟩, b2, b3, h0⟩ hK
    have HE : Hid (numL 1000000000000000 64 (pcs 44 s.data.toList) = some L) := numL_all hn hl
    have c2 := bv.cell
    have c0 := b2.cell
    have f0 := b2.frozen
    have c1 := b3.cell
    have f1 := b3.frozen
    obtain ⟨a0, cap0, rfl, -, -⟩ := hi1.form
    have HII := Lib.hid hi1
    have HE0 : Hid (Boxed ((W.setCell ⟨w.heap.size, 0, none⟩ (.slice a0 L.length cap0)).setCell ⟨w.heap.size + 1, 0, none⟩ (.bool true)) w.heap.size 22 (.slice a0 L.length cap0)) := (b2.set _).kept (grownBy_setCell' _ _ _) (by simp)
    have HE1 : Hid (Boxed ((W.setCell ⟨w.heap.size, 0, none⟩ (.slice a0 L.length cap0)).setCell ⟨w.heap.size + 1, 0, none⟩ (.bool true)) (w.heap.size + 1) 4 (.bool true)) := (b3.kept (grownBy_setCell' _ _ _) (by simp)).set _
    have HKD : Hid (((W.setCell ⟨w.heap.size, 0, none⟩ (.slice a0 L.length cap0)).setCell ⟨w.heap.size + 1, 0, none⟩ (.bool true)).heap[D]? = some (.deferred (some []))) := (heap_set_otherS (by omega) _).trans ((heap_set_otherS (by omega) _).trans hK)
    have HRW : Hid (Ints ((W.setCell ⟨w.heap.size, 0, none⟩ (.slice a0 L.length cap0)).setCell ⟨w.heap.size + 1, 0, none⟩ (.bool true)) w.heap.size (.slice a0 L.length cap0) L) := World.ownsRow.kept (World.ownsRow.kept hi1 (grownBy_setCell' W _ _) (.inr (b2.not_row (by decide) hi1).symm)) (grownBy_setCell' _ _ _) (.inr (b3.not_row (by decide) hi1).symm)
    have HBW : Hid (Below w.heap.size w ((W.setCell ⟨w.heap.size, 0, none⟩ (.slice a0 L.length cap0)).setCell ⟨w.heap.size + 1, 0, none⟩ (.bool true))) := (h0.setCell (p := ⟨w.heap.size, 0, none⟩) (Nat.le_refl _) _).setCell (p := ⟨w.heap.size + 1, 0, none⟩) (Nat.le_succ _) _
    clear bv hi1 hn b2 b3 h0 hK
    gi_wp2
    obtain ⟨W9, hW9⟩ : ∃ W9, (W.setCell ⟨w.heap.size, 0, none⟩ (.slice a0 L.length cap0)).setCell ⟨w.heap.size + 1, 0, none⟩ (.bool true) = W9 := ⟨_, rfl⟩
    rw [hW9] at HE0 HE1 HKD HRW HBW ⊢
    clear hW9 c0 c1 c2 f0 f1
    refine ⟨by simp, .inl ⟨_, _, rfl, run_takeDeferred HKD.out, ?_⟩⟩
    have k0 := (HE0.out.kept (grownBy_putObj' W9 D (.deferred none)) (by simp; omega)).cell
    have k1 := (HE1.out.kept (grownBy_putObj' W9 D (.deferred none)) (by simp; omega)).cell
    refine ⟨.tuple #[.slice a0 L.length cap0, .bool true], by simp [results, Tryd.results7, go_sem, k0, k1], _, by rw [HE.out]; rfl, by rw [HE.out]; exact ownsRow_putObj HRW.out _ HKD.out rfl, ?_⟩
    exact below_grownBy HBW.out (.inr trivial) (grownBy_putObj' _ D _) HBW.out.size (fun r e => by cases e; omega)
  case stop =>
    rintro D c pre W hD ⟨rfl, hn, b2, b3, h0⟩ hK
    have HE := Lib.hid hn
    have HE0 := Lib.hid b2
    have HE1 := Lib.hid b3
    have HKD := Lib.hid hK
    have HBW := Lib.hid h0
    clear hn b2 b3 h0 hK
    gi_wp2
    refine ⟨by simp, .inl ⟨_, _, rfl, run_takeDeferred HKD.out, ?_⟩⟩
    have k0 := (HE0.out.kept (grownBy_putObj' W D (.deferred none)) (by simp; omega)).cell
    have k1 := (HE1.out.kept (grownBy_putObj' W D (.deferred none)) (by simp; omega)).cell
    refine ⟨.tuple #[.slice none 0 0, .bool false], by simp [results, Tryd.results7, go_sem, k0, k1], _, by rw [HE.out]; rfl, by rw [HE.out]; exact Ints.nil _ _, ?_⟩
    exact below_grownBy HBW.out (.inr trivial) (grownBy_putObj' _ D _) HBW.out.size (fun r e => by cases e; omega)
end Go.Proofs.YtemjohkieehojaaDoor
