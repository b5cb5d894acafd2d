/- The wave of a text of runs: the program's side. -/
import Derived.Test.YtemjohkieehojaaDoorRlI
import Derived.Test.YtemjohkieehojaaDoorRrM
import Derived.Test.YtemjohkieehojaaDoorCut1
import Derived.Test.YtemjohkieehojaaDoorRrS
import Derived.Test.YtemjohkieehojaaDoorRunI
import Derived.Test.YtemjohkieehojaaDoorCutG
namespace Go.Proofs.YtemjohkieehojaaDoor
open Go.RowKit Go.Shelf
set_option linter.unusedVariables false
set_option linter.unusedSimpArgs false
attribute [local go_sem] Oper.semAt_some
theorem rd_nil : rd 1000000000000000 [] = none := by
  cases hr : rd 1000000000000000 [] with
  | none => rfl
  | some n =>
    obtain ⟨-, hi⟩ := rd_some hr
    have hz2 := itoa_posR n
    rw [hi] at hz2; simp at hz2
theorem pr_cut (x : List UInt8) : pr x = (match rd 1000000000000000 (x.drop (pcK 120 x + 1)) with | none => none | some n => if x.take (pcK 120 x) = [48] then some (48, n) else if x.take (pcK 120 x) = [49] then some (49, n) else none) := by
  by_cases hk : pcK 120 x < x.length
  · have hx := pcK_parts 120 x hk
    have hf := pFree_take 120 x
    obtain ⟨A, hA⟩ : ∃ A, x.take (pcK 120 x) = A := ⟨_, rfl⟩
    obtain ⟨d, hd⟩ : ∃ d, x.drop (pcK 120 x + 1) = d := ⟨_, rfl⟩
    rw [hA] at hf
    rw [hA, hd] at hx ⊢
    have hp : pr x = pr (A ++ 120 :: d) := by rw [← hx]
    rw [hp]
    clear hp hx hA hd hk
    match A, hf with
    | [], hf =>
      cases d with
      | nil => simp [pr, rd_nil]
      | cons b r =>
        show (if ((120 : UInt8) = 48 ∨ (120 : UInt8) = 49) ∧ b = 120 then (rd 1000000000000000 r).map (fun n => ((120 : UInt8), n)) else none) = _
        rw [if_neg (fun h => absurd h.1 (by decide))]
        cases rd 1000000000000000 (b :: r) <;> simp
    | [a], hf =>
      show (if (a = 48 ∨ a = 49) ∧ (120 : UInt8) = 120 then (rd 1000000000000000 d).map (fun n => (a, n)) else none) = _
      by_cases h8 : a = 48
      · subst h8
        rw [if_pos ⟨.inl rfl, rfl⟩]
        cases rd 1000000000000000 d <;> simp
      · by_cases h9 : a = 49
        · subst h9
          rw [if_pos ⟨.inr rfl, rfl⟩]
          cases rd 1000000000000000 d <;> simp
        · rw [if_neg (fun h => h.1.elim h8 h9)]
          cases rd 1000000000000000 d <;> simp [h8, h9]
    | a :: b :: r, hf =>
      have hb : b ≠ 120 := hf b (by simp)
      show (if (a = 48 ∨ a = 49) ∧ b = 120 then (rd 1000000000000000 (r ++ 120 :: d)).map (fun n => (a, n)) else none) = _
      rw [if_neg (fun h => hb h.2)]
      cases rd 1000000000000000 d <;> simp
  · rw [List.drop_eq_nil_of_le (by omega), rd_nil]
    have hf := pFree_miss 120 x hk
    match x, hf with
    | [], _ => rfl
    | [a], _ => rfl
    | a :: b :: r, hf =>
      have hb : b ≠ 120 := hf b (by simp)
      show (if (a = 48 ∨ a = 49) ∧ b = 120 then (rd 1000000000000000 r).map (fun n => (a, n)) else none) = _
      rw [if_neg (fun h => hb h.2)]
/-- what the reader's cells hold -/
def RrJ (w ww : World) (pre : List (List UInt8)) (W : World) : Prop := ∃ ps, rrP pre = some ps ∧ RunJ ww (fl ps) W
def RrX (w : World) (T : List UInt8) (c : Code) (_ : List (List UInt8)) (W : World) : Prop :=
  c = .ret ∧ rrA T = none ∧ Boxed W w.heap.size 9 (.string ⟨#[]⟩) ∧ Boxed W (w.heap.size + 1) 4 (.bool false) ∧ Below w.heap.size w W
theorem RrJ.own (w ww : World) {B0 B : Nat} (hz : ww.heap.size = w.heap.size + 2) (h0 : w.heap.size + 3 ≤ B0) (h1 : w.heap.size + 3 ≤ B) : OwnFromL MineS B0 B (RrJ w ww) := by
  rintro pre X Y row ⟨ps, hp, h1', h4, h5⟩ hg hr
  have hr3 : ∀ r, row = some r → w.heap.size + 3 ≤ r := fun r e => by obtain ⟨o, ho, hh, h | ⟨h, -⟩⟩ := hr r e <;> omega
  refine ⟨ps, hp, builder_kept h1' (fun k o hk hko => ?_), Nat.lt_of_lt_of_le h4 hg.size, h5.grown hg (by omega) (fun r e => by have := hr3 r e; omega)⟩
  refine (hg.block k (Array.getElem?_eq_some_iff.1 hk).1 (fun e => ?_)).trans hk
  obtain ⟨o', ho', hc, -⟩ := hr k e.symm
  rw [hk] at ho'; cases ho'
  rcases hko with rfl | ⟨cc, fz, rfl⟩
  · have := hr3 _ e.symm; omega
  · simp only [isHis] at hc
    revert hc
    decide
theorem RrX.own (w : World) (T : List UInt8) {B0 B : Nat} (h0 : w.heap.size + 3 ≤ B0) (h1 : w.heap.size + 3 ≤ B) (c : Code) : OwnFromL MineS B0 B (RrX w T c) := by
  rintro pre X Y row ⟨hc, hn, b2, b3, hb⟩ hg hr
  have hr3 : ∀ r, row = some r → w.heap.size + 3 ≤ r := fun r e => by obtain ⟨o, ho, hh, h | ⟨h, -⟩⟩ := hr r e <;> omega
  exact ⟨hc, hn, b2.kept hg (fun e => by have := hr3 _ e.symm; omega), b3.kept hg (fun e => by have := hr3 _ e.symm; omega), below_grownBy hb (.inr trivial) hg hb.size (fun r e => by have := hr3 r e; omega)⟩
theorem RrX.left {w ww W w2 : World} {T : List UInt8} {pre' : List (List UInt8)} {B : Nat} {L : List UInt8} (c0 : Boxed ww w.heap.size 9 (.string ⟨#[]⟩)) (c1 : Boxed ww (w.heap.size + 1) 4 (.bool false)) (hz : ww.heap.size = w.heap.size + 2) (hw : Below w.heap.size w ww) (h : RunJ ww L w2) (hk : KeepsHis MineS W w2) (hn : rrA T = none) (a : Act) (J : List (List UInt8) → World → Prop) :
    toldPostL MineS B J (RrX w T) pre' W .ret a ((w2.setCell ⟨w.heap.size, 0, none⟩ (.string ⟨#[]⟩)).setCell ⟨w.heap.size + 1, 0, none⟩ (.bool false)) := by
  have b2 : Boxed w2 w.heap.size 9 (.string ⟨#[]⟩) := (h.2.2.block _ (by omega)).trans c0
  have b3 : Boxed w2 (w.heap.size + 1) 4 (.bool false) := (h.2.2.block _ (by omega)).trans c1
  have h0 : Below w.heap.size w w2 := hw.trans (h.2.2.mono (by omega))
  exact ⟨((keepsHis_from hk B).trans ((KeepsOthers.setCell _ _ _).from B)).trans ((KeepsOthers.setCell _ _ _).from B), rfl, hn, (b2.set _).kept (grownBy_setCell' _ _ _) (by simp), (b3.kept (grownBy_setCell' _ _ _) (by simp)).set _, (h0.setCell (p := ⟨w.heap.size, 0, none⟩) (Nat.le_refl _) _).setCell (p := ⟨w.heap.size + 1, 0, none⟩) (Nat.le_succ _) _⟩
theorem rrj_cells {w ww w2 : World} {L : List UInt8} (c0 : Boxed ww w.heap.size 9 (.string ⟨#[]⟩)) (c1 : Boxed ww (w.heap.size + 1) 4 (.bool false)) (hz : ww.heap.size = w.heap.size + 2) (h : RunJ ww L w2) : Boxed w2 w.heap.size 9 (.string ⟨#[]⟩) ∧ Boxed w2 (w.heap.size + 1) 4 (.bool false) :=
  ⟨(h.2.2.block _ (by omega)).trans c0, (h.2.2.block _ (by omega)).trans c1⟩
theorem runJ_drewN {w0 W : World} {L : List UInt8} (q : Nat) (h : RunJ w0 L W) : RunJ w0 L (W.drewN q) := h.more ⟨rfl, rfl, rfl, Nat.le_refl _, fun _ _ => rfl⟩
theorem runS_len (w0 : World) (L : List UInt8) (W : World) (h : RunJ w0 L W) :
    Calls Tryd.prog 24 #[.pointer (some ⟨w0.heap.size, 0, none⟩)] W fun e w' => e = .returned (.int .i64 (L.length : Int)) ∧ W = w' := run_len w0 L W h
theorem runS_str (w0 : World) (L M : List UInt8) (hl : L.length ≤ 100000) (hm : M.length ≤ 100000) (W : World) (h : RunJ w0 L W) :
    Calls Tryd.prog 25 #[.pointer (some ⟨w0.heap.size, 0, none⟩), .string ⟨M.toArray⟩] W fun e W' => (∃ y, e = .returned y) ∧ RunJ w0 (L ++ M) W' ∧ KeepsHis MineS W W' := by
  have hz : (⟨M.toArray⟩ : ByteArray).size = M.length := by rw [← size_toList]
  refine (writeString_any w0.heap.size w0.heap.size _ ⟨M.toArray⟩ W h.1 (by rw [Lib.byteCells_length, hz]; omega) (by have := h.2.1; omega)).mono ?_
  rintro e w3 ⟨rfl, h3, b3, k3⟩
  refine ⟨⟨_, rfl⟩, h.wrote (M := L ++ M) (by rw [Lib.byteCells_append]; simpa [Lib.strCells, Lib.byteCells] using h3) b3, keeps_his_wrote (by decide) (by decide) b3 h.1 k3⟩
theorem repS (c : UInt8) (k : Nat) (W : World) (hk : k ≤ 400) :
    Calls Tryd.prog 26 #[.string ⟨#[c]⟩, .int .i64 (k : Int)] W fun e W' => e = .returned (.string ⟨(List.replicate k c).toArray⟩) ∧ Below W.heap.size W W' := by
  have hl : ∀ k, Lib.repeatL [c] k = List.replicate k c := fun k => by
    induction k with
    | zero => rfl
    | succ n ih => simp [Lib.repeatL, List.replicate_succ, ih]
  refine (Tryd.strings_Repeat ⟨#[c]⟩ k W (by omega) (by show 1 * k ≤ _; omega)).mono ?_
  rintro e w' ⟨rfl, hb⟩
  have hz : (⟨(Lib.repeatL [c] k).toArray⟩ : ByteArray) = ⟨(List.replicate k c).toArray⟩ := by rw [hl]
  exact ⟨by rw [← hz], hb⟩
set_option maxRecDepth 100000 in
set_option maxHeartbeats 2000000 in
theorem implRr_in (n : Nat) (hn : 12 ≤ n) (s : ByteArray) (w : World) (hs : s.size ≤ 1048576) (hne : s ≠ (⟨#[110, 111, 110, 101]⟩ : ByteArray)) (hd : DoorE w) :
    CallsIn Fence.wide n Tryd.prog 12 #[.string s] w fun e w' => e = .returned (.tuple #[.string ⟨((rrA s.data.toList).getD []).toArray⟩, .bool (rrA s.data.toList).isSome]) ∧ Below w.heap.size w w' := by
  have n1 : (s.toList == [110, 111, 110, 101]) = false := str_ne2 hne
  have h1 : 1 ≤ n := by omega
  have HD := Lib.hid hd
  clear hne hd
  refine callsIn_of_wp_marks Tryd.func12 rfl trivial ?_ rfl
  simp only [Tryd.ntmps12, List.size_toArray, List.length_cons, List.length_nil, Nat.reduceAdd, Nat.reduceSub, Array.replicate_succ, Array.replicate_zero, List.push_toArray, List.append_toArray, List.nil_append, List.cons_append]
  gi_wp2_with fail
  refine ⟨trivial, ?_⟩
  refine (splitSeq_told (n - 1) (by omega) s ⟨#[32]⟩ _).mono ?_
  rintro e w2 ⟨rfl, rfl⟩
  gi_wp2_with fail
  obtain ⟨W0, hW0⟩ : ∃ W0, ((((((w.alloc (.cells #[.string ⟨#[]⟩] 9)).alloc (.cells #[.bool false] 4)).alloc (.cells #[.pointer none, .slice none 0 0] TB)).alloc (.cells #[.string s] 9)).alloc (.cells #[.string ⟨#[32]⟩] 9)).alloc (.cells #[.int .i64 0] 3)) = W0 := ⟨_, rfl⟩
  have z0 : W0.heap.size = w.heap.size + 6 := by rw [← hW0]; simp
  have b0 : Boxed W0 (w.heap.size) 9 (.string ⟨#[]⟩) := by
    rw [← hW0]
    have h := Boxed.new w 9 (.string ⟨#[]⟩)
    
    exact (((((h.alloc _).alloc _).alloc _).alloc _).alloc _)
  have b1 : Boxed W0 (w.heap.size + 1) 4 (.bool false) := by
    rw [← hW0]
    have h := Boxed.new (w.alloc (.cells #[.string ⟨#[]⟩] 9)) 4 (.bool false)
    rw [World.size_alloc] at h
    exact ((((h.alloc _).alloc _).alloc _).alloc _)
  have b3 : Boxed W0 (w.heap.size + 1 + 1 + 1) 9 (.string s) := by
    rw [← hW0]
    have h := Boxed.new (((w.alloc (.cells #[.string ⟨#[]⟩] 9)).alloc (.cells #[.bool false] 4)).alloc (.cells #[.pointer none, .slice none 0 0] TB)) 9 (.string s)
    rw [World.size_alloc, World.size_alloc, World.size_alloc] at h
    exact ((h.alloc _).alloc _)
  have b4 : Boxed W0 (w.heap.size + 1 + 1 + 1 + 1) 9 (.string ⟨#[32]⟩) := by
    rw [← hW0]
    have h := Boxed.new ((((w.alloc (.cells #[.string ⟨#[]⟩] 9)).alloc (.cells #[.bool false] 4)).alloc (.cells #[.pointer none, .slice none 0 0] TB)).alloc (.cells #[.string s] 9)) 9 (.string ⟨#[32]⟩)
    rw [World.size_alloc, World.size_alloc, World.size_alloc, World.size_alloc] at h
    exact (h.alloc _)
  have b5 : Boxed W0 (w.heap.size + 1 + 1 + 1 + 1 + 1) 3 (.int .i64 0) := by
    rw [← hW0]
    have h := Boxed.new (((((w.alloc (.cells #[.string ⟨#[]⟩] 9)).alloc (.cells #[.bool false] 4)).alloc (.cells #[.pointer none, .slice none 0 0] TB)).alloc (.cells #[.string s] 9)).alloc (.cells #[.string ⟨#[32]⟩] 9)) 3 (.int .i64 0)
    rw [World.size_alloc, World.size_alloc, World.size_alloc, World.size_alloc, World.size_alloc] at h
    exact h
  obtain ⟨ww, hww⟩ : ∃ ww, ((w.alloc (.cells #[.string ⟨#[]⟩] 9)).alloc (.cells #[.bool false] 4)) = ww := ⟨_, rfl⟩
  have wz : ww.heap.size = w.heap.size + 2 := by rw [← hww]; simp
  have HWZ := Lib.hid wz
  have HWB : Hid (Below w.heap.size w ww) := by rw [Hid, ← hww]; exact ((Below.refl _ w).alloc (Nat.le_refl _) _).alloc (by simp) _
  have HC0 : Hid (Boxed ww w.heap.size 9 (.string ⟨#[]⟩)) := by rw [Hid, ← hww]; exact (Boxed.new w _ _).alloc _
  have HC1 : Hid (Boxed ww (w.heap.size + 1) 4 (.bool false)) := by
    rw [Hid, ← hww]
    have h := Boxed.new (w.alloc (.cells #[.string ⟨#[]⟩] 9)) 4 (.bool false)
    rw [World.size_alloc] at h
    exact h
  have hI0 : RunJ ww (fl []) W0 := by
    have hf := Lib.IsBuilderF.of (Lib.fresh_isBuilder TB TU ww)
    have hB : Below ww.heap.size ww W0 := by
      rw [← hW0, hww]; exact ((((Below.refl _ ww).alloc (Nat.le_refl _) _).alloc (by simp) _).alloc (by simp; omega) _).alloc (by simp; omega) _
    refine ⟨?_, by omega, hB⟩
    rw [← hW0, hww]
    exact builder_kept hf (fun k o hk _ => (Below.heap_alloc _ _ k (by have := (Array.getElem?_eq_some_iff.1 hk).1; simp at this ⊢; omega)).trans ((Below.heap_alloc _ _ k (by have := (Array.getElem?_eq_some_iff.1 hk).1; simp at this ⊢; omega)).trans ((Below.heap_alloc _ _ k (by have := (Array.getElem?_eq_some_iff.1 hk).1; simp at this ⊢; omega)).trans hk)))
  have HI0 : Hid (RrJ w ww [] W0) := ⟨[], rfl, hI0⟩
  have HB3 := Lib.hid b3
  have HB4 := Lib.hid b4
  have HB5 := Lib.hid b5
  rw [hW0]
  clear hW0 hww b0 b1 b3 b4 b5 hI0 wz
  refine loop_toldL (ts := MineS) (B0 := w.heap.size + 1 + 1 + 1) rfl h1 (gf := 58) (lb := #[.pointer (some ⟨w.heap.size + 1 + 1 + 1 + 1, 0, none⟩), .pointer (some ⟨w.heap.size + 1 + 1 + 1, 0, none⟩), .pointer (some ⟨w.heap.size + 1 + 1 + 1 + 1 + 1, 0, none⟩)]) rfl trivial (enters_of Tryd.func58 (by kernel_rfl) rfl) (pcs 32 s.data.toList)
    (split_told (n - 1) (by omega) _ _ _ 32 s hs W0 (by omega) (by omega) (by omega) (by omega) (by omega) HB3.out HB4.out HB5.out) (fun _ => rfl)
    (RrJ w ww) (RrX w s.data.toList) (RrJ.own w ww HWZ.out (by omega) (by omega)) (fun c => RrX.own w _ (by omega) (by omega) c) HI0.out
    (fun x => { tmps := #[.string s, undef, .pointer (some ⟨w.heap.size, 0, none⟩), .pointer (some ⟨w.heap.size + 1, 0, none⟩), .pointer (some ⟨w.heap.size + 1 + 1, 0, none⟩), .string ⟨x.toArray⟩, undef, undef, undef, undef, undef, undef, undef, undef, .string s, .bool false, .string s, .func (.func 58) #[] #[.pointer (some ⟨w.heap.size + 1 + 1 + 1 + 1, 0, none⟩), .pointer (some ⟨w.heap.size + 1 + 1 + 1, 0, none⟩), .pointer (some ⟨w.heap.size + 1 + 1 + 1 + 1 + 1, 0, none⟩)], .string ⟨x.toArray⟩, undef, undef, undef, undef, undef, undef, undef, undef, undef, undef, undef, undef, undef, undef, undef, undef, undef, undef, undef, undef, undef, undef, undef, undef, undef, undef, undef, undef, undef, undef, undef, undef, undef, undef, undef, undef, undef, undef, undef, undef, undef, undef, undef, undef, undef, undef], defers := [] }) ?assign ?body ?done ?stop
  case assign =>
    intro l x W K hK
    gi_wp2
    exact hK
  case body =>
    rintro l pre x post W hpx ⟨ps, hq, hj⟩
    have hxl : x.length ≤ 1048576 := by
      have h := pcs_mem_len 32 s.data.toList x (by rw [← hpx]; simp)
      rw [size_toList] at h; omega
    have hxs : (⟨x.toArray⟩ : ByteArray).size ≤ 1048576 := by rw [← size_toList]; exact hxl
    obtain ⟨hok, hfl, -⟩ := rrP_ok _ _ hq
    have HQ := Lib.hid hq
    have HPX := Lib.hid hpx
    obtain ⟨L, hL⟩ : ∃ L, fl ps = L := ⟨_, rfl⟩
    have HLE := Lib.hid hL
    rw [hL] at hj hfl
    have HJ := Lib.hid hj
    have hcu := cut_one ⟨x.toArray⟩ 120 W hxs
    have hpr := pr_cut x
    have hdl : (x.drop (pcK 120 x + 1)).length ≤ 1048576 := by simp; omega
    unfold cut1 at hcu
    rw [show (⟨x.toArray⟩ : ByteArray).data.toList = x by simp] at hcu
    obtain ⟨A, hA⟩ : ∃ A, x.take (pcK 120 x) = A := ⟨_, rfl⟩
    obtain ⟨d, hd⟩ : ∃ d, x.drop (pcK 120 x + 1) = d := ⟨_, rfl⟩
    obtain ⟨fo, hfo⟩ : ∃ fo, decide (pcK 120 x < x.length) = fo := ⟨_, rfl⟩
    rw [hA, hd, hfo] at hcu
    rw [hA, hd] at hpr
    rw [hd] at hdl
    have HCU := Lib.hid hcu
    have hds : (⟨d.toArray⟩ : ByteArray).size ≤ 1048576 := by rw [← size_toList]; exact hdl
    have HDW : Hid (∀ q, DoorE (W.drewN q)) := fun q => by
      have hb : Below w.heap.size w W := HWB.out.trans (hj.2.2.mono (by have := HWZ.out; omega))
      exact HD.out.on ⟨hb.os, hb.tape, hb.output, hb.size, hb.block⟩
    have HRD : Hid (∀ q, Calls Tryd.prog 20 #[.string ⟨d.toArray⟩] (W.drewN q) fun e w' => e = .returned (.tuple #[.int .i64 ((rd 1000000000000000 d).getD 0), .bool (rd 1000000000000000 d).isSome]) ∧ Below (W.drewN q).heap.size (W.drewN q) w') := fun q => by
      have h := implReadDecimal ⟨d.toArray⟩ (W.drewN q) hds (HDW.out q)
      rw [show (⟨d.toArray⟩ : ByteArray).data.toList = d by simp] at h
      exact h
    have HLEN : Hid (∀ V, RunJ ww L V → Calls Tryd.prog 24 #[.pointer (some ⟨w.heap.size + 1 + 1, 0, none⟩)] V fun e w' => e = .returned (.int .i64 (L.length : Int)) ∧ V = w') := fun V h => by
      have h2 := runS_len ww L V h
      rw [HWZ.out] at h2; exact h2
    have HSTR : Hid (∀ (M : List UInt8), M.length ≤ 100000 → ∀ V, RunJ ww L V → Calls Tryd.prog 25 #[.pointer (some ⟨w.heap.size + 1 + 1, 0, none⟩), .string ⟨M.toArray⟩] V fun e W' => (∃ y, e = .returned y) ∧ RunJ ww (L ++ M) W' ∧ KeepsHis MineS V W') := fun M hM V h => by
      have h2 := runS_str ww L M (by omega) hM V h
      rw [HWZ.out] at h2; exact h2
    clear hq hpx hj hxs hxl hcu hok hL hds hdl hA hd hfo
    cases hrd : rd 1000000000000000 d with
    | none =>
      rw [hrd] at HRD hpr
      have HNO : Hid (rrA s.data.toList = none) := by
        rw [Hid]
        refine rrA_bad (show pcs 32 s.data.toList = (pre ++ [x]) ++ post by rw [← HPX.out]; simp) HQ.out (.inl ?_)
        unfold stP
        simp only
        rw [hpr]
      clear hrd hpr
      gi_wp2_with fail
      refine ⟨trivial, fun h => absurd h (by decide), ?_⟩
      refine (CallsIn.inRound l (callsIn_wide.2 HCU.out)).mono ?_
      rintro e wq ⟨rfl, q, hq⟩
      rw [hq]
      clear hq
      gi_wp2_with fail
      refine ⟨trivial, fun h => absurd h (by decide), ?_⟩
      refine (CallsIn.inRound l (callsIn_wide.2 (HRD.out q))).mono ?_
      rintro e w2 ⟨rfl, hb2⟩
      have HJ2 := Lib.hid ((runJ_drewN q HJ.out).more hb2)
      have HK2 : Hid (KeepsHis MineS W w2) := keepsHis_below (ts := MineS) (show Below W.heap.size W w2 from ⟨hb2.os, hb2.tape, hb2.output, hb2.size, hb2.block⟩)
      clear hb2
      obtain ⟨x0, x1⟩ := rrj_cells HC0.out HC1.out HWZ.out HJ2.out
      have c0 := x0.cell
      have f0 := x0.frozen
      have c1 := x1.cell
      have f1 := x1.frozen
      clear x0 x1
      gi_wp2
      repeat (refine ⟨trivial, ?_⟩; gi_wp2)
      exact RrX.left HC0.out HC1.out HWZ.out HWB.out HJ2.out HK2.out HNO.out _ _
    | some n =>
      have hnb : n.natAbs ≤ 1000000000000000 := (rd_some hrd).1
      rw [hrd] at HRD hpr
      clear hrd
      have hws : IntKind.i64.wrap (400 - (L.length : Int)) = 400 - (L.length : Int) := IntWalk.i64_in _ (by omega)
      by_cases hA : A = [48]
      · have HPR : Hid (pr x = some (48, n)) := by rw [Hid, hpr, hA]; rfl
        clear hpr
        obtain rfl := hA
        have l0 : ((⟨([48] : List UInt8).toArray⟩ : ByteArray).toList == [48]) = true := by rw [Lib.toList_data]; rfl
        have l1 : ((⟨([48] : List UInt8).toArray⟩ : ByteArray).toList == [49]) = false := by rw [Lib.toList_data]; rfl
        have l2 : (⟨([48] : List UInt8).toArray⟩ : ByteArray).toList = [48] := by rw [Lib.toList_data]
        by_cases hin : 1 ≤ n ∧ n ≤ 400 - (L.length : Int)
        · obtain ⟨N, rfl⟩ := Int.eq_ofNat_of_zero_le (show 0 ≤ n by omega)
          obtain ⟨hin1, hin2⟩ := hin
          have HNEXT : Hid (rrP (pre ++ [x]) = some (ps ++ [(48, (N : Int))])) := by
            rw [Hid, rrP_snoc, HQ.out]
            unfold stP
            simp only
            rw [HPR.out]
            simp only
            rw [if_pos (by rw [HLE.out]; exact ⟨hin1, hin2⟩)]
          have HFL : Hid (fl (ps ++ [(48, (N : Int))]) = L ++ List.replicate N 48) := by rw [Hid, fl_snoc, HLE.out]; simp
          have hN4 : N ≤ 400 := by omega
          gi_wp2_with fail
          refine ⟨trivial, fun h => absurd h (by decide), ?_⟩
          refine (CallsIn.inRound l (callsIn_wide.2 HCU.out)).mono ?_
          rintro e wq ⟨rfl, q, hq⟩
          rw [hq]
          clear hq
          gi_wp2_with fail
          refine ⟨trivial, fun h => absurd h (by decide), ?_⟩
          refine (CallsIn.inRound l (callsIn_wide.2 (HRD.out q))).mono ?_
          rintro e w2 ⟨rfl, hb2⟩
          have HJ2 := Lib.hid ((runJ_drewN q HJ.out).more hb2)
          have HK2 : Hid (KeepsHis MineS W w2) := keepsHis_below (ts := MineS) (show Below W.heap.size W w2 from ⟨hb2.os, hb2.tape, hb2.output, hb2.size, hb2.block⟩)
          clear hb2
          gi_wp2_with fail
          refine ⟨trivial, fun h => absurd h (by decide), ?_⟩
          refine (CallsIn.inRound l (callsIn_wide.2 (HLEN.out _ HJ2.out))).mono ?_
          rintro e w3 ⟨rfl, rfl⟩
          gi_wp2_with fail
          refine ⟨trivial, fun h => absurd h (by decide), ?_⟩
          refine (CallsIn.inRound l (callsIn_wide.2 (within_i64_t _ _ _ _ (by omega) (by omega)))).mono ?_
          rintro e w3 ⟨rfl, rfl⟩
          gi_wp2_with fail
          refine ⟨trivial, fun h => absurd h (by decide), ?_⟩
          refine (CallsIn.inRound l (callsIn_wide.2 (repS 48 N _ hN4))).mono ?_
          rintro e w4 ⟨rfl, hb4⟩
          have HJ4 := Lib.hid (HJ2.out.more hb4)
          have HK4 := Lib.hid (HK2.out.trans (keepsHis_below hb4))
          clear hb4
          gi_wp2_with fail
          refine ⟨trivial, fun h => absurd h (by decide), ?_⟩
          refine (CallsIn.inRound l (callsIn_wide.2 (HSTR.out (List.replicate N 48) (by simp; omega) _ HJ4.out))).mono ?_
          rintro e w5 ⟨⟨y5, rfl⟩, hJ5, hK5⟩
          have HJ5 := Lib.hid hJ5
          have HK5 := Lib.hid (HK4.out.trans hK5)
          clear hJ5 hK5
          gi_wp2
          exact ⟨keepsHis_from HK5.out _, HK5.out, _, HNEXT.out, by rw [HFL.out]; exact HJ5.out⟩
        · have hno : n < 1 ∨ 400 - (L.length : Int) < n := by omega
          have HNO : Hid (rrA s.data.toList = none) := by
            rw [Hid]
            refine rrA_bad (show pcs 32 s.data.toList = (pre ++ [x]) ++ post by rw [← HPX.out]; simp) HQ.out (.inl ?_)
            unfold stP
            simp only
            rw [HPR.out]; simp only; rw [if_neg (by rw [HLE.out]; exact hin)]
          clear hin
          gi_wp2_with fail
          refine ⟨trivial, fun h => absurd h (by decide), ?_⟩
          refine (CallsIn.inRound l (callsIn_wide.2 HCU.out)).mono ?_
          rintro e wq ⟨rfl, q, hq⟩
          rw [hq]
          clear hq
          gi_wp2_with fail
          refine ⟨trivial, fun h => absurd h (by decide), ?_⟩
          refine (CallsIn.inRound l (callsIn_wide.2 (HRD.out q))).mono ?_
          rintro e w2 ⟨rfl, hb2⟩
          have HJ2 := Lib.hid ((runJ_drewN q HJ.out).more hb2)
          have HK2 : Hid (KeepsHis MineS W w2) := keepsHis_below (ts := MineS) (show Below W.heap.size W w2 from ⟨hb2.os, hb2.tape, hb2.output, hb2.size, hb2.block⟩)
          clear hb2
          gi_wp2_with fail
          refine ⟨trivial, fun h => absurd h (by decide), ?_⟩
          refine (CallsIn.inRound l (callsIn_wide.2 (HLEN.out _ HJ2.out))).mono ?_
          rintro e w3 ⟨rfl, rfl⟩
          gi_wp2_with fail
          refine ⟨trivial, fun h => absurd h (by decide), ?_⟩
          refine (CallsIn.inRound l (callsIn_wide.2 (within_i64_f _ _ _ _ (by omega)))).mono ?_
          rintro e w3 ⟨rfl, rfl⟩
          obtain ⟨x0, x1⟩ := rrj_cells HC0.out HC1.out HWZ.out HJ2.out
          have c0 := x0.cell
          have f0 := x0.frozen
          have c1 := x1.cell
          have f1 := x1.frozen
          clear x0 x1
          gi_wp2
          repeat (refine ⟨trivial, ?_⟩; gi_wp2)
          exact RrX.left HC0.out HC1.out HWZ.out HWB.out HJ2.out HK2.out HNO.out _ _
      · by_cases hB : A = [49]
        · have HPR : Hid (pr x = some (49, n)) := by rw [Hid, hpr, hB]; rfl
          clear hpr hA
          obtain rfl := hB
          have l0 : ((⟨([49] : List UInt8).toArray⟩ : ByteArray).toList == [48]) = false := by rw [Lib.toList_data]; rfl
          have l1 : ((⟨([49] : List UInt8).toArray⟩ : ByteArray).toList == [49]) = true := by rw [Lib.toList_data]; rfl
          have l2 : (⟨([49] : List UInt8).toArray⟩ : ByteArray).toList = [49] := by rw [Lib.toList_data]
          by_cases hin : 1 ≤ n ∧ n ≤ 400 - (L.length : Int)
          · obtain ⟨N, rfl⟩ := Int.eq_ofNat_of_zero_le (show 0 ≤ n by omega)
            obtain ⟨hin1, hin2⟩ := hin
            have HNEXT : Hid (rrP (pre ++ [x]) = some (ps ++ [(49, (N : Int))])) := by
              rw [Hid, rrP_snoc, HQ.out]
              unfold stP
              simp only
              rw [HPR.out]
              simp only
              rw [if_pos (by rw [HLE.out]; exact ⟨hin1, hin2⟩)]
            have HFL : Hid (fl (ps ++ [(49, (N : Int))]) = L ++ List.replicate N 49) := by rw [Hid, fl_snoc, HLE.out]; simp
            have hN4 : N ≤ 400 := by omega
            gi_wp2_with fail
            refine ⟨trivial, fun h => absurd h (by decide), ?_⟩
            refine (CallsIn.inRound l (callsIn_wide.2 HCU.out)).mono ?_
            rintro e wq ⟨rfl, q, hq⟩
            rw [hq]
            clear hq
            gi_wp2_with fail
            refine ⟨trivial, fun h => absurd h (by decide), ?_⟩
            refine (CallsIn.inRound l (callsIn_wide.2 (HRD.out q))).mono ?_
            rintro e w2 ⟨rfl, hb2⟩
            have HJ2 := Lib.hid ((runJ_drewN q HJ.out).more hb2)
            have HK2 : Hid (KeepsHis MineS W w2) := keepsHis_below (ts := MineS) (show Below W.heap.size W w2 from ⟨hb2.os, hb2.tape, hb2.output, hb2.size, hb2.block⟩)
            clear hb2
            gi_wp2_with fail
            refine ⟨trivial, fun h => absurd h (by decide), ?_⟩
            refine (CallsIn.inRound l (callsIn_wide.2 (HLEN.out _ HJ2.out))).mono ?_
            rintro e w3 ⟨rfl, rfl⟩
            gi_wp2_with fail
            refine ⟨trivial, fun h => absurd h (by decide), ?_⟩
            refine (CallsIn.inRound l (callsIn_wide.2 (within_i64_t _ _ _ _ (by omega) (by omega)))).mono ?_
            rintro e w3 ⟨rfl, rfl⟩
            gi_wp2_with fail
            refine ⟨trivial, fun h => absurd h (by decide), ?_⟩
            refine (CallsIn.inRound l (callsIn_wide.2 (repS 49 N _ hN4))).mono ?_
            rintro e w4 ⟨rfl, hb4⟩
            have HJ4 := Lib.hid (HJ2.out.more hb4)
            have HK4 := Lib.hid (HK2.out.trans (keepsHis_below hb4))
            clear hb4
            gi_wp2_with fail
            refine ⟨trivial, fun h => absurd h (by decide), ?_⟩
            refine (CallsIn.inRound l (callsIn_wide.2 (HSTR.out (List.replicate N 49) (by simp; omega) _ HJ4.out))).mono ?_
            rintro e w5 ⟨⟨y5, rfl⟩, hJ5, hK5⟩
            have HJ5 := Lib.hid hJ5
            have HK5 := Lib.hid (HK4.out.trans hK5)
            clear hJ5 hK5
            gi_wp2
            exact ⟨keepsHis_from HK5.out _, HK5.out, _, HNEXT.out, by rw [HFL.out]; exact HJ5.out⟩
          · have hno : n < 1 ∨ 400 - (L.length : Int) < n := by omega
            have HNO : Hid (rrA s.data.toList = none) := by
              rw [Hid]
              refine rrA_bad (show pcs 32 s.data.toList = (pre ++ [x]) ++ post by rw [← HPX.out]; simp) HQ.out (.inl ?_)
              unfold stP
              simp only
              rw [HPR.out]; simp only; rw [if_neg (by rw [HLE.out]; exact hin)]
            clear hin
            gi_wp2_with fail
            refine ⟨trivial, fun h => absurd h (by decide), ?_⟩
            refine (CallsIn.inRound l (callsIn_wide.2 HCU.out)).mono ?_
            rintro e wq ⟨rfl, q, hq⟩
            rw [hq]
            clear hq
            gi_wp2_with fail
            refine ⟨trivial, fun h => absurd h (by decide), ?_⟩
            refine (CallsIn.inRound l (callsIn_wide.2 (HRD.out q))).mono ?_
            rintro e w2 ⟨rfl, hb2⟩
            have HJ2 := Lib.hid ((runJ_drewN q HJ.out).more hb2)
            have HK2 : Hid (KeepsHis MineS W w2) := keepsHis_below (ts := MineS) (show Below W.heap.size W w2 from ⟨hb2.os, hb2.tape, hb2.output, hb2.size, hb2.block⟩)
            clear hb2
            gi_wp2_with fail
            refine ⟨trivial, fun h => absurd h (by decide), ?_⟩
            refine (CallsIn.inRound l (callsIn_wide.2 (HLEN.out _ HJ2.out))).mono ?_
            rintro e w3 ⟨rfl, rfl⟩
            gi_wp2_with fail
            refine ⟨trivial, fun h => absurd h (by decide), ?_⟩
            refine (CallsIn.inRound l (callsIn_wide.2 (within_i64_f _ _ _ _ (by omega)))).mono ?_
            rintro e w3 ⟨rfl, rfl⟩
            obtain ⟨x0, x1⟩ := rrj_cells HC0.out HC1.out HWZ.out HJ2.out
            have c0 := x0.cell
            have f0 := x0.frozen
            have c1 := x1.cell
            have f1 := x1.frozen
            clear x0 x1
            gi_wp2
            repeat (refine ⟨trivial, ?_⟩; gi_wp2)
            exact RrX.left HC0.out HC1.out HWZ.out HWB.out HJ2.out HK2.out HNO.out _ _
        · obtain ⟨lv, hlv⟩ : ∃ lv : ByteArray, (⟨A.toArray⟩ : ByteArray) = lv := ⟨_, rfl⟩
          have l0 : (lv.toList == [48]) = false := by
            rw [← hlv, Lib.toList_data]; exact beq_eq_false_iff_ne.2 hA
          have l1 : (lv.toList == [49]) = false := by
            rw [← hlv, Lib.toList_data]; exact beq_eq_false_iff_ne.2 hB
          rw [hlv] at HCU
          clear hlv
          have HNO : Hid (rrA s.data.toList = none) := by
            rw [Hid]
            refine rrA_bad (show pcs 32 s.data.toList = (pre ++ [x]) ++ post by rw [← HPX.out]; simp) HQ.out (.inl ?_)
            unfold stP
            simp only
            rw [hpr]; simp only; rw [if_neg hA, if_neg hB]
          clear hpr hA hB
          gi_wp2_with fail
          refine ⟨trivial, fun h => absurd h (by decide), ?_⟩
          refine (CallsIn.inRound l (callsIn_wide.2 HCU.out)).mono ?_
          rintro e wq ⟨rfl, q, hq⟩
          rw [hq]
          clear hq
          gi_wp2_with fail
          refine ⟨trivial, fun h => absurd h (by decide), ?_⟩
          refine (CallsIn.inRound l (callsIn_wide.2 (HRD.out q))).mono ?_
          rintro e w2 ⟨rfl, hb2⟩
          have HJ2 := Lib.hid ((runJ_drewN q HJ.out).more hb2)
          have HK2 : Hid (KeepsHis MineS W w2) := keepsHis_below (ts := MineS) (show Below W.heap.size W w2 from ⟨hb2.os, hb2.tape, hb2.output, hb2.size, hb2.block⟩)
          clear hb2
          obtain ⟨x0, x1⟩ := rrj_cells HC0.out HC1.out HWZ.out HJ2.out
          have c0 := x0.cell
          have f0 := x0.frozen
          have c1 := x1.cell
          have f1 := x1.frozen
          clear x0 x1
          gi_wp2
          repeat (refine ⟨trivial, ?_⟩; gi_wp2)
          exact RrX.left HC0.out HC1.out HWZ.out HWB.out HJ2.out HK2.out HNO.out _ _
  case done =>
    rintro D W hD ⟨ps, hq, hj⟩ hK
    obtain ⟨hok, hfl, hl⟩ := rrP_ok _ _ hq
    have hpos : 0 < (fl ps).length := by
      have h2 : 0 < ps.length := by
        rw [hl]
        cases hp : pcs 32 s.data.toList with
        | nil => exact absurd hp (pcs_ne 32 _)
        | cons _ _ => simp
      cases hf : fl ps with
      | nil => rw [(fl_empty ps hok).1 hf] at h2; simp at h2
      | cons _ _ => simp
    have hwv : waveB (fl ps) = true := by
      unfold waveB
      simp only [Bool.and_eq_true, decide_eq_true_eq]
      refine ⟨?_, by omega⟩
      rw [List.all_eq_true]
      intro b hb
      rcases fl_wave _ hok b hb with e | e <;> rw [e] <;> rfl
    obtain ⟨wv, hwe⟩ : ∃ wv : ByteArray, (⟨(fl ps).toArray⟩ : ByteArray) = wv := ⟨_, rfl⟩
    have hwl : wv.data.toList = fl ps := by rw [← hwe]
    have hwz : wv.size = (fl ps).length := by rw [← size_toList, hwl]
    have hsg : Calls Tryd.prog 27 #[.pointer (some ⟨w.heap.size + 1 + 1, 0, none⟩)] W fun e W' => e = .returned (.string wv) ∧ RunJ ww (fl ps) W' ∧ KeepsHis [] W W' := by
      have hz2 : w.heap.size + 1 + 1 = ww.heap.size := HWZ.out.symm
      rw [hz2]
      refine (Tryd.Builder_String_any_k ww.heap.size ww.heap.size _ W hj.1 (by have := hj.2.1; omega)).mono ?_
      rintro e W5 ⟨rfl, hx, hb5, hO5⟩
      exact ⟨by rw [hwe], ⟨hx, Nat.lt_of_lt_of_le hj.2.1 hb5.size, hj.2.2.trans hb5⟩, keeps_his_wrote (ts := []) (by decide) (by decide) hb5 hj.1 hO5⟩
    have HSG := Lib.hid hsg
    have HRU : Hid (∀ V, DoorE V → CallsIn Fence.wide (n - 1) Tryd.prog 28 #[.string wv] V fun e W' => e = .returned (.tuple #[.string ⟨(runT (runsL wv)).toArray⟩, .bool true]) ∧ Below V.heap.size V W') := fun V hV => implRuns_in (n - 1) (by omega) wv V (by unfold maxLen; omega) (by rw [hwl]; exact hwv) (by omega) hV.tab
    have HIF := Lib.hid (run_text hq wv hwl)
    have HE : Hid (rrA s.data.toList = if alt ps = true then some (fl ps) else none) := by rw [Hid]; unfold rrA; rw [hq]
    have HWE := Lib.hid hwe
    have HKD := Lib.hid hK
    have hD2 : W0.heap.size ≤ D := hD
    clear hq hj hK hok hfl hl hpos hwv hwe hwl hwz hsg
    gi_wp2_with fail
    refine ⟨trivial, ?_⟩
    refine (callsIn_wide.2 HSG.out).mono ?_
    rintro e W5 ⟨rfl, hj5, hk5⟩
    have HJ5 := Lib.hid hj5
    have HKD5 := Lib.hid (hk5.same _ _ HKD.out rfl)
    have HB5 := Lib.hid (HWB.out.trans (hj5.2.2.mono (by have := HWZ.out; omega)))
    clear hj5 hk5
    gi_wp2_with fail
    refine ⟨trivial, ?_⟩
    refine (HRU.out _ (HD.out.on HB5.out)).mono ?_
    rintro e W6 ⟨rfl, hb6⟩
    have HB6 := Lib.hid (HB5.out.trans (hb6.mono HB5.out.size))
    have HKD6 : Hid (W6.heap[D]? = some (.deferred (some []))) := (hb6.block _ (Array.getElem?_eq_some_iff.1 HKD5.out).1).trans HKD5.out
    obtain ⟨y0, y1⟩ := rrj_cells HC0.out HC1.out HWZ.out HJ5.out
    have x0 : Boxed W6 w.heap.size 9 (.string ⟨#[]⟩) := (hb6.block _ y0.lt).trans y0
    have x1 : Boxed W6 (w.heap.size + 1) 4 (.bool false) := (hb6.block _ y1.lt).trans y1
    have X0 := Lib.hid x0
    have X1 := Lib.hid x1
    have c0 := x0.cell
    have f0 := x0.frozen
    have c1 := x1.cell
    have f1 := x1.frozen
    clear hb6 y0 y1 x0 x1
    by_cases ha : alt ps = true
    · have hts : (⟨(runT (runsL wv)).toArray⟩ : ByteArray) = s := by rw [HIF.out.2 ha]
      have HEE : Hid (rrA s.data.toList = some (fl ps)) := by rw [Hid, HE.out, if_pos ha]
      rw [hts]
      have e1 : (s.toList == s.toList) = true := by simp
      have HE0 : Hid (Boxed ((W6.setCell ⟨w.heap.size, 0, none⟩ (.string wv)).setCell ⟨w.heap.size + 1, 0, none⟩ (.bool true)) w.heap.size 9 (.string wv)) := (X0.out.set _).kept (grownBy_setCell' _ _ _) (by simp)
      have HE1 : Hid (Boxed ((W6.setCell ⟨w.heap.size, 0, none⟩ (.string wv)).setCell ⟨w.heap.size + 1, 0, none⟩ (.bool true)) (w.heap.size + 1) 4 (.bool true)) := (X1.out.kept (grownBy_setCell' _ _ _) (by simp)).set _
      have HK9 : Hid (((W6.setCell ⟨w.heap.size, 0, none⟩ (.string wv)).setCell ⟨w.heap.size + 1, 0, none⟩ (.bool true)).heap[D]? = some (.deferred (some []))) := (heap_set_otherS (by omega) _).trans ((heap_set_otherS (by omega) _).trans HKD6.out)
      have HB9 : Hid (Below w.heap.size w ((W6.setCell ⟨w.heap.size, 0, none⟩ (.string wv)).setCell ⟨w.heap.size + 1, 0, none⟩ (.bool true))) := (HB6.out.setCell (p := ⟨w.heap.size, 0, none⟩) (Nat.le_refl _) _).setCell (p := ⟨w.heap.size + 1, 0, none⟩) (Nat.le_succ _) _
      clear ha hts
      gi_wp2
      obtain ⟨W9, hW9⟩ : ∃ W9, (W6.setCell ⟨w.heap.size, 0, none⟩ (.string wv)).setCell ⟨w.heap.size + 1, 0, none⟩ (.bool true) = W9 := ⟨_, rfl⟩
      rw [hW9] at HE0 HE1 HK9 HB9 ⊢
      clear hW9 c0 c1 f0 f1
      refine ⟨by simp, .inl ⟨_, _, rfl, run_takeDeferred HK9.out, ?_⟩⟩
      have k0 := (HE0.out.kept (grownBy_putObj' W9 D (.deferred none)) (by simp; omega)).cell
      have k1 := (HE1.out.kept (grownBy_putObj' W9 D (.deferred none)) (by simp; omega)).cell
      refine ⟨.tuple #[.string wv, .bool true], by simp [results, Tryd.results12, go_sem, k0, k1], by rw [HEE.out, ← HWE.out]; rfl, ?_⟩
      exact below_grownBy HB9.out (.inr trivial) (grownBy_putObj' _ D _) HB9.out.size (fun r e => by cases e; omega)
    · have HEE : Hid (rrA s.data.toList = none) := by rw [Hid, HE.out, if_neg ha]
      have hxs : (⟨(runT (runsL wv)).toArray⟩ : ByteArray) ≠ s := fun e => ha (HIF.out.1 (by rw [← e]))
      obtain ⟨X, hX⟩ : ∃ X : ByteArray, (⟨(runT (runsL wv)).toArray⟩ : ByteArray) = X := ⟨_, rfl⟩
      rw [hX] at hxs ⊢
      have e1 : (X.toList == s.toList) = false := str_ne hxs
      have HE0 : Hid (Boxed ((W6.setCell ⟨w.heap.size, 0, none⟩ (.string ⟨#[]⟩)).setCell ⟨w.heap.size + 1, 0, none⟩ (.bool false)) w.heap.size 9 (.string ⟨#[]⟩)) := (X0.out.set _).kept (grownBy_setCell' _ _ _) (by simp)
      have HE1 : Hid (Boxed ((W6.setCell ⟨w.heap.size, 0, none⟩ (.string ⟨#[]⟩)).setCell ⟨w.heap.size + 1, 0, none⟩ (.bool false)) (w.heap.size + 1) 4 (.bool false)) := (X1.out.kept (grownBy_setCell' _ _ _) (by simp)).set _
      have HK9 : Hid (((W6.setCell ⟨w.heap.size, 0, none⟩ (.string ⟨#[]⟩)).setCell ⟨w.heap.size + 1, 0, none⟩ (.bool false)).heap[D]? = some (.deferred (some []))) := (heap_set_otherS (by omega) _).trans ((heap_set_otherS (by omega) _).trans HKD6.out)
      have HB9 : Hid (Below w.heap.size w ((W6.setCell ⟨w.heap.size, 0, none⟩ (.string ⟨#[]⟩)).setCell ⟨w.heap.size + 1, 0, none⟩ (.bool false))) := (HB6.out.setCell (p := ⟨w.heap.size, 0, none⟩) (Nat.le_refl _) _).setCell (p := ⟨w.heap.size + 1, 0, none⟩) (Nat.le_succ _) _
      clear ha hX hxs
      gi_wp2
      obtain ⟨W9, hW9⟩ : ∃ W9, (W6.setCell ⟨w.heap.size, 0, none⟩ (.string ⟨#[]⟩)).setCell ⟨w.heap.size + 1, 0, none⟩ (.bool false) = W9 := ⟨_, rfl⟩
      rw [hW9] at HE0 HE1 HK9 HB9 ⊢
      clear hW9 c0 c1 f0 f1
      refine ⟨by simp, .inl ⟨_, _, rfl, run_takeDeferred HK9.out, ?_⟩⟩
      have k0 := (HE0.out.kept (grownBy_putObj' W9 D (.deferred none)) (by simp; omega)).cell
      have k1 := (HE1.out.kept (grownBy_putObj' W9 D (.deferred none)) (by simp; omega)).cell
      refine ⟨.tuple #[.string ⟨#[]⟩, .bool false], by simp [results, Tryd.results12, go_sem, k0, k1], by rw [HEE.out]; rfl, ?_⟩
      exact below_grownBy HB9.out (.inr trivial) (grownBy_putObj' _ D _) HB9.out.size (fun r e => by cases e; omega)
  case stop =>
    rintro D c pre W hD ⟨rfl, hn, b2, b3, h0⟩ hK
    have HE := Lib.hid hn
    have HE0 := Lib.hid b2
    have HE1 := Lib.hid b3
    have HKD := Lib.hid hK
    have HBW := Lib.hid h0
    clear hn b2 b3 h0 hK
    gi_wp2
    refine ⟨by simp, .inl ⟨_, _, rfl, run_takeDeferred HKD.out, ?_⟩⟩
    have k0 := (HE0.out.kept (grownBy_putObj' W D (.deferred none)) (by simp; omega)).cell
    have k1 := (HE1.out.kept (grownBy_putObj' W D (.deferred none)) (by simp; omega)).cell
    refine ⟨.tuple #[.string ⟨#[]⟩, .bool false], by simp [results, Tryd.results12, go_sem, k0, k1], by rw [HE.out]; rfl, ?_⟩
    exact below_grownBy HBW.out (.inr trivial) (grownBy_putObj' _ D _) HBW.out.size (fun r e => by cases e; omega)
end Go.Proofs.YtemjohkieehojaaDoor
