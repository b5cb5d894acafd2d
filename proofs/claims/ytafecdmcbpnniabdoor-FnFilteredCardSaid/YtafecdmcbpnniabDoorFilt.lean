/- A filtered wave of the program, by a rule. -/
import Derived.Test.YtafecdmcbpnniabDoorBuilder
import Derived.Test.YtafecdmcbpnniabDoorDecs
import Derived.Test.YtafecdmcbpnniabDoorCanF
import Derived.Test.YtafecdmcbpnniabDoorWinO
import Derived.StillTailTactics
import Derived.Stop.Asserts
namespace Go.Proofs.YtafecdmcbpnniabDoor
open Go.RowKit Go.Shelf
set_option linter.unusedVariables false

theorem levelOfX (b : Bool) (w : World) :
    Calls Tryd.prog 35 #[.bool b] w fun e w' => e = .returned (.int .i32 ((lvU b).toNat : Int)) ∧ w = w' := by
  cases b
  all_goals
    go_enter Tryd.func35, Tryd.ntmps35
    go_wp2
    go_ret
    exact ⟨rfl, rfl⟩
theorem builder_grownX {T e : TypeId} {B b k : Nat} {bs : List Value} {w w' : World} (h : Lib.IsBuilderF T e B b bs w) (hg : w.grownBy w' (some k)) (hk : k < B) : Lib.IsBuilderF T e B b bs w' := by
  have one : ∀ p, Lib.BuilderAtF T e B b p bs w → Lib.BuilderAtF T e B b p bs w' := by
    rintro p ⟨hB, v0, hb, hown, hne⟩
    refine ⟨hB, v0, (hg.block b (Array.getElem?_eq_some_iff.1 hb).1 (by simp; omega)).trans hb, ?_, hne⟩
    refine hown.kept hg (Or.inr (fun e => ?_))
    have := (hown.lt k e).1
    omega
  exact h.elim (fun x => .inl (one _ x)) (fun x => .inr (one _ x))
theorem builder_ltX {T e : TypeId} {B b : Nat} {bs : List Value} {w : World} (h : Lib.IsBuilderF T e B b bs w) : b < w.heap.size := h.elim (fun x => x.lt) (fun x => x.lt)
theorem bytes_oneX (L : List UInt8) (c : UInt8) : Lib.byteCells (L ++ [c]) = Lib.byteCells L ++ [.int .u8 (c.toNat : Int)] := by simp [Lib.byteCells]
theorem grown_iter (w : World) (k : Nat) (s : ByteArray) (pos : Nat) : w.grownBy (w.iterAt k s pos) (some k) :=
  ⟨rfl, rfl, rfl, by rw [Lib.iterAt_size]; exact Nat.le_refl _, fun j _ hj => Lib.iterAt_other w k j s pos (fun e => hj (by rw [e]))⟩
/-- steps that turn blocks from B on, or block r -/
def Mix (B r : Nat) (a w : World) : Prop := w.os = a.os ∧ w.tape = a.tape ∧ w.output = a.output ∧ a.heap.size ≤ w.heap.size ∧ ∀ k, k < B → k ≠ r → w.heap[k]? = a.heap[k]?
theorem Mix.refl (B r : Nat) (w : World) : Mix B r w w := ⟨rfl, rfl, rfl, Nat.le_refl _, fun _ _ _ => rfl⟩
theorem Mix.trans {B r : Nat} {a b c : World} (h : Mix B r a b) (h2 : Mix B r b c) : Mix B r a c :=
  ⟨h2.1.trans h.1, h2.2.1.trans h.2.1, h2.2.2.1.trans h.2.2.1, Nat.le_trans h.2.2.2.1 h2.2.2.2.1, fun k hk hr => (h2.2.2.2.2 k hk hr).trans (h.2.2.2.2 k hk hr)⟩
theorem Mix.grown {B r k : Nat} {a b c : World} (h : Mix B r a b) (h2 : b.grownBy c (some k)) (hk : k = r ∨ B ≤ k) (hs : B ≤ b.heap.size) : Mix B r a c :=
  h.trans ⟨h2.os, h2.tape, h2.output, h2.size, fun j hj hr => h2.block j (by omega) (by simp; omega)⟩
theorem Mix.below {B C r : Nat} {a b c : World} (h : Mix B r a b) (h2 : Below C b c) (hC : B ≤ C) : Mix B r a c :=
  h.trans ⟨h2.os, h2.tape, h2.output, h2.size, fun j hj hr => h2.block j (by omega)⟩
theorem Mix.grownBy {B r : Nat} {a w : World} (h : Mix B r a w) (hB : B = a.heap.size) : a.grownBy w (some r) :=
  ⟨h.1, h.2.1, h.2.2.1, h.2.2.2.1, fun k hk hr => h.2.2.2.2 k (by omega) (by simpa [eq_comm] using hr)⟩
theorem noMarker (v : Value) (w : World) : (Instr.typeAssert (.iface 36 v) 63 68 true).run Tryd.prog w = .ok (.tuple #[.nilIface, .bool false]) w := run_typeAssert_lacksB Tryd.underlying68 (by kernel_rfl) (by kernel_rfl) v _ w
/-- what a filtered wave is -/
def FltR (r : Nat) (x : ByteArray) (w : World) (e : Ending) (w' : World) : Prop := e = .returned (.tuple #[.string x, .bool true]) ∧ w.grownBy w' (some r)
set_option maxHeartbeats 4000000 in
set_option maxRecDepth 100000 in
theorem filt_any (s : ByteArray) (T f r : Nat) (dec : Nat → Bool → Bool) (hd : DecC f T dec) (w : World) (hs : s.size ≤ maxLen) (hc : canB s (T : Int) = true) (hr : RuleAt w r false f) :
    Calls Tryd.prog 17 #[.string s, .int .i64 (T : Int), .iface 36 (.pointer (some ⟨r, 0, none⟩))] w fun e w' => FltR r (outS (fltL dec T s) s.size) w e w' := by
  obtain ⟨hw, hT1, hT2⟩ := canB_t hc
  have hz := wave_le hw
  have HA := Lib.hid (fun k h => wave_at hw k h)
  have HC := Lib.hid (fun w => canF_any s (T : Int) w hs)
  rw [hc] at HC
  have hrlt := hr.lt
  clear hw
  go_enter Tryd.func17, Tryd.ntmps17
  go_wp2_with fail
  refine (HC.out _).mono ?_; rintro e w1 ⟨rfl, b1⟩
  have HB1 := Lib.hid b1
  have hb1s := b1.size
  have HR1 := Lib.hid (hr.same (b1.block r hrlt))
  clear b1 hr
  go_wp2_with (first | (refine wpList_build_win rfl _ rfl T rfl ?_) | (refine wpList_alloc_win rfl rfl ?_) | (refine wpList_store_win rfl _ _ rfl T rfl rfl ?_))
  go_loopw [11, 12, 13, 14] (fun _ _ _ _ wr => ∃ k : Nat, k ≤ s.size ∧ Hid (WinAt wr w1.heap.size T k (bit s) ∧ Lib.IsBuilderF TB TU (w1.heap.size + 1) (w1.heap.size + 1) (Lib.byteCells (outL (fltL dec T s) k)) wr ∧ RuleAt wr r (filt dec (bit s) T k) f ∧ Mix w1.heap.size r w1 wr) ∧ wr.heap[w1.heap.size + 2]? = some (.stringIter s k)) (fun _ _ _ _ wr => s.size - wr.iterPos (w1.heap.size + 2))
  case atStart =>
    refine ⟨0, Nat.zero_le _, ⟨?_, ?_, ?_, ?_⟩, ?_⟩
    · exact ⟨winC T 0 0 (fun _ => false), ((Below.heap_alloc _ (.stringIter s 0) _ (by simp; omega)).trans (Below.heap_alloc _ _ _ (by simp))).trans (heap_alloc_last w1 _), WinK.start T (bit s)⟩
    · have := (Lib.IsBuilderF.of (Lib.fresh_isBuilder TB TU (w1.alloc (.cells (winC T 0 0 (fun _ => false)) TWin)))).alloc (.stringIter s 0)
      rw [World.size_alloc] at this
      exact this
    · exact HR1.out.same (((Below.heap_alloc _ (.stringIter s 0) _ (by simp; omega)).trans (Below.heap_alloc _ _ _ (by simp; omega))).trans (Below.heap_alloc _ _ _ (by omega)))
    · exact (((Mix.refl w1.heap.size r w1).below ((Below.refl w1.heap.size w1).alloc (Nat.le_refl _) _) (Nat.le_refl _)).below ((Below.refl w1.heap.size _).alloc (by simp) _) (Nat.le_refl _)).below ((Below.refl w1.heap.size _).alloc (by simp; omega) _) (Nat.le_refl _)
    · have := World.iter_heap ((w1.alloc (.cells (winC T 0 0 (fun _ => false)) TWin)).alloc (.cells #[.pointer none, .slice none 0 0] TB)) s 0
      simpa using this
  case round =>
    obtain ⟨k, hk, HH, hit⟩ := hrel
    have hsz2 : w1.heap.size + 2 < wr.heap.size := (Array.getElem?_eq_some_iff.1 hit).1
    by_cases hlt : k < s.size
    · have hav := HA.out k hlt
      have ha : s[k].toNat < 128 := by split at hav <;> omega
      have hnx : ∀ ty, (Instr.next (.pointer (some ⟨w1.heap.size + 2, 0, none⟩)) true ty).run Tryd.prog wr = _ := fun ty => Lib.run_next_ascii_at wr (w1.heap.size + 2) s k ty hit hlt ha
      have hit2 := Lib.iterAt_heap wr (w1.heap.size + 2) s k (k + 1) hit
      have hbe := bit_at s k hlt
      have hgi := grown_iter wr (w1.heap.size + 2) s (k + 1)
      have HW2 : Hid (WinAt (wr.iterAt (w1.heap.size + 2) s (k + 1)) w1.heap.size T k (bit s)) := HH.out.1.same (hgi.block _ (by omega) (by simp))
      have HB2 : Hid (Lib.IsBuilderF TB TU (w1.heap.size + 1) (w1.heap.size + 1) (Lib.byteCells (outL (fltL dec T s) k)) (wr.iterAt (w1.heap.size + 2) s (k + 1))) := HH.out.2.1.iterAt hit (k + 1)
      have HR2 : Hid (RuleAt (wr.iterAt (w1.heap.size + 2) s (k + 1)) r (filt dec (bit s) T k) f) := HH.out.2.2.1.same (hgi.block _ (by omega) (by simp; omega))
      have HM2 : Hid (Mix w1.heap.size r w1 (wr.iterAt (w1.heap.size + 2) s (k + 1))) := HH.out.2.2.2.grown hgi (.inr (by omega)) (by omega)
      have hs2 : (wr.iterAt (w1.heap.size + 2) s (k + 1)).heap.size = wr.heap.size := Lib.iterAt_size _ _ _ _
      obtain ⟨x, hx⟩ : ∃ x, bit s k = x := ⟨_, rfl⟩
      rw [hx] at hbe
      have HX := Lib.hid hx
      have HI2 := Lib.hid hit2
      have HN2 := Lib.hid (show wr.heap.size ≤ (wr.iterAt (w1.heap.size + 2) s (k + 1)).heap.size by omega)
      clear hav hgi hx hit2 hs2
      have hnm := fun w => noMarker (.pointer (some ⟨r, 0, none⟩)) w
      go_wp2_with fail
      refine (slide_any w1.heap.size T k (bit s) x HX.out _ (by omega) (by omega) HW2.out).mono ?_
      rintro e w2 ⟨rfl, hwin, hg2⟩
      obtain ⟨cs, hblk, arr, hv, hring⟩ := hwin
      have HB3 := Lib.hid (builder_grownX HB2.out hg2 (by omega))
      have HR3 : Hid (RuleAt w2 r (filt dec (bit s) T k) f) := HR2.out.same (hg2.block r (by have := HN2.out; omega) (by simp; omega))
      have HM3 : Hid (Mix w1.heap.size r w1 w2) := HM2.out.grown hg2 (.inr (Nat.le_refl _)) (by have := HN2.out; omega)
      have HI3 : Hid (w2.heap[w1.heap.size + 2]? = some (.stringIter s (k + 1))) := (hg2.block _ (by have := HN2.out; omega) (by simp)).trans HI2.out
      have HN3 : Hid (wr.heap.size ≤ w2.heap.size) := Nat.le_trans HN2.out hg2.size
      have hmk := lastC_le (bit s) T (k + 1)
      have HLD := Lib.hid hblk
      have HZ := Lib.hid hv.size
      have HON := Lib.hid (ruleOn_any f T dec hd r cs _ _ arr (filt dec (bit s) T k) w2 hv (by omega) (by omega) (by omega) HR3.out)
      have HWK : Hid (WinK cs T (k + 1) (bit s)) := ⟨arr, hv, hring⟩
      clear hblk hv hring hg2
      go_wp2_with (refine wpList_load_win rfl _ rfl w1.heap.size rfl cs HLD.out HZ.out ?_)
      refine HON.out.mono ?_
      rintro e w3 ⟨rfl, hr4, hg4⟩
      have hfl : dec (lastC (bit s) T (k + 1)) (filt dec (bit s) T k) = fltL dec T s k := rfl
      rw [hfl] at hr4 ⊢
      obtain ⟨y, hy⟩ : ∃ y, fltL dec T s k = y := ⟨_, rfl⟩
      rw [hy]
      have hne : r ≠ w1.heap.size := by omega
      have HB4 := Lib.hid (builder_grownX HB3.out hg4 (by omega))
      have HW4 : Hid (WinAt w3 w1.heap.size T (k + 1) (bit s)) := ⟨cs, (hg4.block _ (by have := HN3.out; omega) (by simp; omega)).trans HLD.out, HWK.out⟩
      have HR4 : Hid (RuleAt w3 r (filt dec (bit s) T (k + 1)) f) := hr4
      have HM4 : Hid (Mix w1.heap.size r w1 w3) := HM3.out.grown hg4 (.inl rfl) (by have := HN3.out; omega)
      have HI4 : Hid (w3.heap[w1.heap.size + 2]? = some (.stringIter s (k + 1))) := (hg4.block _ (by have := HN3.out; omega) (by simp; omega)).trans HI3.out
      have HN4 : Hid (wr.heap.size ≤ w3.heap.size) := Nat.le_trans HN3.out hg4.size
      have HY := Lib.hid hy
      clear hr4 hg4 hfl hy
      go_wp2_with fail
      refine (levelOfX y _).mono ?_; rintro e w' ⟨rfl, rfl⟩
      go_wp2_with fail
      refine (writeRune_low (w1.heap.size + 1) (w1.heap.size + 1) _ ((lvU y).toNat : Int) _ (by omega) (by cases y <;> decide) HB4.out (by rw [Lib.byteCells_length, outL_len]; omega) (by have := HN4.out; omega)).mono ?_
      rintro e w5 ⟨rfl, h5, b5, k5⟩
      have HB5 : Hid (Lib.IsBuilderF TB TU (w1.heap.size + 1) (w1.heap.size + 1) (Lib.byteCells (outL (fltL dec T s) (k + 1))) w5) := by
        show Lib.IsBuilderF _ _ _ _ _ _
        rw [outL_snoc, bytes_oneX, HY.out]; exact Or.inr h5
      have HW5 : Hid (WinAt w5 w1.heap.size T (k + 1) (bit s)) := HW4.out.below b5 (by omega)
      have HR5 : Hid (RuleAt w5 r (filt dec (bit s) T (k + 1)) f) := HR4.out.same (b5.block r (by omega))
      have HM5 : Hid (Mix w1.heap.size r w1 w5) := HM4.out.below b5 (by omega)
      have HI5 : Hid (w5.heap[w1.heap.size + 2]? = some (.stringIter s (k + 1))) := k5.iter HI4.out (by omega)
      clear h5 b5 k5
      go_wp2
      go_roundw
      case rel => exact ⟨k + 1, by omega, ⟨HW5.out, HB5.out, HR5.out, HM5.out⟩, HI5.out⟩
      case measure => rw [iterPos_of HI5.out, iterPos_of hit]; omega
    · have hnx : ∀ ty, (Instr.next (.pointer (some ⟨w1.heap.size + 2, 0, none⟩)) true ty).run Tryd.prog wr = _ := fun ty => Lib.run_next_end_at wr (w1.heap.size + 2) s k ty hit hlt
      obtain rfl : k = s.size := by omega
      obtain ⟨-, hB, -, hM⟩ := HH.out
      have HM := Lib.hid hM
      have HHB := Lib.hid hB
      clear HH hB hM
      go_wp2_with fail
      refine (Tryd.Builder_String_any_k (w1.heap.size + 1) (w1.heap.size + 1) _ _ HHB.out (by omega)).mono ?_
      rintro e w' ⟨rfl, _, hb2, _⟩
      go_wp2
      go_ret2
      refine ⟨rfl, ?_⟩
      have hm := HM.out.below hb2 (by omega)
      have h0 : Mix w.heap.size r w w1 := ⟨HB1.out.os, HB1.out.tape, HB1.out.output, HB1.out.size, fun j hj _ => HB1.out.block j hj⟩
      exact (h0.trans ⟨hm.1, hm.2.1, hm.2.2.1, hm.2.2.2.1, fun j hj hjr => hm.2.2.2.2 j (by omega) hjr⟩).grownBy rfl
end Go.Proofs.YtafecdmcbpnniabDoor
