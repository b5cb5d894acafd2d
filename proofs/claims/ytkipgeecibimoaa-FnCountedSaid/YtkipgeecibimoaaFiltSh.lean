/- A filtered wave of the program, by shots. -/
import Derived.Test.YtkipgeecibimoaaShots
namespace Go.Proofs.Ytkipgeecibimoaa
open Go.RowKit Go.Shelf
set_option linter.unusedVariables false

theorem hasMarker (v : Value) (w : World) : (Instr.typeAssert (.iface 98 v) 180 185 true).run Try.prog w = .ok (.tuple #[.iface 98 v, .bool true]) w := run_typeAssert_hasB Try.underlying185 (by kernel_rfl) v _ w
def prevB (s : ByteArray) (k : Nat) : Bool := decide (0 < k) && bit s (k - 1)
theorem prevB_succ (s : ByteArray) (k : Nat) : prevB s (k + 1) = bit s k := by simp [prevB]
set_option maxHeartbeats 4000000 in
set_option maxRecDepth 100000 in
theorem shot_any (s : ByteArray) (T r : Nat) (ag : Bool) (w : World) (hs : s.size ≤ maxLen) (hc : canB s (T : Int) = true) (hr : ShotAt w r false ag) :
    Calls Try.prog 69 #[.string s, .int .i64 (T : Int), .iface 98 (.pointer (some ⟨r, 0, none⟩))] w fun e w' => FltR r (outS (shotL ag T s) s.size) w e w' := by
  obtain ⟨hw, hT1, hT2⟩ := canB_t hc
  have hz := wave_le hw
  have HA := Lib.hid (fun k h => wave_at hw k h)
  have HC := Lib.hid (fun w => canF_any s (T : Int) w hs)
  rw [hc] at HC
  have hrlt := hr.lt
  clear hw
  go_enter Try.func69, Try.ntmps69
  go_wp2_with fail
  refine (HC.out _).mono ?_; rintro e w1 ⟨rfl, b1⟩
  have HB1 := Lib.hid b1
  have hb1s := b1.size
  have HR1 := Lib.hid (hr.same (b1.block r hrlt))
  obtain ⟨sh, hsh⟩ : ∃ sh, shB (upB s) ag T = sh := ⟨_, rfl⟩
  have HSH := Lib.hid hsh
  clear b1 hr hsh
  go_wp2_with (first | (refine wpList_build_win rfl _ rfl T rfl ?_) | (refine wpList_alloc_win rfl rfl ?_) | (refine wpList_store_win rfl _ _ rfl T rfl rfl ?_))
  go_loopw [11, 12, 13, 14] (fun _ _ _ _ wr => ∃ k : Nat, k ≤ s.size ∧ Hid (WinAt wr w1.heap.size T k sh ∧ Lib.IsBuilderF TB TU (w1.heap.size + 1) (w1.heap.size + 1) (Lib.byteCells (outL (shotL ag T s) k)) wr ∧ ShotAt wr r (prevB s k) ag ∧ Mix w1.heap.size r w1 wr) ∧ wr.heap[w1.heap.size + 2]? = some (.stringIter s k)) (fun _ _ _ _ wr => s.size - wr.iterPos (w1.heap.size + 2))
  case atStart =>
    refine ⟨0, Nat.zero_le _, ⟨?_, ?_, ?_, ?_⟩, ?_⟩
    · exact ⟨winC T 0 0 (fun _ => false), ((Below.heap_alloc _ (.stringIter s 0) _ (by simp; omega)).trans (Below.heap_alloc _ _ _ (by simp))).trans (heap_alloc_last w1 _), WinK.start T sh⟩
    · have := (Lib.IsBuilderF.of (Lib.fresh_isBuilder TB TU (w1.alloc (.cells (winC T 0 0 (fun _ => false)) TWin)))).alloc (.stringIter s 0)
      rw [World.size_alloc] at this
      exact this
    · exact HR1.out.same (((Below.heap_alloc _ (.stringIter s 0) _ (by simp; omega)).trans (Below.heap_alloc _ _ _ (by simp; omega))).trans (Below.heap_alloc _ _ _ (by omega)))
    · exact (((Mix.refl w1.heap.size r w1).below ((Below.refl w1.heap.size w1).alloc (Nat.le_refl _) _) (Nat.le_refl _)).below ((Below.refl w1.heap.size _).alloc (by simp) _) (Nat.le_refl _)).below ((Below.refl w1.heap.size _).alloc (by simp; omega) _) (Nat.le_refl _)
    · have := World.iter_heap ((w1.alloc (.cells (winC T 0 0 (fun _ => false)) TWin)).alloc (.cells #[.pointer none, .slice none 0 0] TB)) s 0
      simpa using this
  case round =>
    obtain ⟨k, hk, HH, hit⟩ := hrel
    have hsz2 : w1.heap.size + 2 < wr.heap.size := (Array.getElem?_eq_some_iff.1 hit).1
    by_cases hlt : k < s.size
    · have hav := HA.out k hlt
      have ha : s[k].toNat < 128 := by split at hav <;> omega
      have hnx : ∀ ty, (Instr.next (.pointer (some ⟨w1.heap.size + 2, 0, none⟩)) true ty).run Try.prog wr = _ := fun ty => Lib.run_next_ascii_at wr (w1.heap.size + 2) s k ty hit hlt ha
      have hit2 := Lib.iterAt_heap wr (w1.heap.size + 2) s k (k + 1) hit
      have hbe := bit_at s k hlt
      have hgi := grown_iter wr (w1.heap.size + 2) s (k + 1)
      have HW2 : Hid (WinAt (wr.iterAt (w1.heap.size + 2) s (k + 1)) w1.heap.size T k sh) := HH.out.1.same (hgi.block _ (by omega) (by simp))
      have HB2 : Hid (Lib.IsBuilderF TB TU (w1.heap.size + 1) (w1.heap.size + 1) (Lib.byteCells (outL (shotL ag T s) k)) (wr.iterAt (w1.heap.size + 2) s (k + 1))) := HH.out.2.1.iterAt hit (k + 1)
      have HR2 : Hid (ShotAt (wr.iterAt (w1.heap.size + 2) s (k + 1)) r (prevB s k) ag) := HH.out.2.2.1.same (hgi.block _ (by omega) (by simp; omega))
      have HM2 : Hid (Mix w1.heap.size r w1 (wr.iterAt (w1.heap.size + 2) s (k + 1))) := HH.out.2.2.2.grown hgi (.inr (by omega)) (by omega)
      have hs2 : (wr.iterAt (w1.heap.size + 2) s (k + 1)).heap.size = wr.heap.size := Lib.iterAt_size _ _ _ _
      have hupe : sh k = ((bit s k && !(prevB s k)) && (ag || restC sh T k == 0)) := by
        rw [← HSH.out, shB_eq _ _ _ _ (by omega)]; rfl
      obtain ⟨x, hx⟩ : ∃ x, bit s k = x := ⟨_, rfl⟩
      rw [hx] at hbe hupe
      have HUP := Lib.hid hupe
      have HX := Lib.hid hx
      have HI2 := Lib.hid hit2
      have HN2 := Lib.hid (show wr.heap.size ≤ (wr.iterAt (w1.heap.size + 2) s (k + 1)).heap.size by omega)
      have hnm := fun w => hasMarker (.pointer (some ⟨r, 0, none⟩)) w
      obtain ⟨c0, hblk0, hwk0⟩ := HW2.out
      have HLD0 := Lib.hid hblk0
      have HZ0 : Hid (c0.size = 53) := hwk0.choose_spec.1.size
      have HMK := Lib.hid (marks_any r k T c0 (prevB s k) ag x sh _ HR2.out (by omega) (by omega) hwk0)
      rw [← hupe] at HMK
      obtain ⟨u, hu⟩ : ∃ u, sh k = u := ⟨_, rfl⟩
      have HU := Lib.hid hu
      rw [hu] at HMK
      have HPS : Hid (prevB s (k + 1) = x) := by show _ = _; rw [prevB_succ]; exact hx
      clear hav hgi hx hit2 hs2 hupe hblk0 hwk0 hu
      go_wp2_with (refine wpList_load_win rfl _ rfl w1.heap.size rfl c0 HLD0.out HZ0.out ?_)
      refine HMK.out.mono ?_
      rintro e w2 ⟨rfl, hr3, hg2⟩
      have HB3 := Lib.hid (builder_grownX HB2.out hg2 (by omega))
      have HW3 : Hid (WinAt w2 w1.heap.size T k sh) := HW2.out.same (hg2.block _ (by have := HN2.out; omega) (by simp; omega))
      have HR3 : Hid (ShotAt w2 r (prevB s (k + 1)) ag) := by show ShotAt _ _ _ _; rw [HPS.out]; exact hr3
      have HM3 : Hid (Mix w1.heap.size r w1 w2) := HM2.out.grown hg2 (.inl rfl) (by have := HN2.out; omega)
      have HI3 : Hid (w2.heap[w1.heap.size + 2]? = some (.stringIter s (k + 1))) := (hg2.block _ (by have := HN2.out; omega) (by simp; omega)).trans HI2.out
      have HN3 : Hid (wr.heap.size ≤ w2.heap.size) := Nat.le_trans HN2.out hg2.size
      clear hr3 hg2
      go_wp2_with fail
      refine (slide_any w1.heap.size T k sh u HU.out _ (by omega) (by omega) HW3.out).mono ?_
      rintro e w3 ⟨rfl, hwin, hg3⟩
      obtain ⟨cs, hblk, arr, hv, hring⟩ := hwin
      have HB4 := Lib.hid (builder_grownX HB3.out hg3 (by omega))
      have HR4 : Hid (ShotAt w3 r (prevB s (k + 1)) ag) := HR3.out.same (hg3.block r (by have := HN3.out; omega) (by simp; omega))
      have HM4 : Hid (Mix w1.heap.size r w1 w3) := HM3.out.grown hg3 (.inr (Nat.le_refl _)) (by have := HN3.out; omega)
      have HI4 : Hid (w3.heap[w1.heap.size + 2]? = some (.stringIter s (k + 1))) := (hg3.block _ (by have := HN3.out; omega) (by simp)).trans HI3.out
      have HN4 : Hid (wr.heap.size ≤ w3.heap.size) := Nat.le_trans HN3.out hg3.size
      have HLD := Lib.hid hblk
      have HZ := Lib.hid hv.size
      have HON := Lib.hid (shotOn r cs _ _ _ arr w3 hv)
      have HW4 : Hid (WinAt w3 w1.heap.size T (k + 1) sh) := ⟨cs, hblk, arr, hv, hring⟩
      have hfl : decide (0 < lastC sh T (k + 1)) = shotL ag T s k := by rw [← HSH.out]; rfl
      rw [hfl] at HON
      obtain ⟨y, hy⟩ : ∃ y, shotL ag T s k = y := ⟨_, rfl⟩
      rw [hy] at HON
      have HY := Lib.hid hy
      clear hblk hv hring hg3 hfl hy
      go_wp2_with (refine wpList_load_win rfl _ rfl w1.heap.size rfl cs HLD.out HZ.out ?_)
      refine HON.out.mono ?_
      rintro e w4 ⟨rfl, b4⟩
      have HB5 := Lib.hid (builder_grownX HB4.out (grown_below b4 (some r)) (by omega))
      have HW5 : Hid (WinAt w4 w1.heap.size T (k + 1) sh) := HW4.out.below b4 (by have := HN4.out; omega)
      have HR5 : Hid (ShotAt w4 r (prevB s (k + 1)) ag) := HR4.out.same (b4.block r (by have := HN4.out; omega))
      have HM5 : Hid (Mix w1.heap.size r w1 w4) := HM4.out.below b4 (by have := HN4.out; omega)
      have HI5 : Hid (w4.heap[w1.heap.size + 2]? = some (.stringIter s (k + 1))) := (b4.block _ (by have := HN4.out; omega)).trans HI4.out
      have HN5 : Hid (wr.heap.size ≤ w4.heap.size) := Nat.le_trans HN4.out b4.size
      clear b4
      go_wp2_with fail
      refine (levelOfX y _).mono ?_; rintro e w' ⟨rfl, rfl⟩
      go_wp2_with fail
      refine (writeRune_low (w1.heap.size + 1) (w1.heap.size + 1) _ ((lvU y).toNat : Int) _ (by omega) (by cases y <;> decide) HB5.out (by rw [Lib.byteCells_length, outL_len]; omega) (by have := HN5.out; omega)).mono ?_
      rintro e w5 ⟨rfl, h5, b5, k5⟩
      have HB6 : Hid (Lib.IsBuilderF TB TU (w1.heap.size + 1) (w1.heap.size + 1) (Lib.byteCells (outL (shotL ag T s) (k + 1))) w5) := by
        show Lib.IsBuilderF _ _ _ _ _ _
        rw [outL_snoc, bytes_oneX, HY.out]; exact Or.inr h5
      have HW6 : Hid (WinAt w5 w1.heap.size T (k + 1) sh) := HW5.out.below b5 (by omega)
      have HR6 : Hid (ShotAt w5 r (prevB s (k + 1)) ag) := HR5.out.same (b5.block r (by omega))
      have HM6 : Hid (Mix w1.heap.size r w1 w5) := HM5.out.below b5 (by omega)
      have HI6 : Hid (w5.heap[w1.heap.size + 2]? = some (.stringIter s (k + 1))) := k5.iter HI5.out (by omega)
      clear h5 b5 k5
      go_wp2
      go_roundw
      case rel => exact ⟨k + 1, by omega, ⟨HW6.out, HB6.out, HR6.out, HM6.out⟩, HI6.out⟩
      case measure => rw [iterPos_of HI6.out, iterPos_of hit]; omega
    · have hnx : ∀ ty, (Instr.next (.pointer (some ⟨w1.heap.size + 2, 0, none⟩)) true ty).run Try.prog wr = _ := fun ty => Lib.run_next_end_at wr (w1.heap.size + 2) s k ty hit hlt
      obtain rfl : k = s.size := by omega
      obtain ⟨-, hB, -, hM⟩ := HH.out
      have HM := Lib.hid hM
      have HHB := Lib.hid hB
      clear HH hB hM
      go_wp2_with fail
      refine (Try.Builder_String_any_k (w1.heap.size + 1) (w1.heap.size + 1) _ _ HHB.out (by omega)).mono ?_
      rintro e w' ⟨rfl, _, hb2, _⟩
      go_wp2
      go_ret2
      refine ⟨rfl, ?_⟩
      have hm := HM.out.below hb2 (by omega)
      have h0 : Mix w.heap.size r w w1 := ⟨HB1.out.os, HB1.out.tape, HB1.out.output, HB1.out.size, fun j hj _ => HB1.out.block j hj⟩
      exact (h0.trans ⟨hm.1, hm.2.1, hm.2.2.1, hm.2.2.2.1, fun j hj hjr => hm.2.2.2.2 j (by omega) hjr⟩).grownBy rfl
end Go.Proofs.Ytkipgeecibimoaa
