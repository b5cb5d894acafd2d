/- Levels that a function value makes of two waves, tick by tick: whatever function value. -/
import Derived.Test.YtmhbgpappjfolaaAre
import Derived.Test.YtmhbgpappjfolaaJoinImpl0
namespace Go.Proofs.Ytmhbgpappjfolaa
open Go.RowKit Go.Shelf
set_option linter.unusedVariables false

/-- blocks from B on are as they were -/
def Stay (B : Nat) (w w' : World) : Prop := w.heap.size ≤ w'.heap.size ∧ ∀ k, B ≤ k → k < w.heap.size → w'.heap[k]? = w.heap[k]?
theorem Stay.refl (B : Nat) (w : World) : Stay B w w := ⟨Nat.le_refl _, fun _ _ _ => rfl⟩
theorem Stay.builder {T e : TypeId} {B b : Nat} {bs : List Value} {w w' : World} (h : Lib.IsBuilderF T e B b bs w) (hs : Stay B w w') : Lib.IsBuilderF T e B b bs w' := by
  have key : ∀ p, Lib.BuilderAtF T e B b p bs w → Lib.BuilderAtF T e B b p bs w' := by
    rintro p ⟨hB, v, hv, ⟨hl, hown⟩, hne⟩
    have hlt : b < w.heap.size := (Array.getElem?_eq_some_iff.1 hv).1
    refine ⟨hB, v, (hs.2 b hB hlt).trans hv, ⟨hl, ?_⟩, hne⟩
    rcases hown with hn | ⟨g, cap, cur, fz, e1, hg, e2, r⟩
    · exact .inl hn
    · exact .inr ⟨g, cap, cur, fz, e1, hg, (hs.2 g hg (Array.getElem?_eq_some_iff.1 e2).1).trans e2, r⟩
  exact h.elim (fun x => .inl (key _ x)) (fun x => .inr (key _ x))
theorem outL_cells (f : Nat → Bool) (k : Nat) : Lib.byteCells (outL f (k + 1)) = Lib.byteCells (outL f k) ++ [.int .u8 (lvOf (f k))] := by
  rw [outL_snoc]
  have e : ((lvU (f k)).toNat : Int) = lvOf (f k) := by cases f k <;> rfl
  simp [Lib.byteCells, e]

set_option maxHeartbeats 2000000 in
set_option maxRecDepth 100000 in
theorem joined_any (a b : ByteArray) (g : Nat) (fs lb : Array Value) (eg : ∀ args w, (callFunc g args).run Try.prog w = .ok (.enter g args) w) (f : Nat → Bool) (J : Nat → World → Prop) (B0 : Nat) (w : World)
    (hab : a.size ≤ b.size) (hs : a.size ≤ 400) (hB0 : B0 ≤ w.heap.size)
    (hstep : ∀ k W, k < a.size → w.heap.size < W.heap.size → J k W → Calls Try.prog g (fs ++ (#[.bool (bit a k), .bool (bit b k)] ++ lb)) W fun e W' => e = .returned (.bool (f k)) ∧ J (k + 1) W' ∧ Below B0 W W' ∧ Stay w.heap.size W W')
    (hJ : ∀ k W W', J k W → Below w.heap.size W W' → J k W') (h0 : J 0 w) :
    Calls Try.prog 53 #[.string a, .string b, .func (.func g) fs lb] w fun e w' => e = .returned (.string (outS f a.size)) ∧ J a.size w' ∧ Below B0 w w' := by
  have HJ := Lib.hid hJ
  have HS := Lib.hid hstep
  clear hJ hstep
  go_enter Try.func53, Try.ntmps53
  go_wp2
  go_loopw [8, 11] (fun _ i wr => ∃ k : Nat, k ≤ a.size ∧ i = .int .i64 k ∧ Hid (Lib.IsBuilderF TB TU w.heap.size w.heap.size (Lib.byteCells (outL f k)) wr) ∧ Hid (Below B0 w wr) ∧ w.heap.size < wr.heap.size ∧ Hid (J k wr)) (fun _ i _ => a.size - (intOf i).toNat)
  case atStart => exact ⟨0, Nat.zero_le _, rfl, Lib.hid (Lib.IsBuilderF.of (Lib.fresh_isBuilder TB TU w)), Lib.hid ((Below.refl _ w).alloc hB0 _), by simp, Lib.hid (HJ.out _ _ _ h0 ((Below.refl _ w).alloc (Nat.le_refl _) _))⟩
  case round =>
    obtain ⟨k, hk, rfl, HI, HBW, hszr, HK⟩ := hrel
    by_cases hlt : k < a.size
    · have hlt2 : k < b.size := by omega
      have p1 := bit_at a k hlt
      have p2 := bit_at b k hlt2
      obtain ⟨x, hx⟩ : ∃ x, bit a k = x := ⟨_, rfl⟩
      obtain ⟨y, hy⟩ : ∃ y, bit b k = y := ⟨_, rfl⟩
      have HC := HS.out k
      rw [hx] at p1
      rw [hy] at p2
      rw [hx, hy] at HC
      have HC := Lib.hid HC
      have HL := Lib.hid (outL_len f k)
      have HN := Lib.hid (outL_cells f k)
      obtain ⟨z, hz⟩ : ∃ z, f k = z := ⟨_, rfl⟩
      rw [hz] at HN HC
      clear hx hy hz
      go_wp2
      go_region_with (first | (go_at_fn g; refine (HC.out wr.drew hlt hszr (HJ.out k wr wr.drew HK.out (Below.refl _ wr).drew)).mono ?_; rintro e w1 ⟨rfl, j1, b1, s1⟩; have HI1 := Lib.hid (s1.builder HI.out); have HJ1 := Lib.hid j1; have HB1 := Lib.hid (HBW.out.drew.trans b1); have hz1 := s1.1; clear j1 b1 s1) | (go_at_call 61; refine (levelOf_lv _ _).mono ?_; rintro e w' ⟨rfl, rfl⟩) | (go_at_call 60; refine (writeRune_low w.heap.size w.heap.size _ _ _ (lvOf_bd _).1 (lvOf_bd _).2 HI1.out (by rw [Lib.byteCells_length, HL.out]; omega) (by first | exact Nat.le_of_lt (Nat.lt_of_lt_of_le hszr hz1) | (simp at hz1; omega))).mono ?_; rintro e W1 ⟨rfl, h1, b1, k1⟩; have H1 := Lib.hid h1; have HB2 := Lib.hid b1; have hz2 := b1.size; clear h1 b1 k1))
      all_goals
        go_wp2
        go_roundw
        case rel => exact ⟨k + 1, by omega, by go_num, by rw [HN.out]; exact Lib.hid (Or.inr H1.out), Lib.hid (HB1.out.trans (HB2.out.mono hB0)), (by first | exact Nat.lt_of_lt_of_le (Nat.lt_of_lt_of_le hszr hz1) hz2 | (simp at hz1 hz2; omega)), Lib.hid (HJ.out _ _ _ HJ1.out HB2.out)⟩
        case measure => simp [intOf]; omega
    · obtain rfl : k = a.size := by omega
      have HIO := HI.out
      go_wp2_with fail
      refine (Try.Builder_String_any_k w.heap.size w.heap.size _ _ HIO (by omega)).mono ?_
      rintro e w' ⟨rfl, _, hb2, _⟩
      have HB2 := Lib.hid hb2
      clear hb2
      go_wp2
      go_ret
      exact ⟨rfl, HJ.out _ _ _ HK.out HB2.out, HBW.out.trans (HB2.out.mono hB0)⟩
end Go.Proofs.Ytmhbgpappjfolaa
