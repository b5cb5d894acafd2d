/- The ticks at which an enable changes: both sides, and the law's walk. -/
import Derived.Test.YtmhbgpappjfolaaEnLaw
import Derived.Test.YtmhbgpappjfolaaEdgeSpec
import Derived.BigQuiet
import Derived.Deep.QuietTactic
namespace Go.Proofs.Ytmhbgpappjfolaa
open Go.RowKit Go.Shelf
set_option linter.unusedVariables false
set_option linter.unusedSimpArgs false

def chB (n : Nat) (fi : Bool) (a b c : ByteArray) (k : Nat) : Bool := ((swAt n fi a b c (k + 1)).e0 != (swAt n fi a b c k).e0) || ((swAt n fi a b c (k + 1)).e1 != (swAt n fi a b c k).e1)
def timL (n : Nat) (fi : Bool) (a b c : ByteArray) : Nat → List Int
  | 0 => []
  | k + 1 => if chB n fi a b c k then timL n fi a b c k ++ [(k : Int)] else timL n fi a b c k
theorem timL_len (n : Nat) (fi : Bool) (a b c : ByteArray) (k : Nat) : (timL n fi a b c k).length ≤ k := by
  induction k with
  | zero => exact Nat.le_refl _
  | succ k ih =>
    simp only [timL]
    split
    · simp; omega
    · omega
theorem timL_one (n : Nat) (fi : Bool) (a b c : ByteArray) : timL n fi a b c 1 = [] := by
  have : chB n fi a b c 0 = false := by
    unfold chB
    have e : swAt n fi a b c 1 = swAt n fi a b c 0 := by
      show swB n b c 0 (swA n a c 0 (swAt n fi a b c 0)) = _
      simp [swA, swB, dnB]
    rw [e]; simp
  simp [timL, this]
theorem lvU_ne (x y : Bool) : (((lvU x).toNat : Int) != ((lvU y).toNat : Int)) = (x != y) := by cases x <;> cases y <;> decide
theorem outS_at (f : Nat → Bool) (n k : Nat) (h : k < (outS f n).size) (hk : k < n) : ((outS f n)[k].toNat : Int) = ((lvU (f k)).toNat : Int) := by
  have e := get_toList (outS f n) k h
  rw [outS_list] at e
  rw [← e]
  simp [outL, hk]
theorem ints_below {B : Nat} {w wr w1 : World} {v : Value} {l : List Int} (hB : Below B w wr) (hBw : B ≤ w.heap.size) (h : Ints wr B v l) (o : Obj) (hg : (wr.alloc o).grownBy w1 v.ownBlock) : Below B w w1 :=
  (hB.alloc (Nat.le_trans hBw hB.size) o).grown hg (by have := hB.size; simp; omega) (fun k e => ((World.ownsRow.alloc h o).lt k e).1)
def TimR (w : World) (l : List Int) (ok : Bool) (e : Ending) (w' : World) : Prop := ∃ v, e = .returned (.tuple #[v, .bool ok]) ∧ Ints w' w.heap.size v l ∧ Below w.heap.size w w'
set_option maxHeartbeats 4000000 in
set_option maxRecDepth 100000 in
theorem specTim_t (m : Nat) (fi : Bool) (a b c : ByteArray) (w : World) (h400 : a.size ≤ 400)
    (h : ∀ w, Calls Try.prog 31 #[.agg #[.int .i64 (m : Int), .int .i64 (chI fi)], .string a, .string b, .string c] w fun e w' => e = .returned (.tuple #[.string (outS (en0 m fi a b c) a.size), .string (outS (en1 m fi a b c) a.size), .bool true]) ∧ Below w.heap.size w w') :
    Calls Try.prog 40 #[.agg #[.int .i64 (m : Int), .int .i64 (chI fi)], .string a, .string b, .string c] w fun e w' => TimR w (timL m fi a b c a.size) true e w' := by
  obtain ⟨i0, hi, hz0, hz1, hz2⟩ := info_parts info_i64
  obtain ⟨f, hF⟩ : ∃ F : Int, chI fi = F := ⟨_, rfl⟩
  have f0 : (f == 0) = !fi := by rw [← hF]; cases fi <;> rfl
  have f1 : (f == 1) = fi := by rw [← hF]; cases fi <;> rfl
  rw [hF] at h ⊢
  have HE := Lib.hid h
  obtain ⟨N, hN⟩ : ∃ N, a.size = N := ⟨_, rfl⟩
  rw [hN] at HE h400 ⊢
  obtain ⟨x, hx⟩ : ∃ x, outS (en0 m fi a b c) N = x := ⟨_, rfl⟩
  obtain ⟨y, hy⟩ : ∃ x, outS (en1 m fi a b c) N = x := ⟨_, rfl⟩
  have sx : x.size = N := by rw [← hx, outS_size]
  have sy : y.size = N := by rw [← hy, outS_size]
  have sx1 := Nat.le_of_eq sx
  have sx2 := Nat.le_of_eq sx.symm
  have sy2 := Nat.le_of_eq sy.symm
  have HXK : Hid (∀ k (hk : k < x.size), k < N → (x[k].toNat : Int) = ((lvU (swAt m fi a b c (k + 1)).e0).toNat : Int)) := by
    show ∀ k (hk : k < x.size), k < N → (x[k].toNat : Int) = ((lvU (swAt m fi a b c (k + 1)).e0).toNat : Int)
    subst hx; exact fun k hk h2 => outS_at _ _ _ hk h2
  have HYK : Hid (∀ k (hk : k < y.size), k < N → (y[k].toNat : Int) = ((lvU (swAt m fi a b c (k + 1)).e1).toNat : Int)) := by
    show ∀ k (hk : k < y.size), k < N → (y[k].toNat : Int) = ((lvU (swAt m fi a b c (k + 1)).e1).toNat : Int)
    subst hy; exact fun k hk h2 => outS_at _ _ _ hk h2
  rw [hx, hy] at HE
  obtain ⟨w0, hw0⟩ : ∃ w0, w.alloc (.cells #[.int .i64 (m : Int), .int .i64 f] 36) = w0 := ⟨_, rfl⟩
  have hb0 : Below w.heap.size w w0 := by rw [← hw0]; exact (Below.refl _ _).alloc (Nat.le_refl _) _
  have hs0 : w.heap.size < w0.heap.size := by rw [← hw0]; simp
  have c0 : w0.cell? ⟨w.heap.size, 0, none⟩ = some (.int .i64 (m : Int)) := by rw [← hw0]; simp [go_sem]
  have c1 : w0.cell? ⟨w.heap.size, 1, none⟩ = some (.int .i64 f) := by rw [← hw0]; simp [go_sem]
  have HB0 := Lib.hid hb0
  have HC1 := Lib.hid c1
  clear h hF hN hx hy sx sy hb0
  go_enter Try.func40, Try.ntmps40
  go_wp2_with fail
  refine (HE.out _).mono ?_; rintro e w1 ⟨rfl, b1⟩
  have HB1 := Lib.hid (HB0.out.trans (b1.mono HB0.out.size))
  have d1 : w1.cell? ⟨w.heap.size, 1, none⟩ = some (.int .i64 f) := (b1.cell (p := ⟨w.heap.size, 1, none⟩) hs0).trans HC1.out
  clear b1 hw0 c0 c1
  obtain ⟨w2, hw2⟩ : ∃ w2, w1.alloc (.cells #[] 2) = w2 := ⟨_, rfl⟩
  have hz1s := HB1.out.size
  have hlt1 : w.heap.size < w1.heap.size := by
    rcases Nat.lt_or_ge w.heap.size w1.heap.size with h | h
    · exact h
    · have := World.block_lt_of_cell? w1 _ d1; simp at this; omega
  have d2 : w2.cell? ⟨w.heap.size, 1, none⟩ = some (.int .i64 f) := by rw [← hw2]; exact (((Below.refl w1.heap.size w1).alloc (Nat.le_refl _) (.cells #[] 2)).cell (p := ⟨w.heap.size, 1, none⟩) hlt1).trans d1
  have HB2 : Hid (Below w.heap.size w w2) := by rw [← hw2]; exact HB1.out.alloc hz1s _
  have HI2 : Hid (Ints w2 w.heap.size (.slice (some ⟨w1.heap.size, 0, none⟩) 0 0) []) := by rw [← hw2]; exact World.ownsRow_lit w1 #[] 0 hz1s (Nat.zero_le _) rfl
  clear d1
  go_wp2_with (go_at_call 76; first | ((with_reducible refine (l07Level_u (!fi) _).mono ?_); rintro e w' ⟨rfl, rfl⟩) | ((with_reducible refine (l07Level_u fi _).mono ?_); rintro e w' ⟨rfl, rfl⟩))
  clear hw2
  go_loopw [13, 14, 15, 16] (fun v p q i wr => ∃ k : Nat, k ≤ N ∧ i = .int .i64 k ∧ p = .int .u8 ((lvU (swAt m fi a b c k).e0).toNat : Int) ∧ q = .int .u8 ((lvU (swAt m fi a b c k).e1).toNat : Int) ∧ Hid (Ints wr w.heap.size v (timL m fi a b c k)) ∧ Hid (Below w.heap.size w wr)) (fun _ _ _ i _ => N - (intOf i).toNat)
  case atStart => exact ⟨0, Nat.zero_le _, rfl, rfl, rfl, HI2, HB2⟩
  case round =>
    obtain ⟨k, hk, rfl, rfl, rfl, HBU, HBW⟩ := hrel
    clear HI2 HB2 d2
    by_cases hlt : k < N
    · have hltx : k < x.size := by omega
      have hlty : k < y.size := by omega
      have hlen := timL_len m fi a b c k
      have hszr := HBW.out.size
      have ex := HXK.out k hltx hlt
      have ey := HYK.out k hlty hlt
      have HT : Hid (timL m fi a b c (k + 1) = if chB m fi a b c k then timL m fi a b c k ++ [(k : Int)] else timL m fi a b c k) := rfl
      have t0 := lvU_ne (swAt m fi a b c (k + 1)).e0 (swAt m fi a b c k).e0
      have t1 := lvU_ne (swAt m fi a b c (k + 1)).e1 (swAt m fi a b c k).e1
      have HCH : Hid (chB m fi a b c k = (((swAt m fi a b c (k + 1)).e0 != (swAt m fi a b c k).e0) || ((swAt m fi a b c (k + 1)).e1 != (swAt m fi a b c k).e1))) := rfl
      obtain ⟨P, hP⟩ : ∃ P : Int, ((lvU (swAt m fi a b c (k + 1)).e0).toNat : Int) = P := ⟨_, rfl⟩
      obtain ⟨Q, hQ⟩ : ∃ P : Int, ((lvU (swAt m fi a b c (k + 1)).e1).toNat : Int) = P := ⟨_, rfl⟩
      obtain ⟨P0, hP0⟩ : ∃ P : Int, ((lvU (swAt m fi a b c k).e0).toNat : Int) = P := ⟨_, rfl⟩
      obtain ⟨Q0, hQ0⟩ : ∃ P : Int, ((lvU (swAt m fi a b c k).e1).toNat : Int) = P := ⟨_, rfl⟩
      obtain ⟨z0, hz0'⟩ : ∃ z, ((swAt m fi a b c (k + 1)).e0 != (swAt m fi a b c k).e0) = z := ⟨_, rfl⟩
      obtain ⟨z1, hz1'⟩ : ∃ z, ((swAt m fi a b c (k + 1)).e1 != (swAt m fi a b c k).e1) = z := ⟨_, rfl⟩
      rw [hP, hP0, hz0'] at t0
      rw [hQ, hQ0, hz1'] at t1
      rw [hz0', hz1'] at HCH
      rw [hP] at ex
      rw [hQ] at ey
      rw [hP0, hQ0]
      have HPQ : Hid (((lvU (swAt m fi a b c (k + 1)).e0).toNat : Int) = P ∧ ((lvU (swAt m fi a b c (k + 1)).e1).toNat : Int) = Q) := ⟨hP, hQ⟩
      clear hP hQ hP0 hQ0 hz0' hz1'
      have HYES : Hid (z0 = true ∨ z1 = true → timL m fi a b c (k + 1) = timL m fi a b c k ++ [(k : Int)]) := fun q => by
        rw [HT.out, HCH.out]; rcases q with rfl | rfl <;> simp
      have HNO : Hid (z0 = false → z1 = false → timL m fi a b c (k + 1) = timL m fi a b c k) := fun q r => by
        rw [HT.out, HCH.out, q, r]; rfl
      clear HT HCH
      cases z0 with
      | true =>
        have HS := Lib.hid (HYES.out (Or.inl rfl))
        clear HYES HNO
        go_wp2_with (at_builtin; refine wpList_append_own _ rfl _ _ 45 rfl w.heap.size 2 i0 (.int .i64 0) 1 8 Try.underlying45 hi hz0 hz1 hz2 rfl (by decide) _ _ _ rfl (HBU.out.alloc _) ⟨wr.heap.size, 0, none⟩ 1 1 [.int .i64 (k : Int)] rfl rfl ?c1 ?c2 ?c3 ?c4 ?c5 ?_)
        case c1 => exact cell_one_new _ _ _
        case c2 => simp [Value.oneCell']
        case c3 => unfold maxLen; omega
        case c4 => omega
        case c5 => first | omega | (simp; omega)
        intro v' w7 hown' hgrow _
        have HO := Lib.hid (Ints.snoc hown')
        have HW7 := Lib.hid (ints_below HBW.out (by omega) HBU.out _ hgrow)
        clear hown' hgrow
        go_wp2
        go_roundw
        case rel => exact ⟨k + 1, by omega, by go_num, by rw [HPQ.out.1], by rw [HPQ.out.2], by rw [HS.out]; exact HO, HW7⟩
        case measure => simp [intOf]; omega
      | false =>
        cases z1 with
        | true =>
          have HS := Lib.hid (HYES.out (Or.inr rfl))
          clear HYES HNO
          go_wp2_with (at_builtin; refine wpList_append_own _ rfl _ _ 45 rfl w.heap.size 2 i0 (.int .i64 0) 1 8 Try.underlying45 hi hz0 hz1 hz2 rfl (by decide) _ _ _ rfl (HBU.out.alloc _) ⟨wr.heap.size, 0, none⟩ 1 1 [.int .i64 (k : Int)] rfl rfl ?d1 ?d2 ?d3 ?d4 ?d5 ?_)
          case d1 => exact cell_one_new _ _ _
          case d2 => simp [Value.oneCell']
          case d3 => unfold maxLen; omega
          case d4 => omega
          case d5 => first | omega | (simp; omega)
          intro v' w7 hown' hgrow _
          have HO := Lib.hid (Ints.snoc hown')
          have HW7 := Lib.hid (ints_below HBW.out (by omega) HBU.out _ hgrow)
          clear hown' hgrow
          go_wp2
          go_roundw
          case rel => exact ⟨k + 1, by omega, by go_num, by rw [HPQ.out.1], by rw [HPQ.out.2], by rw [HS.out]; exact HO, HW7⟩
          case measure => simp [intOf]; omega
        | false =>
          have HS := Lib.hid (HNO.out rfl rfl)
          clear HYES HNO
          go_wp2
          go_roundw
          case rel => exact ⟨k + 1, by omega, by go_num, by rw [HPQ.out.1], by rw [HPQ.out.2], by rw [HS.out]; exact HBU, HBW⟩
          case measure => simp [intOf]; omega
    · obtain rfl : k = N := by omega
      go_wp2
      go_ret2
      exact ⟨_, rfl, HBU.out, HBW.out⟩
set_option maxHeartbeats 4000000 in
set_option maxRecDepth 100000 in
theorem implTim_t (m : Nat) (fi : Bool) (a b c : ByteArray) (w : World) (h400 : a.size ≤ 400)
    (h : ∀ w, Calls Try.prog 32 #[.agg #[.int .i64 (m : Int), .int .i64 (chI fi)], .string a, .string b, .string c] w fun e w' => e = .returned (.tuple #[.string (outS (en0 m fi a b c) a.size), .string (outS (en1 m fi a b c) a.size), .bool true]) ∧ Below w.heap.size w w') :
    Calls Try.prog 41 #[.agg #[.int .i64 (m : Int), .int .i64 (chI fi)], .string a, .string b, .string c] w fun e w' => TimR w (timL m fi a b c a.size) true e w' := by
  obtain ⟨i0, hi, hz0, hz1, hz2⟩ := info_parts info_i64
  obtain ⟨f, hF⟩ : ∃ F : Int, chI fi = F := ⟨_, rfl⟩
  rw [hF] at h ⊢
  have HE := Lib.hid h
  obtain ⟨N, hN⟩ : ∃ N, a.size = N := ⟨_, rfl⟩
  rw [hN] at HE h400 ⊢
  obtain ⟨x, hx⟩ : ∃ x, outS (en0 m fi a b c) N = x := ⟨_, rfl⟩
  obtain ⟨y, hy⟩ : ∃ x, outS (en1 m fi a b c) N = x := ⟨_, rfl⟩
  have sx : x.size = N := by rw [← hx, outS_size]
  have sy : y.size = N := by rw [← hy, outS_size]
  have sx1 := Nat.le_of_eq sx
  have sx2 := Nat.le_of_eq sx.symm
  have sy2 := Nat.le_of_eq sy.symm
  have HXK : Hid (∀ k (hk : k < x.size), k < N → (x[k].toNat : Int) = ((lvU (swAt m fi a b c (k + 1)).e0).toNat : Int)) := by
    show ∀ k (hk : k < x.size), k < N → (x[k].toNat : Int) = ((lvU (swAt m fi a b c (k + 1)).e0).toNat : Int)
    subst hx; exact fun k hk h2 => outS_at _ _ _ hk h2
  have HYK : Hid (∀ k (hk : k < y.size), k < N → (y[k].toNat : Int) = ((lvU (swAt m fi a b c (k + 1)).e1).toNat : Int)) := by
    show ∀ k (hk : k < y.size), k < N → (y[k].toNat : Int) = ((lvU (swAt m fi a b c (k + 1)).e1).toNat : Int)
    subst hy; exact fun k hk h2 => outS_at _ _ _ hk h2
  rw [hx, hy] at HE
  have HL1 := Lib.hid (timL_one m fi a b c)
  obtain ⟨w0, hw0⟩ : ∃ w0, w.alloc (.cells #[.int .i64 (m : Int), .int .i64 f] 36) = w0 := ⟨_, rfl⟩
  have hb0 : Below w.heap.size w w0 := by rw [← hw0]; exact (Below.refl _ _).alloc (Nat.le_refl _) _
  have hs0 : w.heap.size < w0.heap.size := by rw [← hw0]; simp
  have c0 : w0.cell? ⟨w.heap.size, 0, none⟩ = some (.int .i64 (m : Int)) := by rw [← hw0]; simp [go_sem]
  have c1 : w0.cell? ⟨w.heap.size, 1, none⟩ = some (.int .i64 f) := by rw [← hw0]; simp [go_sem]
  have HB0 := Lib.hid hb0
  clear h hF hN hx hy sx sy hb0
  go_enter Try.func41, Try.ntmps41
  go_wp2_with fail
  refine (HE.out _).mono ?_; rintro e w1 ⟨rfl, b1⟩
  have HB1 : Hid (Below w.heap.size w w1) := by first | exact HB0.out.trans (b1.mono HB0.out.size) | exact b1
  have hz1s := HB1.out.size
  clear b1 hw0 c0 c1
  go_wp2
  go_loopw [13, 14] (fun v i wr => ∃ k : Nat, 1 ≤ k ∧ (k ≤ N ∨ k = 1) ∧ i = .int .i64 k ∧ Hid (Ints wr w.heap.size v (timL m fi a b c k)) ∧ Hid (Below w.heap.size w wr)) (fun _ i _ => N - (intOf i).toNat)
  case atStart => exact ⟨1, Nat.le_refl _, Or.inr rfl, rfl, by rw [HL1.out]; exact Ints.nil _ _, HB1⟩
  case round =>
    obtain ⟨k, hk1, hk2, rfl, HBU, HBW⟩ := hrel
    by_cases hlt : k < N
    · obtain ⟨j, hj⟩ : ∃ j, k = j + 1 := ⟨k - 1, by omega⟩
      have hltx : k < x.size := by omega
      have hlty : k < y.size := by omega
      have hjx : j < x.size := by omega
      have hjy : j < y.size := by omega
      have hlen := timL_len m fi a b c k
      have hszr := HBW.out.size
      have ex := HXK.out k hltx hlt
      have ey := HYK.out k hlty hlt
      have ex0 := HXK.out j hjx (by omega)
      have ey0 := HYK.out j hjy (by omega)
      rw [← hj] at ex0 ey0
      have wj : IntKind.i64.wrap ((k : Int) - 1) = (j : Int) := by rw [show (k : Int) - 1 = (j : Int) by omega]; exact IntWalk.i64_in _ (by omega)
      have wj0 : (0 : Int) ≤ (j : Int) := by omega
      have wj1 : (j : Int) < (x.size : Int) := by omega
      have wj2 : (j : Int) < (y.size : Int) := by omega
      have wk0 : (0 : Int) ≤ (k : Int) := by omega
      have wk1 : (k : Int) < (x.size : Int) := by omega
      have wk2 : (k : Int) < (y.size : Int) := by omega
      have HT : Hid (timL m fi a b c (k + 1) = if chB m fi a b c k then timL m fi a b c k ++ [(k : Int)] else timL m fi a b c k) := rfl
      have t0 := lvU_ne (swAt m fi a b c (k + 1)).e0 (swAt m fi a b c k).e0
      have t1 := lvU_ne (swAt m fi a b c (k + 1)).e1 (swAt m fi a b c k).e1
      have HCH : Hid (chB m fi a b c k = (((swAt m fi a b c (k + 1)).e0 != (swAt m fi a b c k).e0) || ((swAt m fi a b c (k + 1)).e1 != (swAt m fi a b c k).e1))) := rfl
      obtain ⟨P, hP⟩ : ∃ P : Int, ((lvU (swAt m fi a b c (k + 1)).e0).toNat : Int) = P := ⟨_, rfl⟩
      obtain ⟨Q, hQ⟩ : ∃ P : Int, ((lvU (swAt m fi a b c (k + 1)).e1).toNat : Int) = P := ⟨_, rfl⟩
      obtain ⟨P0, hP0⟩ : ∃ P : Int, ((lvU (swAt m fi a b c k).e0).toNat : Int) = P := ⟨_, rfl⟩
      obtain ⟨Q0, hQ0⟩ : ∃ P : Int, ((lvU (swAt m fi a b c k).e1).toNat : Int) = P := ⟨_, rfl⟩
      obtain ⟨z0, hz0'⟩ : ∃ z, ((swAt m fi a b c (k + 1)).e0 != (swAt m fi a b c k).e0) = z := ⟨_, rfl⟩
      obtain ⟨z1, hz1'⟩ : ∃ z, ((swAt m fi a b c (k + 1)).e1 != (swAt m fi a b c k).e1) = z := ⟨_, rfl⟩
      rw [hP, hP0, hz0'] at t0
      rw [hQ, hQ0, hz1'] at t1
      rw [hz0', hz1'] at HCH
      rw [hP] at ex
      rw [hQ] at ey
      rw [hP0] at ex0
      rw [hQ0] at ey0
      clear hP hQ hP0 hQ0 hz0' hz1' hj
      have HYES : Hid (z0 = true ∨ z1 = true → timL m fi a b c (k + 1) = timL m fi a b c k ++ [(k : Int)]) := fun q => by
        rw [HT.out, HCH.out]; rcases q with rfl | rfl <;> simp
      have HNO : Hid (z0 = false → z1 = false → timL m fi a b c (k + 1) = timL m fi a b c k) := fun q r => by
        rw [HT.out, HCH.out, q, r]; rfl
      clear HT HCH
      cases z0 with
      | true =>
        have HS := Lib.hid (HYES.out (Or.inl rfl))
        clear HYES HNO
        go_wp2
        go_quiet (fail)
        obtain ⟨wq, hwq⟩ : ∃ wq, wr.drewN nq = wq := ⟨_, rfl⟩
        have HBUq : Hid (Ints wq w.heap.size u13 (timL m fi a b c k)) := by rw [← hwq]; exact HBU.out
        have HBWq : Hid (Below w.heap.size w wq) := by rw [← hwq]; exact ⟨HBW.out.os, HBW.out.tape, HBW.out.output, HBW.out.size, HBW.out.block⟩
        have hszq := HBWq.out.size
        rw [hwq]
        clear hwq HBU HBW hszr
        go_wp2_with (at_builtin; refine wpList_append_own _ rfl _ _ 45 rfl w.heap.size 2 i0 (.int .i64 0) 1 8 Try.underlying45 hi hz0 hz1 hz2 rfl (by decide) _ _ _ rfl (HBUq.out.alloc _) ⟨wq.heap.size, 0, none⟩ 1 1 [.int .i64 (k : Int)] rfl rfl ?p1 ?p2 ?p3 ?p4 ?p5 ?_)
        case p1 => exact cell_one_new _ _ _
        case p2 => simp [Value.oneCell']
        case p3 => unfold maxLen; omega
        case p4 => omega
        case p5 => first | omega | (simp; omega)
        intro v' w7 hown' hgrow _
        have HO := Lib.hid (Ints.snoc hown')
        have HW7 := Lib.hid (ints_below HBWq.out (by omega) HBUq.out _ hgrow)
        clear hown' hgrow
        go_wp2
        go_roundw
        case rel => exact ⟨k + 1, by omega, by omega, by go_num, by rw [HS.out]; exact HO, HW7⟩
        case measure => simp [intOf]; omega
      | false =>
        cases z1 with
        | true =>
          have HS := Lib.hid (HYES.out (Or.inr rfl))
          clear HYES HNO
          go_wp2
          go_quiet (fail)
          obtain ⟨wq, hwq⟩ : ∃ wq, wr.drewN nq = wq := ⟨_, rfl⟩
          have HBUq : Hid (Ints wq w.heap.size u13 (timL m fi a b c k)) := by rw [← hwq]; exact HBU.out
          have HBWq : Hid (Below w.heap.size w wq) := by rw [← hwq]; exact ⟨HBW.out.os, HBW.out.tape, HBW.out.output, HBW.out.size, HBW.out.block⟩
          have hszq := HBWq.out.size
          rw [hwq]
          clear hwq HBU HBW hszr
          go_wp2_with (at_builtin; refine wpList_append_own _ rfl _ _ 45 rfl w.heap.size 2 i0 (.int .i64 0) 1 8 Try.underlying45 hi hz0 hz1 hz2 rfl (by decide) _ _ _ rfl (HBUq.out.alloc _) ⟨wq.heap.size, 0, none⟩ 1 1 [.int .i64 (k : Int)] rfl rfl ?q1 ?q2 ?q3 ?q4 ?q5 ?_)
          case q1 => exact cell_one_new _ _ _
          case q2 => simp [Value.oneCell']
          case q3 => unfold maxLen; omega
          case q4 => omega
          case q5 => first | omega | (simp; omega)
          intro v' w7 hown' hgrow _
          have HO := Lib.hid (Ints.snoc hown')
          have HW7 := Lib.hid (ints_below HBWq.out (by omega) HBUq.out _ hgrow)
          clear hown' hgrow
          go_wp2
          go_roundw
          case rel => exact ⟨k + 1, by omega, by omega, by go_num, by rw [HS.out]; exact HO, HW7⟩
          case measure => simp [intOf]; omega
        | false =>
          have HS := Lib.hid (HNO.out rfl rfl)
          clear HYES HNO
          go_wp2
          go_quiet (fail)
          obtain ⟨wq, hwq⟩ : ∃ wq, wr.drewN nq = wq := ⟨_, rfl⟩
          have HBUq : Hid (Ints wq w.heap.size u13 (timL m fi a b c k)) := by rw [← hwq]; exact HBU.out
          have HBWq : Hid (Below w.heap.size w wq) := by rw [← hwq]; exact ⟨HBW.out.os, HBW.out.tape, HBW.out.output, HBW.out.size, HBW.out.block⟩
          have hszq := HBWq.out.size
          rw [hwq]
          clear hwq HBU HBW hszr
          go_wp2
          go_roundw
          case rel => exact ⟨k + 1, by omega, by omega, by go_num, by rw [HS.out]; exact HBUq, HBWq⟩
          case measure => simp [intOf]; omega
    · have HEND : Hid (timL m fi a b c k = timL m fi a b c N) := by
        show _ = _
        rcases hk2 with h | h
        · rw [show k = N by omega]
        · rcases (show N = 0 ∨ N = 1 by omega) with h2 | h2
          · rw [h, h2, HL1.out]; rfl
          · rw [h, h2]
      go_wp2
      go_ret2
      exact ⟨_, rfl, by rw [← HEND.out]; exact HBU.out, HBW.out⟩
theorem specTim_f (n f : Int) (a b c : ByteArray) (w : World)
    (h : ∀ w, Calls Try.prog 31 #[.agg #[.int .i64 n, .int .i64 f], .string a, .string b, .string c] w fun e w' => e = .returned (.tuple #[.string ⟨#[]⟩, .string ⟨#[]⟩, .bool false]) ∧ Below w.heap.size w w') :
    Calls Try.prog 40 #[.agg #[.int .i64 n, .int .i64 f], .string a, .string b, .string c] w fun e w' => TimR w [] false e w' := by
  have HE := Lib.hid h
  clear h
  go_enter Try.func40, Try.ntmps40
  go_wp2_with fail
  refine (HE.out _).mono ?_; rintro e w1 ⟨rfl, b1⟩
  have HB1 : Hid (Below w.heap.size w w1) := by first | exact ((Below.refl w.heap.size w).alloc (Nat.le_refl _) _).trans (b1.mono (by simp)) | exact b1
  clear b1
  go_wp2
  go_ret2
  exact ⟨_, rfl, Ints.nil _ _, HB1.out⟩
set_option maxHeartbeats 1000000 in
theorem implTim_f (n f : Int) (a b c : ByteArray) (w : World)
    (h : ∀ w, Calls Try.prog 32 #[.agg #[.int .i64 n, .int .i64 f], .string a, .string b, .string c] w fun e w' => e = .returned (.tuple #[.string ⟨#[]⟩, .string ⟨#[]⟩, .bool false]) ∧ Below w.heap.size w w') :
    Calls Try.prog 41 #[.agg #[.int .i64 n, .int .i64 f], .string a, .string b, .string c] w fun e w' => TimR w [] false e w' := by
  have HE := Lib.hid h
  clear h
  go_enter Try.func41, Try.ntmps41
  go_wp2_with fail
  refine (HE.out _).mono ?_; rintro e w1 ⟨rfl, b1⟩
  have HB1 : Hid (Below w.heap.size w w1) := by first | exact ((Below.refl w.heap.size w).alloc (Nat.le_refl _) _).trans (b1.mono (by simp)) | exact b1
  clear b1
  go_wp2
  go_loopw [13, 14] (fun v i wr => v = .slice none 0 0 ∧ i = .int .i64 1 ∧ wr = w1) (fun _ _ _ => 0)
  case atStart => exact ⟨rfl, rfl, rfl⟩
  case round =>
    obtain ⟨rfl, rfl, rfl⟩ := hrel
    go_wp2
    go_ret2
    exact ⟨_, rfl, Ints.nil _ _, HB1.out⟩
theorem tim_ex (n f : Int) (a b c : ByteArray) (hs : a.size ≤ maxLen) (hs' : b.size ≤ maxLen) (hs3 : c.size ≤ maxLen) : ∃ (l : List Int) (ok : Bool), l.length ≤ 1048576 ∧
    (∀ w, Calls Try.prog 40 #[.agg #[.int .i64 n, .int .i64 f], .string a, .string b, .string c] w fun e w' => TimR w l ok e w') ∧ (∀ w, Calls Try.prog 41 #[.agg #[.int .i64 n, .int .i64 f], .string a, .string b, .string c] w fun e w' => TimR w l ok e w') := by
  rcases en_both n f a b c hs hs' hs3 with ⟨m, fi, hm, ha, rfl, rfl, h1, h2⟩ | ⟨h1, h2⟩
  · have h4 := wave_le ((are3B_iff a b c).1 ha).1
    exact ⟨_, _, Nat.le_trans (timL_len m fi a b c a.size) (by omega), fun w => specTim_t m fi a b c w h4 h1, fun w => implTim_t m fi a b c w h4 h2⟩
  · exact ⟨[], false, Nat.zero_le _, fun w => specTim_f n f a b c w h1, fun w => implTim_f n f a b c w h2⟩
set_option maxHeartbeats 2000000 in
set_option maxRecDepth 100000 in
theorem walk_FnExactSwitchTimes (n f : Int) (a b c : ByteArray) (w : World) (_w0 : (Lit.int .i64 n).wf = true) (_w1 : (Lit.int .i64 f).wf = true) (hs : a.size ≤ maxLen) (hs' : b.size ≤ maxLen) (hs3 : c.size ≤ maxLen) :
    Calls Try.prog 11 #[.agg #[.int .i64 n, .int .i64 f], .string a, .string b, .string c] w fun e w' => e = .returned (.bool true) ∧ Below w.heap.size w w' := by
  by_cases l_a : (a.size : Int) ≤ 1048576
  case neg =>
    go_enter Try.func11, Try.ntmps11
    go_wp2
    go_ret
    exact ⟨rfl, (Below.refl _ _).alloc (Nat.le_refl _) _⟩
  by_cases l_b : (b.size : Int) ≤ 1048576
  case neg =>
    go_enter Try.func11, Try.ntmps11
    go_wp2
    go_ret
    exact ⟨rfl, (Below.refl _ _).alloc (Nat.le_refl _) _⟩
  by_cases l_c : (c.size : Int) ≤ 1048576
  case neg =>
    go_enter Try.func11, Try.ntmps11
    go_wp2
    go_ret
    exact ⟨rfl, (Below.refl _ _).alloc (Nat.le_refl _) _⟩
  obtain ⟨l, ok, hlen, hS, hI⟩ := tim_ex n f a b c hs hs' hs3
  have HS := Lib.hid hS
  have HI := Lib.hid hI
  obtain ⟨w0, hw0⟩ : ∃ w0, w.alloc (.cells #[.int .i64 n, .int .i64 f] 34) = w0 := ⟨_, rfl⟩
  have hb0 : Below w.heap.size w w0 := by rw [← hw0]; exact (Below.refl _ _).alloc (Nat.le_refl _) _
  have hs0 : w.heap.size < w0.heap.size := by rw [← hw0]; simp
  have c0 : w0.cell? ⟨w.heap.size, 0, none⟩ = some (.int .i64 n) := by rw [← hw0]; simp [go_sem]
  have c1 : w0.cell? ⟨w.heap.size, 1, none⟩ = some (.int .i64 f) := by rw [← hw0]; simp [go_sem]
  have HB0 := Lib.hid hb0
  have HC := Lib.hid (And.intro c0 c1)
  clear hS hI hb0
  go_enter Try.func11, Try.ntmps11
  go_wp2_with fail
  refine (toSwitch_any n f _).mono ?_; rintro e w1 ⟨rfl, b1⟩
  have HB1 := Lib.hid b1
  clear b1
  go_wp2_with fail
  refine (HS.out _).mono ?_; rintro e w2 ⟨v0, rfl, i0, b2⟩
  have hb2 := HB1.out.trans (b2.mono HB1.out.size)
  have HB2 := Lib.hid hb2
  have HI0 := Lib.hid i0
  clear b2 c0 c1 hw0 i0
  have c0 : w2.cell? ⟨w.heap.size, 0, none⟩ = some (.int .i64 n) := (hb2.cell (p := ⟨w.heap.size, 0, none⟩) hs0).trans HC.out.1
  have c1 : w2.cell? ⟨w.heap.size, 1, none⟩ = some (.int .i64 f) := (hb2.cell (p := ⟨w.heap.size, 1, none⟩) hs0).trans HC.out.2
  clear hb2
  go_wp2_with fail
  refine (toSwitch_any n f _).mono ?_; rintro e w3 ⟨rfl, b3⟩
  have hz3 := b3.size
  have HB3 := Lib.hid b3
  clear b3
  go_wp2_with fail
  refine (HI.out _).mono ?_; rintro e w4 ⟨v1, rfl, i1, b4⟩
  have hz4 := b4.size
  have HI1 := Lib.hid i1
  have HB4 := Lib.hid (HB3.out.trans (b4.mono hz3))
  clear b4 i1 c0 c1
  go_wp2_with fail
  refine (eqInts_same _ _ v1 v0 l _ HI1.out (HI0.out.keep HB4.out (Nat.le_refl _))).mono ?_; rintro e w' ⟨rfl, q, rfl⟩
  go_wp2_with fail
  refine (markInts _ v1 l 1 (w4.drewN q) HI1.out (by omega) (by omega)).mono ?_; rintro e w5 ⟨rfl, i3, b5, z5⟩
  have HI3 := Lib.hid i3
  have HZ := Lib.hid z5
  have B5 : Below w3.heap.size w4 w5 := ⟨b5.os, b5.tape, b5.output, b5.size, b5.block⟩
  have hz5 := B5.size
  have HB5 := Lib.hid B5
  clear i3 z5 b5 B5
  go_wp2_with fail
  refine (heldInts _ v1 l.length 1 _ HI3.out (by omega) (by omega)).mono ?_; rintro e w' ⟨rfl, rfl⟩
  have HB25 := Lib.hid (HB4.out.trans (HB5.out.mono hz3))
  have HB05 := Lib.hid (HB2.out.trans (HB25.out.mono HB2.out.size))
  have c0 : w5.cell? ⟨w.heap.size, 0, none⟩ = some (.int .i64 n) := (HB05.out.cell (p := ⟨w.heap.size, 0, none⟩) hs0).trans HC.out.1
  have c1 : w5.cell? ⟨w.heap.size, 1, none⟩ = some (.int .i64 f) := (HB05.out.cell (p := ⟨w.heap.size, 1, none⟩) hs0).trans HC.out.2
  go_wp2_with fail
  refine (toSwitch_any n f _).mono ?_; rintro e w6 ⟨rfl, b6⟩
  have hz6 := b6.size
  have HB6 := Lib.hid b6
  clear b6
  go_wp2_with fail
  refine (HI.out _).mono ?_; rintro e w7 ⟨v2, rfl, i7, b7⟩
  have hz7 := b7.size
  have HI7 := Lib.hid i7
  have HB7 := Lib.hid (HB6.out.trans (b7.mono hz6))
  have HI0' := Lib.hid ((HI0.out.keepLt (HI0.out.keep HB4.out (Nat.le_refl _)) HB5.out hz3).keep HB7.out (Nat.le_refl _))
  have HI3' := Lib.hid (HI3.out.keep HB7.out (Nat.le_refl _))
  clear i7 b7 c0 c1
  go_wp2_with fail
  refine (eqInts_same _ _ v2 v0 l _ HI7.out HI0'.out).mono ?_; rintro e w' ⟨rfl, q2, rfl⟩
  go_wp2_with fail
  refine (heldInts _ v1 l.length 1 (w7.drewN q2) HI3'.out (by omega) (by omega)).mono ?_; rintro e w' ⟨rfl, rfl⟩
  have HFIN := Lib.hid (HB0.out.trans ((HB05.out.trans (HB7.out.mono HB05.out.size)).mono HB0.out.size))
  go_wp2
  go_ret
  exact ⟨rfl, ⟨HFIN.out.os, HFIN.out.tape, HFIN.out.output, HFIN.out.size, HFIN.out.block⟩⟩
end Go.Proofs.Ytmhbgpappjfolaa
