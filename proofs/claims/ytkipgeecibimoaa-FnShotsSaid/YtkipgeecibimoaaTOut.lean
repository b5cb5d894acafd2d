/- When a wave has not gone up for too long: the program's side. -/
import Derived.Test.YtkipgeecibimoaaCWin
namespace Go.Proofs.Ytkipgeecibimoaa
open Go.RowKit Go.Shelf
set_option linter.unusedVariables false
set_option linter.unusedSimpArgs false

attribute [local go_sem] Oper.semAt_some

def stL : List (Int × Int) → List Int × Bool := List.foldl (fun (a : List Int × Bool) x => (if x.2 == 0 && !a.2 then a.1 ++ [x.1 - 1] else a.1, x.2 == 0)) ([], false)
def tmL (pre : List (Int × Int)) : List Int := (stL pre).1
def ltL (pre : List (Int × Int)) : Bool := (stL pre).2
theorem tmL_snoc (pre : List (Int × Int)) (x : Int × Int) : tmL (pre ++ [x]) = if x.2 == 0 && !ltL pre then tmL pre ++ [x.1 - 1] else tmL pre := by simp [tmL, ltL, stL]
theorem ltL_snoc (pre : List (Int × Int)) (x : Int × Int) : ltL (pre ++ [x]) = (x.2 == 0) := by simp [ltL, stL]
theorem stL_len : ∀ (l : List (Int × Int)) (a : List Int × Bool), (l.foldl (fun (a : List Int × Bool) x => (if x.2 == 0 && !a.2 then a.1 ++ [x.1 - 1] else a.1, x.2 == 0)) a).1.length ≤ a.1.length + l.length
  | [], a => by simp
  | x :: l, a => by
    have h1 := stL_len l (if x.2 == 0 && !a.2 then a.1 ++ [x.1 - 1] else a.1, x.2 == 0)
    simp only [List.foldl_cons, List.length_cons]
    have h2 : (if x.2 == 0 && !a.2 then a.1 ++ [x.1 - 1] else a.1).length ≤ a.1.length + 1 := by split <;> simp
    exact Nat.le_trans h1 (by dsimp only; omega)
theorem tmL_len (pre : List (Int × Int)) : (tmL pre).length ≤ pre.length := by
  have := stL_len pre ([], false)
  simpa [tmL, stL] using this
def fixT (Lb T : Nat) : List (Int × Int) → List (Nat × Obj) := fun pre => [(Lb + 1, .cells #[.bool (ltL pre)] 4 (0, 0)), (Lb + 3, .cells #[.int .i64 (T : Int)] 2 (0, 0))]
theorem bool_not_mine (c : Array Value) : isMine MineW (.cells c 4 (0, 0)) = false := by simp only [isMine]; decide
theorem slc_other {W w3 : World} {B k : Nat} {v : Value} {l : List Int} {tmp : Obj} (hi : Ints W B v l) (hgrow : (W.alloc tmp).grownBy w3 v.ownBlock) (hk : k < B) (hlt : k < W.heap.size) : w3.heap[k]? = W.heap[k]? :=
  (hgrow.block k (by simp; omega) (fun e => by have := (World.ownsRow.lt hi k e.symm).1; omega)).trans (Below.heap_alloc W tmp k hlt)
/-- the last store of a round -/
theorem late_set {W : World} {B L : Nat} {a b : Bool} (h : W.heap[L]? = some (.cells #[.bool a] 4 (0, 0))) (hL : L < B) : KeepsFrom B W (W.setCell ⟨L, 0, none⟩ (.bool b)) ∧ KeepsMine MineW W (W.setCell ⟨L, 0, none⟩ (.bool b)) :=
  ⟨KeepsFrom.of_grownBy (grown_set W L 0 _) (fun j e => by cases e; exact hL), KeepsMine.of_grownBy (grown_set W L 0 _) (fun j o e ho => by cases e; rw [h] at ho; cases ho; exact bool_not_mine _)⟩
theorem late_end {Lb L T B' : Nat} {w1 W W2 : World} {pre : List (Int × Int)} {x : Int × Int} {v : Value} {a b : Bool} (h0 : KeepsFrom B' W W2 ∧ KeepsMine MineW W W2) (hv : Boxed W2 Lb 30 v) (hi : Ints W2 (Lb + 4) v (tmL (pre ++ [x])))
    (h1 : W2.heap[Lb + 1]? = some (.cells #[.bool a] 4 (0, 0))) (h3 : W2.heap[Lb + 3]? = some (.cells #[.int .i64 (T : Int)] 2 (0, 0))) (hb : Below L w1 W2) (hz : Lb + 4 ≤ W2.heap.size) (hL : L ≤ Lb) (hB : Lb + 1 < B') (hl : ltL (pre ++ [x]) = b) (A : Act) :
    toldPostM MineW B' (SlcI Lb (Lb + 4) L (Lb + 4) tmL (fixT Lb T) w1) (pre ++ [x]) W .normal A (W2.setCell ⟨Lb + 1, 0, none⟩ (.bool b)) := by
  obtain ⟨k1, k2⟩ := late_set (b := b) h1 hB
  refine ⟨h0.1.trans k1, h0.2.trans k2, ⟨v, ?_, ?_⟩, fun p hp => ?_, ?_, ?_⟩
  · exact (set_other (by omega)).trans hv
  · refine World.ownsRow.kept hi (grown_set W2 (Lb + 1) 0 _) ?_
    cases q : v.ownBlock with
    | none => exact .inl rfl
    | some g =>
      refine .inr (fun e => ?_)
      have := (World.ownsRow.lt hi g q).1
      simp only [Option.some.injEq] at e
      omega
  · simp only [fixT, List.mem_cons, List.not_mem_nil, or_false] at hp
    rcases hp with rfl | rfl
    · dsimp only; rw [hl]
      simp [World.setCell, Array.getElem?_modify, h1]
    · exact (set_other (by omega)).trans h3
  · exact hb.setCell (by dsimp only; omega) _
  · simpa using hz
set_option maxRecDepth 100000 in
set_option maxHeartbeats 4000000 in
theorem implTO_in (n : Nat) (hn : 5 ≤ n) (s : ByteArray) (T : Nat) (w : World) (hs : s.size ≤ maxLen) (hc : canB s (T : Int) = true) :
    CallsIn Fence.wide n Try.prog 18 #[.string s, .int .i64 (T : Int)] w fun e W' => ∃ v, e = .returned (.tuple #[v, .bool true]) ∧ Ints W' w.heap.size v (tmL (upsL s T s.size)) ∧ Below w.heap.size w W' := by
  have h1 : 1 ≤ n := by omega
  obtain ⟨hw, hT1, hT2⟩ := canB_t hc
  have hz := wave_le hw
  have HW := Lib.hid hw
  have HC := Lib.hid (fun w => canF_any s (T : Int) w hs)
  rw [hc] at HC
  obtain ⟨i0, hi, hz0, hz1, hz2⟩ := info_parts info_i64
  clear hw hc
  refine callsIn_of_wp_marks Try.func18 rfl trivial ?_ rfl
  simp only [Try.ntmps18, List.size_toArray, List.length_cons, List.length_nil, Nat.reduceAdd, Nat.reduceSub, Array.replicate_succ, Array.replicate_zero, List.push_toArray, List.append_toArray, List.nil_append, List.cons_append]
  gi_wp2_with fail
  refine ⟨trivial, ?_⟩
  refine (callsIn_wide (n := n - 1).2 (HC.out _)).mono ?_
  rintro e w1 ⟨rfl, b1⟩
  have hb1 := b1
  have HKK : Hid (w.heap.size ≤ w1.heap.size) := b1.size
  have bO := Boxed.new w1 30 (.slice none 0 0)
  clear b1
  gi_wp2_with fail
  refine ⟨trivial, ?_⟩
  refine (upsIn_told (n - 1) s T _).mono ?_
  rintro e w2 ⟨rfl, rfl⟩
  gi_wp2_with fail
  have e1 := heap_alloc_last (w1.alloc (.cells #[.slice none 0 0] 30)) (.cells #[.bool false] 4)
  have e2 := heap_alloc_last ((w1.alloc (.cells #[.slice none 0 0] 30)).alloc (.cells #[.bool false] 4)) (.cells #[.string s] 9)
  have e3 := heap_alloc_last (((w1.alloc (.cells #[.slice none 0 0] 30)).alloc (.cells #[.bool false] 4)).alloc (.cells #[.string s] 9)) (.cells #[.int .i64 (T : Int)] 2)
  obtain ⟨Lb, hLb⟩ : ∃ L, w1.heap.size = L := ⟨_, rfl⟩
  obtain ⟨K, hKK⟩ : ∃ L, w.heap.size = L := ⟨_, rfl⟩
  rw [hLb, hKK] at HKK
  simp only [World.size_alloc, Nat.add_assoc, Nat.reduceAdd, hLb] at e1 e2 e3
  try simp only [World.size_alloc, hLb, Nat.add_assoc, Nat.reduceAdd]
  have bO3 := ((bO.alloc (.cells #[.bool false] 4)).alloc (.cells #[.string s] 9)).alloc (.cells #[.int .i64 (T : Int)] 2)
  rw [hLb] at bO3
  have hsl := hb1.size
  have hb3 : Below K w ((((w1.alloc (.cells #[.slice none 0 0] 30)).alloc (.cells #[.bool false] 4)).alloc (.cells #[.string s] 9)).alloc (.cells #[.int .i64 (T : Int)] 2)) := by
    rw [← hKK]; exact (((hb1.alloc hsl _).alloc (by simp; omega) _).alloc (by simp; omega) _).alloc (by simp; omega) _
  have HE2 : ((((w1.alloc (.cells #[.slice none 0 0] 30)).alloc (.cells #[.bool false] 4)).alloc (.cells #[.string s] 9)).alloc (.cells #[.int .i64 (T : Int)] 2)).cell? ⟨Lb + 2, 0, none⟩ = some (.string s) := by
    rw [show World.cell? _ _ = _ from Lib.cell_of_heap ((Below.heap_alloc _ _ (Lb + 2) (by simp; omega)).trans e2) 0]; rfl
  have E1 := (Below.heap_alloc (((w1.alloc (.cells #[.slice none 0 0] 30)).alloc (.cells #[.bool false] 4)).alloc (.cells #[.string s] 9)) (.cells #[.int .i64 (T : Int)] 2) (Lb + 1) (by simp; omega)).trans ((Below.heap_alloc _ _ (Lb + 1) (by simp; omega)).trans e1)
  obtain ⟨W4, hW4⟩ : ∃ W4, ((((w1.alloc (.cells #[.slice none 0 0] 30)).alloc (.cells #[.bool false] 4)).alloc (.cells #[.string s] 9)).alloc (.cells #[.int .i64 (T : Int)] 2)) = W4 := ⟨_, rfl⟩
  have hs4 : W4.heap.size = Lb + 4 := by rw [← hW4]; simp; omega
  rw [hW4] at e3 bO3 E1 hb3 HE2
  rw [hW4]
  have hKL : K ≤ Lb := HKK.out
  have H0 : SlcI Lb (Lb + 4) K (Lb + 4) tmL (fixT Lb T) w [] W4 := by
    refine ⟨⟨_, bO3, Ints.nil _ _⟩, fun p hp => ?_, hb3, by omega⟩
    simp only [fixT, List.mem_cons, List.not_mem_nil, or_false] at hp
    rcases hp with rfl | rfl
    · exact E1
    · exact e3
  have HKK := Lib.hid hKK
  clear hKK hW4 e1 e2 e3 bO bO3 E1 hb1 hb3 hLb hsl
  refine loop_toldM (ts := MineW) (Z := TickZ (Lb + 3) T) rfl h1 (gf := 131) (lb := #[.pointer (some ⟨Lb + 3, 0, none⟩), .pointer (some ⟨Lb + 2, 0, none⟩)]) rfl trivial (enters_of Try.func131 (by kernel_rfl) rfl) (upsL s T s.size)
    (ups_told (n - 1) (by omega) (Lb + 3) (Lb + 2) T s HW.out (by omega) (by omega) W4 (by omega) HE2) (fun _ => rfl) (SlcI Lb (Lb + 4) K (Lb + 4) tmL (fixT Lb T) w)
    (SlcI.own Lb (Lb + 4) K (Lb + 4) tmL (fixT Lb T) w _ (by omega) (fun pre p hp => by simp only [fixT, List.mem_cons, List.not_mem_nil, or_false] at hp; rcases hp with rfl | rfl <;> (dsimp only; omega)) (by omega) (by omega))
    (fun pre W h => by
      have := h.2.1 (Lb + 3, .cells #[.int .i64 (T : Int)] 2 (0, 0)) (by simp [fixT])
      unfold TickZ
      rw [show W.cell? ⟨Lb + 3, 0, none⟩ = _ from Lib.cell_of_heap this 0]; rfl) H0
    (fun x => { tmps := #[.string s, .int .i64 (T : Int), undef, undef, .slice none 0 0, .bool false, .pointer (some ⟨Lb, 0, none⟩), .pointer (some ⟨Lb + 1, 0, none⟩), .int .i64 x.1, .int .i64 x.2, .string s, .int .i64 (T : Int), .bool true, .bool false, .string s, .int .i64 (T : Int), .func (.func 131) #[] #[.pointer (some ⟨Lb + 3, 0, none⟩), .pointer (some ⟨Lb + 2, 0, none⟩)], .int .i64 x.1, .int .i64 x.2, undef, undef, undef, undef, undef, undef, undef, undef, undef, undef, undef, undef, undef, undef], defers := [] }) ?assign ?body ?done
  case assign =>
    intro l x W K hK
    gi_wp2
    exact hK
  case body =>
    rintro l pre x post W hpx ⟨⟨v, hv, hrow⟩, hfix, hB, hWz⟩
    have hx := upsL_bd s T s.size x (by rw [← hpx]; simp)
    have hlen : pre.length ≤ 400 := by
      have e := congrArg List.length hpx
      simp only [List.length_append, List.length_cons] at e
      have := upsL_len s T s.size
      omega
    have hcl := tmL_len pre
    have j1 := hfix (Lb + 1, .cells #[.bool (ltL pre)] 4 (0, 0)) (by simp [fixT])
    have j3 := hfix (Lb + 3, .cells #[.int .i64 (T : Int)] 2 (0, 0)) (by simp [fixT])
    obtain ⟨a, b⟩ := x
    have HTM := Lib.hid (tmL_snoc pre (a, b))
    have HLT := Lib.hid (ltL_snoc pre (a, b))
    obtain ⟨lt, hlt⟩ : ∃ z, ltL pre = z := ⟨_, rfl⟩
    rw [hlt] at j1 HTM
    have HJ1 := Lib.hid j1
    have HJ3 := Lib.hid j3
    have HB := Lib.hid hB
    have cL : W.cell? ⟨Lb + 1, 0, none⟩ = some (.bool lt) := by rw [show W.cell? ⟨Lb + 1, 0, none⟩ = _ from Lib.cell_of_heap j1 0]; rfl
    have fL : W.frozen? ⟨Lb + 1, 0, none⟩ = false := Lib.frozen_of_heap j1 0
    have hc := hv.cell
    have hf := hv.frozen
    have hwa : IntKind.i64.wrap (a - 1) = a - 1 := IntWalk.i64_in _ (by omega)
    clear hpx hfix hB j1 j3 hlt
    by_cases hb0 : b = 0
    · have e1 : (b == 0) = true := by simp [hb0]
      have HLT2 : Hid (ltL (pre ++ [(a, b)]) = true) := by show _ = _; rw [HLT.out]; exact e1
      cases lt with
      | true =>
        have HTM2 : Hid (tmL (pre ++ [(a, b)]) = tmL pre) := by show _ = _; rw [HTM.out]; simp
        clear hb0 HTM HLT
        gi_wp2
        exact late_end ⟨KeepsFrom.refl _ _, KeepsMine.refl _ _⟩ hv (by rw [HTM2.out]; exact hrow) HJ1.out HJ3.out HB.out hWz hKL (by omega) HLT2.out _
      | false =>
        have HTM2 : Hid (tmL (pre ++ [(a, b)]) = tmL pre ++ [a - 1]) := by show _ = _; rw [HTM.out]; simp [hb0]
        clear hb0 HTM HLT
        gi_wp2_with (gi_at_builtin; refine wpListIn_append_own _ rfl _ _ 30 rfl (Lb + 4) 2 i0 (.int .i64 0) 1 8 Try.underlying30 hi hz0 hz1 hz2 rfl (by decide) _ _ _ rfl (hrow.alloc _) ⟨W.heap.size, 0, none⟩ 1 1 [.int .i64 (a - 1)] rfl rfl (cell_one_new _ _ _) (by simp [Value.oneCell']) (by unfold maxLen; omega) (by omega) (by simp; omega) ?_; intro v' w3 hown' hgrow _; obtain ⟨g', cap', rfl⟩ := ownsRow_succ hown'; have hv1 := (hv.alloc (.cells #[.int .i64 (a - 1)] 2)).kept hgrow (hv.not_row (by decide) hrow); have hc1 := hv1.cell; have hf1 := hv1.frozen; have hq := slc_other hrow hgrow (k := Lb + 1) (by omega) (by omega); have hq1 := hq.trans HJ1.out; have cL1 : w3.cell? ⟨Lb + 1, 0, none⟩ = some (.bool false) := (by rw [show w3.cell? ⟨Lb + 1, 0, none⟩ = _ from Lib.cell_of_heap hq1 0]; rfl); have fL1 : w3.frozen? ⟨Lb + 1, 0, none⟩ = false := Lib.frozen_of_heap hq1 0)
        obtain ⟨k1, k2, ⟨v2, hv2, hi2⟩, hfx2, hb2, hz2⟩ := slc_append (f := fun q => if q.length = pre.length then tmL pre else tmL pre ++ [a - 1]) (fix := fun _ => [(Lb + 1, .cells #[.bool false] 4 (0, 0)), (Lb + 3, .cells #[.int .i64 (T : Int)] 2 (0, 0))]) (pre := pre) (x := (a, b)) (B' := Lb + 4) hv (by simpa using hrow) (by intro p hp; simp only [List.mem_cons, List.not_mem_nil, or_false] at hp; rcases hp with rfl | rfl; exact HJ1.out; exact HJ3.out) HB.out hWz (by omega) (by omega) (by omega) (by omega) (by omega) (by simpa using hown') hgrow (by simp) rfl (fun p hp => .inr (by simp only [List.mem_cons, List.not_mem_nil, or_false] at hp; rcases hp with rfl | rfl <;> (dsimp only; omega)))
        have hvv := hv1.set (.slice (some ⟨g', 0, none⟩) ((tmL pre).length + 1) cap')
        refine late_end ⟨k1, k2⟩ hv2 (by rw [HTM2.out]; simpa using hi2) (hfx2 (Lb + 1, .cells #[.bool false] 4 (0, 0)) (by simp)) (hfx2 (Lb + 3, .cells #[.int .i64 (T : Int)] 2 (0, 0)) (by simp)) hb2 hz2 hKL (by omega) HLT2.out _
    · have e1 : (b == 0) = false := by simp [hb0]
      have HLT2 : Hid (ltL (pre ++ [(a, b)]) = false) := by show _ = _; rw [HLT.out]; exact e1
      have HTM2 : Hid (tmL (pre ++ [(a, b)]) = tmL pre) := by show _ = _; rw [HTM.out]; simp [hb0]
      clear HTM HLT
      gi_wp2
      exact late_end ⟨KeepsFrom.refl _ _, KeepsMine.refl _ _⟩ hv (by rw [HTM2.out]; exact hrow) HJ1.out HJ3.out HB.out hWz hKL (by omega) HLT2.out _
  case done =>
    rintro D W hD ⟨⟨v, hv, hrow⟩, hfix, hB, hWz⟩ hK
    have hc := hv.cell
    gi_wp2
    refine ⟨by simp, .inl ⟨_, _, rfl, run_takeDeferred hK, ?_⟩⟩
    have hb2 := hB.trans (belowK_b (n₀ := K) (w := W4) (by omega) W D _ (.deferred none) hD hK rfl rfl)
    rw [HKK.out]
    exact ⟨.tuple #[v, .bool true], by simp [results, Try.f18, go_sem], v, rfl, (ownsRow_putObj hrow _ hK rfl).mono (by omega), hb2⟩
end Go.Proofs.Ytkipgeecibimoaa
