/- The least and the greatest number of ups in windows of a wave: the program's side. -/
import Derived.Test.YtkipgeecibimoaaUps
import Derived.Deep.Onto
namespace Go.Proofs.Ytkipgeecibimoaa
open Go.RowKit Go.Shelf
set_option linter.unusedVariables false
set_option linter.unusedSimpArgs false

attribute [local go_sem] Oper.semAt_some

def loL (T : Nat) : List (Int × Int) → Int := List.foldl (fun a x => min a x.2) (T : Int)
def hiL : List (Int × Int) → Int := List.foldl (fun a x => max a x.2) 0
theorem loL_snoc (T : Nat) (pre : List (Int × Int)) (x : Int × Int) : loL T (pre ++ [x]) = min (loL T pre) x.2 := by simp [loL]
theorem hiL_snoc (pre : List (Int × Int)) (x : Int × Int) : hiL (pre ++ [x]) = max (hiL pre) x.2 := by simp [hiL]
theorem upsL_bd (s : ByteArray) (T k : Nat) : ∀ x ∈ upsL s T k, 0 ≤ x.2 ∧ x.2 ≤ (T : Int) ∧ 1 ≤ x.1 ∧ x.1 ≤ (k : Int) := by
  induction k with
  | zero => intro x h; simp [upsL] at h
  | succ k ih =>
    intro x h
    have hle := lastC_le (upB s) T (k + 1)
    by_cases hT : T ≤ k + 1
    · rw [upsL_hit s T k hT] at h
      rcases List.mem_append.1 h with h | h
      · have := ih x h; omega
      · simp at h; subst h; simp; omega
    · rw [upsL_miss s T k hT] at h
      have := ih x h; omega
theorem fold_bd (f : Int → Int → Int) (T : Int) (hf : ∀ a b, 0 ≤ a → a ≤ T → 0 ≤ b → b ≤ T → 0 ≤ f a b ∧ f a b ≤ T) : ∀ (l : List (Int × Int)) (a : Int), 0 ≤ a → a ≤ T → (∀ x ∈ l, 0 ≤ x.2 ∧ x.2 ≤ T) → 0 ≤ l.foldl (fun a x => f a x.2) a ∧ l.foldl (fun a x => f a x.2) a ≤ T
  | [], a, h1, h2, _ => ⟨h1, h2⟩
  | x :: l, a, h1, h2, h => by
    have hx := h x (by simp)
    have := hf a x.2 h1 h2 hx.1 hx.2
    exact fold_bd f T hf l (f a x.2) this.1 this.2 (fun y hy => h y (by simp [hy]))
theorem loL_bd (T : Nat) (l : List (Int × Int)) (h : ∀ x ∈ l, 0 ≤ x.2 ∧ x.2 ≤ (T : Int)) : 0 ≤ loL T l ∧ loL T l ≤ (T : Int) :=
  fold_bd min (T : Int) (fun a b h1 h2 h3 h4 => by omega) l (T : Int) (by omega) (Int.le_refl _) h
theorem hiL_bd (T : Nat) (l : List (Int × Int)) (h : ∀ x ∈ l, 0 ≤ x.2 ∧ x.2 ≤ (T : Int)) : 0 ≤ hiL l ∧ hiL l ≤ (T : Int) :=
  fold_bd max (T : Int) (fun a b h1 h2 h3 h4 => by omega) l 0 (Int.le_refl _) (by omega) h
/-- two numbers of the call's own, the ticks, and nothing else changed below -/
def RngI (L : Nat) (T : Nat) (w1 : World) (pre : List (Int × Int)) (W : World) : Prop :=
  W.heap[L]? = some (.cells #[.int .i64 (loL T pre)] 2 (0, 0)) ∧ W.heap[L + 1]? = some (.cells #[.int .i64 (hiL pre)] 2 (0, 0)) ∧ W.heap[L + 3]? = some (.cells #[.int .i64 (T : Int)] 2 (0, 0)) ∧ L + 4 ≤ W.heap.size ∧ Below L w1 W
theorem RngI.own (L T : Nat) (w1 : World) (B : Nat) (hB : L + 4 ≤ B) : OwnFromM MineW B (RngI L T w1) := by
  intro pre W W' row h hg hr
  have hne : ∀ k, k < L + 4 → some k ≠ row := fun k hk e => by
    have := (hr k e.symm).1; omega
  obtain ⟨h1, h2, h3, h4, h5⟩ := h
  refine ⟨(hg.block L (by omega) (hne L (by omega))).trans h1, (hg.block (L + 1) (by omega) (hne _ (by omega))).trans h2, (hg.block (L + 3) (by omega) (hne _ (by omega))).trans h3, Nat.le_trans h4 hg.size, ?_⟩
  exact ⟨hg.os.trans h5.os, hg.tape.trans h5.tape, hg.output.trans h5.output, Nat.le_trans h5.size hg.size, fun k hk => (hg.block k (by have := h5.size; omega) (hne k (by omega))).trans (h5.block k hk)⟩
theorem RngI.z {L T : Nat} {w1 : World} (pre : List (Int × Int)) (W : World) (h : RngI L T w1 pre W) : TickZ (L + 3) T W := by
  unfold TickZ
  rw [show W.cell? ⟨L + 3, 0, none⟩ = _ from Lib.cell_of_heap h.2.2.1 0]; rfl
theorem i64_not_mine (c : Array Value) : isMine MineW (.cells c 2 (0, 0)) = false := by simp [isMine, TWin, TFol]
theorem set_keeps {W : World} {B L : Nat} {c : Array Value} {v : Value} (h : W.heap[L]? = some (.cells c 2 (0, 0))) (hL : L < B) : KeepsFrom B W (W.setCell ⟨L, 0, none⟩ v) ∧ KeepsMine MineW W (W.setCell ⟨L, 0, none⟩ v) :=
  ⟨KeepsFrom.of_grownBy (grown_set W L 0 v) (fun j e => by cases e; exact hL), KeepsMine.of_grownBy (grown_set W L 0 v) (fun j o e ho => by cases e; rw [h] at ho; cases ho; exact i64_not_mine c)⟩
theorem set_heap {W : World} {L : Nat} {a v : Value} {t : TypeId} (h : W.heap[L]? = some (.cells #[a] t (0, 0))) : (W.setCell ⟨L, 0, none⟩ v).heap[L]? = some (.cells #[v] t (0, 0)) := by
  simp [World.setCell, Array.getElem?_modify, h]
theorem set_other {W : World} {L k : Nat} {v : Value} (h : k ≠ L) : (W.setCell ⟨L, 0, none⟩ v).heap[k]? = W.heap[k]? := Below.heap_setCell W ⟨L, 0, none⟩ v k h
theorem keepsFrom_drew {B : Nat} {W W' : World} (h : KeepsFrom B W W') : KeepsFrom B W W'.drew := ⟨h.size, h.same⟩
theorem keepsMine_drew {W W' : World} (h : KeepsMine MineW W W') : KeepsMine MineW W W'.drew := ⟨h.size, h.same⟩
theorem rng_lr {L T B : Nat} {w1 W : World} {pre : List (Int × Int)} {x : Int × Int} {lo hi : Int} (h : RngI L T w1 pre W) (hB : L + 4 ≤ B) (e1 : loL T (pre ++ [x]) = lo) (e2 : hiL (pre ++ [x]) = hi) (A : Act) :
    toldPostM MineW B (RngI L T w1) (pre ++ [x]) W .normal A ((W.setCell ⟨L, 0, none⟩ (.int .i64 lo)).setCell ⟨L + 1, 0, none⟩ (.int .i64 hi)).drew := by
  obtain ⟨i1, i2, i3, i4, i5⟩ := h
  have j2 : (W.setCell ⟨L, 0, none⟩ (.int .i64 lo)).heap[L + 1]? = some (.cells #[.int .i64 (hiL pre)] 2 (0, 0)) := (set_other (by omega)).trans i2
  have k1 := set_keeps (B := B) (v := .int .i64 lo) i1 (by omega)
  have k2 := set_keeps (B := B) (v := .int .i64 hi) j2 (by omega)
  refine ⟨keepsFrom_drew (k1.1.trans k2.1), keepsMine_drew (k1.2.trans k2.2), ?_, ?_, ?_, ?_, ?_⟩
  · rw [e1]; exact (set_other (W := W.setCell ⟨L, 0, none⟩ (.int .i64 lo)) (by omega)).trans (set_heap i1)
  · rw [e2]; exact set_heap j2
  · exact ((set_other (W := W.setCell ⟨L, 0, none⟩ (.int .i64 lo)) (by omega)).trans (set_other (by omega))).trans i3
  · simpa using i4
  · have b := (i5.setCell (p := ⟨L, 0, none⟩) (Nat.le_refl _) (.int .i64 lo)).setCell (p := ⟨L + 1, 0, none⟩) (by simp) (.int .i64 hi)
    exact ⟨b.os, b.tape, b.output, b.size, b.block⟩
theorem rng_rl {L T B : Nat} {w1 W : World} {pre : List (Int × Int)} {x : Int × Int} {lo hi : Int} (h : RngI L T w1 pre W) (hB : L + 4 ≤ B) (e1 : loL T (pre ++ [x]) = lo) (e2 : hiL (pre ++ [x]) = hi) (A : Act) :
    toldPostM MineW B (RngI L T w1) (pre ++ [x]) W .normal A ((W.setCell ⟨L + 1, 0, none⟩ (.int .i64 hi)).setCell ⟨L, 0, none⟩ (.int .i64 lo)).drew := by
  obtain ⟨i1, i2, i3, i4, i5⟩ := h
  have j1 : (W.setCell ⟨L + 1, 0, none⟩ (.int .i64 hi)).heap[L]? = some (.cells #[.int .i64 (loL T pre)] 2 (0, 0)) := (set_other (by omega)).trans i1
  have k1 := set_keeps (B := B) (v := .int .i64 hi) i2 (by omega)
  have k2 := set_keeps (B := B) (v := .int .i64 lo) j1 (by omega)
  refine ⟨keepsFrom_drew (k1.1.trans k2.1), keepsMine_drew (k1.2.trans k2.2), ?_, ?_, ?_, ?_, ?_⟩
  · rw [e1]; exact set_heap j1
  · rw [e2]; exact (set_other (W := W.setCell ⟨L + 1, 0, none⟩ (.int .i64 hi)) (by omega)).trans (set_heap i2)
  · exact ((set_other (W := W.setCell ⟨L + 1, 0, none⟩ (.int .i64 hi)) (by omega)).trans (set_other (by omega))).trans i3
  · simpa using i4
  · have b := (i5.setCell (p := ⟨L + 1, 0, none⟩) (by simp) (.int .i64 hi)).setCell (p := ⟨L, 0, none⟩) (Nat.le_refl _) (.int .i64 lo)
    exact ⟨b.os, b.tape, b.output, b.size, b.block⟩
set_option maxRecDepth 100000 in
set_option maxHeartbeats 4000000 in
theorem implWR_in (n : Nat) (hn : 5 ≤ n) (s : ByteArray) (T : Nat) (w : World) (hs : s.size ≤ maxLen) (hc : canB s (T : Int) = true) (hTs : T ≤ s.size) :
    CallsIn Fence.wide n Try.prog 20 #[.string s, .int .i64 (T : Int)] w fun e W' => e = .returned (.tuple #[.int .i64 (loL T (upsL s T s.size)), .int .i64 (hiL (upsL s T s.size)), .bool true]) ∧ Below w.heap.size w W' := by
  have h1 : 1 ≤ n := by omega
  obtain ⟨hw, hT1, hT2⟩ := canB_t hc
  have hz := wave_le hw
  have HW := Lib.hid hw
  have HC := Lib.hid (fun w => canF_any s (T : Int) w hs)
  rw [hc] at HC
  have hltf : ¬ (s.size : Int) < (T : Int) := by omega
  have hltd := decide_eq_false hltf
  have hltn : ¬ s.size < T := by omega
  have hltm := decide_eq_false hltn
  clear hw hc
  refine callsIn_of_wp_marks Try.func20 rfl trivial ?_ rfl
  simp only [Try.ntmps20, List.size_toArray, List.length_cons, List.length_nil, Nat.reduceAdd, Nat.reduceSub, Array.replicate_succ, Array.replicate_zero, List.push_toArray, List.append_toArray, List.nil_append, List.cons_append]
  gi_wp2_with fail
  refine ⟨trivial, ?_⟩
  refine (callsIn_wide (n := n - 1).2 (HC.out w)).mono ?_
  rintro e w1 ⟨rfl, b1⟩
  have HB1 := Lib.hid b1
  clear b1
  gi_wp2_with fail
  refine ⟨trivial, ?_⟩
  refine (upsIn_told (n - 1) s T _).mono ?_
  rintro e w2 ⟨rfl, rfl⟩
  gi_wp2_with fail
  try simp only [World.size_alloc]
  obtain ⟨L, hL⟩ : ∃ L, w1.heap.size = L := ⟨_, rfl⟩
  have e0 := heap_alloc_last w1 (.cells #[.int .i64 (T : Int)] 2)
  have e1 := heap_alloc_last (w1.alloc (.cells #[.int .i64 (T : Int)] 2)) (.cells #[.int .i64 0] 2)
  have e2 := heap_alloc_last ((w1.alloc (.cells #[.int .i64 (T : Int)] 2)).alloc (.cells #[.int .i64 0] 2)) (.cells #[.string s] 9)
  have e3 := heap_alloc_last (((w1.alloc (.cells #[.int .i64 (T : Int)] 2)).alloc (.cells #[.int .i64 0] 2)).alloc (.cells #[.string s] 9)) (.cells #[.int .i64 (T : Int)] 2)
  simp only [World.size_alloc, Nat.add_assoc, Nat.reduceAdd, hL] at e0 e1 e2 e3
  have H0 : RngI L T w1 [] ((((w1.alloc (.cells #[.int .i64 (T : Int)] 2)).alloc (.cells #[.int .i64 0] 2)).alloc (.cells #[.string s] 9)).alloc (.cells #[.int .i64 (T : Int)] 2)) := by
    refine ⟨?_, ?_, e3, by simp; omega, ?_⟩
    · exact ((Below.heap_alloc _ _ L (by simp; omega)).trans ((Below.heap_alloc _ _ L (by simp; omega)).trans (Below.heap_alloc _ _ L (by simp; omega)))).trans e0
    · exact ((Below.heap_alloc _ _ (L + 1) (by simp; omega)).trans (Below.heap_alloc _ _ (L + 1) (by simp; omega))).trans e1
    · rw [← hL]
      exact ((((Below.refl w1.heap.size w1).alloc (Nat.le_refl _) _).alloc (by simp) _).alloc (by simp; omega) _).alloc (by simp; omega) _
  have HE2 : ((((w1.alloc (.cells #[.int .i64 (T : Int)] 2)).alloc (.cells #[.int .i64 0] 2)).alloc (.cells #[.string s] 9)).alloc (.cells #[.int .i64 (T : Int)] 2)).cell? ⟨L + 2, 0, none⟩ = some (.string s) := by
    rw [show World.cell? _ _ = _ from Lib.cell_of_heap ((Below.heap_alloc _ _ (L + 2) (by simp; omega)).trans e2) 0]; rfl
  obtain ⟨W4, hW4⟩ : ∃ W4, ((((w1.alloc (.cells #[.int .i64 (T : Int)] 2)).alloc (.cells #[.int .i64 0] 2)).alloc (.cells #[.string s] 9)).alloc (.cells #[.int .i64 (T : Int)] 2)) = W4 := ⟨_, rfl⟩
  have hs4 : W4.heap.size = L + 4 := by rw [← hW4]; simp; omega
  rw [hW4] at H0 HE2
  try simp only [hL, Nat.add_assoc, Nat.reduceAdd]
  rw [hW4]
  clear hW4 e0 e1 e2 e3
  refine loop_toldM (ts := MineW) (Z := TickZ (L + 3) T) rfl h1 (gf := 131) (lb := #[.pointer (some ⟨L + 3, 0, none⟩), .pointer (some ⟨L + 2, 0, none⟩)]) rfl trivial (enters_of Try.func131 (by kernel_rfl) rfl) (upsL s T s.size)
    (ups_told (n - 1) (by omega) (L + 3) (L + 2) T s HW.out (by omega) (by omega) W4 (by omega) HE2) (fun _ => rfl) (RngI L T w1) (RngI.own L T w1 _ (by omega)) RngI.z H0
    (fun x => { tmps := #[.string s, .int .i64 (T : Int), undef, undef, .int .i64 0, .int .i64 0, .bool false, .pointer (some ⟨L, 0, none⟩), .pointer (some ⟨L + 1, 0, none⟩), undef, .int .i64 x.2, .string s, .int .i64 (T : Int), .bool true, .bool false, .bool false, .string s, .int .i64 (s.size : Int), .int .i64 (T : Int), .bool false, .bool false, .int .i64 (T : Int), .string s, .int .i64 (T : Int), .func (.func 131) #[] #[.pointer (some ⟨L + 3, 0, none⟩), .pointer (some ⟨L + 2, 0, none⟩)], .int .i64 x.1, .int .i64 x.2, undef, undef, undef, undef, undef, undef, undef, undef], defers := [] }) ?assign ?body ?done
  case assign =>
    intro l x W K hK
    gi_wp2
    exact hK
  case body =>
    rintro l pre x post W hpx hI
    have hx := upsL_bd s T s.size
    rw [← hpx] at hx
    have hlo := loL_bd T pre (fun y hy => ⟨(hx y (by simp [hy])).1, (hx y (by simp [hy])).2.1⟩)
    have hhi := hiL_bd T pre (fun y hy => ⟨(hx y (by simp [hy])).1, (hx y (by simp [hy])).2.1⟩)
    have hxx := hx x (by simp)
    obtain ⟨a, b⟩ := x
    have HS1 := Lib.hid (loL_snoc T pre (a, b))
    have HS2 := Lib.hid (hiL_snoc pre (a, b))
    obtain ⟨lo, hlo2⟩ : ∃ z, loL T pre = z := ⟨_, rfl⟩
    obtain ⟨hi, hhi2⟩ : ∃ z, hiL pre = z := ⟨_, rfl⟩
    have HI := Lib.hid hI
    obtain ⟨i1, i2, i3, i4, i5⟩ := hI
    rw [hlo2] at hlo i1 HS1
    rw [hhi2] at hhi i2 HS2
    have c0 : W.cell? ⟨L, 0, none⟩ = some (.int .i64 lo) := by rw [show W.cell? ⟨L, 0, none⟩ = _ from Lib.cell_of_heap i1 0]; rfl
    have c1 : W.cell? ⟨L + 1, 0, none⟩ = some (.int .i64 hi) := by rw [show W.cell? ⟨L + 1, 0, none⟩ = _ from Lib.cell_of_heap i2 0]; rfl
    have f0 : W.frozen? ⟨L, 0, none⟩ = false := Lib.frozen_of_heap i1 0
    have f1 : W.frozen? ⟨L + 1, 0, none⟩ = false := Lib.frozen_of_heap i2 0
    clear hx hpx hlo2 hhi2 i1 i2 i3 i4 i5
    gi_wp2
    gi_region
    all_goals
      gi_wp2
      first
        | exact rng_lr HI.out (Nat.le_refl _) HS1.out HS2.out _
        | exact rng_rl HI.out (Nat.le_refl _) HS1.out HS2.out _
  case done =>
    rintro D W hD ⟨i1, i2, i3, i4, i5⟩ hK
    have c0 : W.cell? ⟨L, 0, none⟩ = some (.int .i64 (loL T (upsL s T s.size))) := by rw [show W.cell? ⟨L, 0, none⟩ = _ from Lib.cell_of_heap i1 0]; rfl
    have c1 : W.cell? ⟨L + 1, 0, none⟩ = some (.int .i64 (hiL (upsL s T s.size))) := by rw [show W.cell? ⟨L + 1, 0, none⟩ = _ from Lib.cell_of_heap i2 0]; rfl
    have HF := Lib.hid (fun o => HB1.out.trans ((i5.trans (belowK_b (n₀ := L) (w := W4) (by omega) W D _ o hD hK rfl rfl)).mono (by have := HB1.out.size; omega)))
    gi_wp2
    gi_region
    all_goals
      gi_wp2
      refine ⟨by simp, .inl ⟨_, _, rfl, run_takeDeferred hK, ?_⟩⟩
      have b := HF.out (.deferred none)
      exact ⟨.tuple #[.int .i64 (loL T (upsL s T s.size)), .int .i64 (hiL (upsL s T s.size)), .bool true], by simp [results, Try.f20, go_sem], rfl, ⟨b.os, b.tape, b.output, b.size, b.block⟩⟩
end Go.Proofs.Ytkipgeecibimoaa
