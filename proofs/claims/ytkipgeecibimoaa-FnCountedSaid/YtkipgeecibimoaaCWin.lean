/- How often a wave goes up in windows, one behind the other: the program's side. -/
import Derived.Test.YtkipgeecibimoaaSlc
namespace Go.Proofs.Ytkipgeecibimoaa
open Go.RowKit Go.Shelf
set_option linter.unusedVariables false
set_option linter.unusedSimpArgs false

attribute [local go_sem] Oper.semAt_some

def cwL (T : Nat) : List (Int × Int) → List Int := List.foldl (fun a x => if Int.tmod x.1 (T : Int) = 0 then a ++ [x.2] else a) []
theorem cwL_hit (T : Nat) (pre : List (Int × Int)) (x : Int × Int) (h : Int.tmod x.1 (T : Int) = 0) : cwL T (pre ++ [x]) = cwL T pre ++ [x.2] := by simp [cwL, h]
theorem cwL_miss (T : Nat) (pre : List (Int × Int)) (x : Int × Int) (h : ¬ Int.tmod x.1 (T : Int) = 0) : cwL T (pre ++ [x]) = cwL T pre := by simp [cwL, h]
theorem fold_len (g : List Int → Int × Int → List Int) (hg : ∀ a x, (g a x).length ≤ a.length + 1) : ∀ (l : List (Int × Int)) (a : List Int), (l.foldl g a).length ≤ a.length + l.length
  | [], a => by simp
  | x :: l, a => by
    have h1 := fold_len g hg l (g a x)
    have h2 := hg a x
    simp only [List.foldl_cons, List.length_cons]; omega
theorem cwL_len (T : Nat) (pre : List (Int × Int)) : (cwL T pre).length ≤ pre.length := by
  have := fold_len (fun a x => if Int.tmod x.1 (T : Int) = 0 then a ++ [x.2] else a) (fun a x => by split <;> simp) pre []
  simpa [cwL] using this
theorem upsL_len (s : ByteArray) (T k : Nat) : (upsL s T k).length ≤ k := by
  induction k with
  | zero => simp [upsL]
  | succ k ih =>
    by_cases h : T ≤ k + 1
    · rw [upsL_hit s T k h]; simp; omega
    · rw [upsL_miss s T k h]; omega
def fixC (K Lb T : Nat) : List (Int × Int) → List (Nat × Obj) := fun _ => [(K, .cells #[.int .i64 (T : Int)] 2 (0, 0)), (Lb + 2, .cells #[.int .i64 (T : Int)] 2 (0, 0))]
set_option maxRecDepth 100000 in
set_option maxHeartbeats 4000000 in
theorem implCW_in (n : Nat) (hn : 5 ≤ n) (s : ByteArray) (T : Nat) (w : World) (hs : s.size ≤ maxLen) (hc : canB s (T : Int) = true) :
    CallsIn Fence.wide n Try.prog 19 #[.string s, .int .i64 (T : Int)] w fun e W' => ∃ v, e = .returned (.tuple #[v, .bool true]) ∧ Ints W' w.heap.size v (cwL T (upsL s T s.size)) ∧ Below w.heap.size w W' := by
  have h1 : 1 ≤ n := by omega
  obtain ⟨hw, hT1, hT2⟩ := canB_t hc
  have hz := wave_le hw
  have HW := Lib.hid hw
  have HC := Lib.hid (fun w => canF_any s (T : Int) w hs)
  rw [hc] at HC
  obtain ⟨i0, hi, hz0, hz1, hz2⟩ := info_parts info_i64
  clear hw hc
  refine callsIn_of_wp_marks Try.func19 rfl trivial ?_ rfl
  simp only [Try.ntmps19, List.size_toArray, List.length_cons, List.length_nil, Nat.reduceAdd, Nat.reduceSub, Array.replicate_succ, Array.replicate_zero, List.push_toArray, List.append_toArray, List.nil_append, List.cons_append]
  gi_wp2_with fail
  refine ⟨trivial, ?_⟩
  refine (callsIn_wide (n := n - 1).2 (HC.out _)).mono ?_
  rintro e w1 ⟨rfl, b1⟩
  obtain ⟨K, hKK⟩ : ∃ K, w.heap.size = K := ⟨_, rfl⟩
  have bT := Boxed.new w 2 (.int .i64 (T : Int))
  have hbw : Below K w (w.alloc (.cells #[.int .i64 (T : Int)] 2)) := by rw [← hKK]; exact (Below.refl _ _).alloc (Nat.le_refl _) _
  obtain ⟨w0, hw0⟩ : ∃ w0, w.alloc (.cells #[.int .i64 (T : Int)] 2) = w0 := ⟨_, rfl⟩
  have hw0s : w0.heap.size = K + 1 := by rw [← hw0, ← hKK]; simp
  rw [hw0] at b1 bT hbw
  rw [hKK] at bT
  have bT1 : Boxed w1 K 2 (.int .i64 (T : Int)) := (b1.block K (by omega)).trans bT
  have hb1 : Below K w w1 := hbw.trans (b1.mono (by omega))
  have hw1s : K + 1 ≤ w1.heap.size := by rw [← hw0s]; exact b1.size
  have cT1 := bT1.cell
  have bO := Boxed.new w1 30 (.slice none 0 0)
  have hKlt : K < w1.heap.size := by omega
  simp only [hKK]
  clear b1 bT hbw hw0
  gi_wp2_with fail
  refine ⟨trivial, ?_⟩
  refine (upsIn_told (n - 1) s T _).mono ?_
  rintro e w2 ⟨rfl, rfl⟩
  gi_wp2_with fail
  have e2 := heap_alloc_last (w1.alloc (.cells #[.slice none 0 0] 30)) (.cells #[.string s] 9)
  have e3 := heap_alloc_last ((w1.alloc (.cells #[.slice none 0 0] 30)).alloc (.cells #[.string s] 9)) (.cells #[.int .i64 (T : Int)] 2)
  obtain ⟨Lb, hLb⟩ : ∃ L, w1.heap.size = L := ⟨_, rfl⟩
  simp only [World.size_alloc, Nat.add_assoc, Nat.reduceAdd, hLb] at e2 e3
  try simp only [World.size_alloc, hLb, Nat.add_assoc, Nat.reduceAdd]
  have bO3 := (bO.alloc (.cells #[.string s] 9)).alloc (.cells #[.int .i64 (T : Int)] 2)
  have bT3 := ((bT1.alloc (.cells #[.slice none 0 0] 30)).alloc (.cells #[.string s] 9)).alloc (.cells #[.int .i64 (T : Int)] 2)
  rw [hLb] at bO3
  have hb3 : Below K w (((w1.alloc (.cells #[.slice none 0 0] 30)).alloc (.cells #[.string s] 9)).alloc (.cells #[.int .i64 (T : Int)] 2)) := ((hb1.alloc (by omega) _).alloc (by simp; omega) _).alloc (by simp; omega) _
  have HE2 : (((w1.alloc (.cells #[.slice none 0 0] 30)).alloc (.cells #[.string s] 9)).alloc (.cells #[.int .i64 (T : Int)] 2)).cell? ⟨Lb + 1, 0, none⟩ = some (.string s) := by
    rw [show World.cell? _ _ = _ from Lib.cell_of_heap ((Below.heap_alloc _ _ (Lb + 1) (by simp; omega)).trans e2) 0]; rfl
  obtain ⟨W4, hW4⟩ : ∃ W4, (((w1.alloc (.cells #[.slice none 0 0] 30)).alloc (.cells #[.string s] 9)).alloc (.cells #[.int .i64 (T : Int)] 2)) = W4 := ⟨_, rfl⟩
  have hs4 : W4.heap.size = Lb + 3 := by rw [← hW4]; simp; omega
  rw [hW4] at e3 bO3 bT3 hb3 HE2
  rw [hW4]
  have hKL : K < Lb := by omega
  have H0 : SlcI Lb (Lb + 3) K (Lb + 3) (cwL T) (fixC K Lb T) w [] W4 := by
    refine ⟨⟨_, bO3, Ints.nil _ _⟩, fun p hp => ?_, hb3, by omega⟩
    simp only [fixC, List.mem_cons, List.not_mem_nil, or_false] at hp
    rcases hp with rfl | rfl
    · exact bT3
    · exact e3
  have HKK := Lib.hid hKK
  clear hKK
  clear hW4 e2 e3 bO bO3 bT1 bT3 cT1 hb1 hb3 hw1s hKlt hLb hw0s
  refine loop_toldM (ts := MineW) (Z := TickZ (Lb + 2) T) rfl h1 (gf := 131) (lb := #[.pointer (some ⟨Lb + 2, 0, none⟩), .pointer (some ⟨Lb + 1, 0, none⟩)]) rfl trivial (enters_of Try.func131 (by kernel_rfl) rfl) (upsL s T s.size)
    (ups_told (n - 1) (by omega) (Lb + 2) (Lb + 1) T s HW.out (by omega) (by omega) W4 (by omega) HE2) (fun _ => rfl) (SlcI Lb (Lb + 3) K (Lb + 3) (cwL T) (fixC K Lb T) w)
    (SlcI.own Lb (Lb + 3) K (Lb + 3) (cwL T) (fixC K Lb T) w _ (by omega) (fun pre p hp => by simp only [fixC, List.mem_cons, List.not_mem_nil, or_false] at hp; rcases hp with rfl | rfl <;> (dsimp only; omega)) (by omega) (by omega))
    (fun pre W h => by
      have := h.2.1 (Lb + 2, .cells #[.int .i64 (T : Int)] 2 (0, 0)) (by simp [fixC])
      unfold TickZ
      rw [show W.cell? ⟨Lb + 2, 0, none⟩ = _ from Lib.cell_of_heap this 0]; rfl) H0
    (fun x => { tmps := #[.string s, .int .i64 (T : Int), undef, .pointer (some ⟨K, 0, none⟩), .slice none 0 0, .bool false, .pointer (some ⟨Lb, 0, none⟩), .int .i64 x.1, .int .i64 x.2, .string s, .int .i64 (T : Int), .bool true, .bool false, .string s, .int .i64 (T : Int), .func (.func 131) #[] #[.pointer (some ⟨Lb + 2, 0, none⟩), .pointer (some ⟨Lb + 1, 0, none⟩)], .int .i64 x.1, .int .i64 x.2, undef, undef, undef, undef, undef, undef, undef, undef, undef], defers := [] }) ?assign ?body ?done
  case assign =>
    intro l x W K hK
    gi_wp2
    exact hK
  case body =>
    rintro l pre x post W hpx ⟨⟨v, hv, hrow⟩, hfix, hB, hWz⟩
    have hx := upsL_bd s T s.size x (by rw [← hpx]; simp)
    have hlen : pre.length ≤ 400 := by
      have e := congrArg List.length hpx
      simp only [List.length_append, List.length_cons] at e
      have := upsL_len s T s.size
      omega
    have hcl := cwL_len T pre
    have hcT : W.cell? ⟨K, 0, none⟩ = some (.int .i64 (T : Int)) := by
      have := hfix (K, .cells #[.int .i64 (T : Int)] 2 (0, 0)) (by simp [fixC])
      rw [show W.cell? ⟨K, 0, none⟩ = _ from Lib.cell_of_heap this 0]; rfl
    obtain ⟨a, b⟩ := x
    obtain ⟨m, rfl⟩ : ∃ m : Nat, a = (m : Int) := ⟨a.toNat, by omega⟩
    have hm : m ≤ 400 := by omega
    have ht0 : ((T : Int) == 0) = false := by simp; omega
    have htn : ¬ (T : Int) = 0 := by omega
    have e1 : Int.tmod (m : Int) (T : Int) = ((m % T : Nat) : Int) := rfl
    have HFX := Lib.hid hfix
    have HB := Lib.hid hB
    have hml : m % T ≤ m := Nat.mod_le _ _
    have hmw : IntKind.i64.wrap ((m % T : Nat) : Int) = ((m % T : Nat) : Int) := IntWalk.i64_in _ (by omega)
    have hc := hv.cell
    have hf := hv.frozen
    have HPX := Lib.hid hpx
    clear hx hpx hfix hB
    by_cases h0 : m % T = 0
    · have HF := Lib.hid (cwL_hit T pre ((m : Int), b) (by show Int.tmod (m : Int) (T : Int) = 0; rw [e1, h0]; rfl))
      have e2 : (m : Int) % (T : Int) = 0 := by omega
      have e3 : ((m : Int) % (T : Int) == 0) = true := by rw [e2]; rfl
      have e4 : (T : Int) ∣ (m : Int) := Int.dvd_of_emod_eq_zero e2
      have e5 : T ∣ m := Nat.dvd_of_mod_eq_zero h0
      clear h0
      gi_wp2_with (gi_at_builtin; refine wpListIn_append_own _ rfl _ _ 30 rfl (Lb + 3) 2 i0 (.int .i64 0) 1 8 Try.underlying30 hi hz0 hz1 hz2 rfl (by decide) _ _ _ rfl (hrow.alloc _) ⟨W.heap.size, 0, none⟩ 1 1 [.int .i64 b] rfl rfl (cell_one_new _ _ _) (by simp [Value.oneCell']) (by unfold maxLen; omega) (by omega) (by simp; omega) ?_; intro v' w3 hown' hgrow _; obtain ⟨g', cap', rfl⟩ := ownsRow_succ hown'; have hv1 := (hv.alloc (.cells #[.int .i64 b] 2)).kept hgrow (hv.not_row (by decide) hrow); have hc1 := hv1.cell; have hf1 := hv1.frozen)
      exact slc_append hv hrow HFX.out HB.out hWz (by omega) (by omega) (by omega) (by omega) (by omega) hown' hgrow HF.out rfl (fun p hp => .inr (by simp only [fixC, List.mem_cons, List.not_mem_nil, or_false] at hp; rcases hp with rfl | rfl <;> (dsimp only; omega)))
    · have HF := Lib.hid (cwL_miss T pre ((m : Int), b) (by show ¬ Int.tmod (m : Int) (T : Int) = 0; rw [e1]; omega))
      have e2 : ¬ (m : Int) % (T : Int) = 0 := by omega
      have e3 : ((m : Int) % (T : Int) == 0) = false := by simp; omega
      have e4 : ¬ (T : Int) ∣ (m : Int) := fun q => e2 (Int.emod_eq_zero_of_dvd q)
      have e5 : ¬ T ∣ m := fun q => h0 (Nat.mod_eq_zero_of_dvd q)
      gi_wp2
      exact ⟨KeepsFrom.refl _ _, KeepsMine.refl _ _, ⟨v, hv, by rw [HF.out]; exact hrow⟩, HFX.out, HB.out, hWz⟩
  case done =>
    rintro D W hD ⟨⟨v, hv, hrow⟩, hfix, hB, hWz⟩ hK
    have hc := hv.cell
    gi_wp2
    refine ⟨by simp, .inl ⟨_, _, rfl, run_takeDeferred hK, ?_⟩⟩
    have hb2 := hB.trans (belowK_b (n₀ := K) (w := W4) (by omega) W D _ (.deferred none) hD hK rfl rfl)
    rw [HKK.out]
    exact ⟨.tuple #[v, .bool true], by simp [results, Try.f19, go_sem], v, rfl, (ownsRow_putObj hrow _ hK rfl).mono (by omega), hb2⟩
end Go.Proofs.Ytkipgeecibimoaa
