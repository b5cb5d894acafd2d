/- The ticks at which a wave changes to a level, on the side of the program: a loop over the iterator that collects. -/
import Derived.Test.YtafecdmcbpnniabDoorEdgeIter
import Derived.Test.YtafecdmcbpnniabDoorEdgeSpec
import Derived.Test.YtafecdmcbpnniabDoorStr
import Derived.RangeFuncNested
import Derived.Deep.Onto
namespace Go.Proofs.YtafecdmcbpnniabDoor
open Go.RowKit Go.Shelf

attribute [local go_sem] Oper.semAt_some

theorem edgesOf_in (n : Nat) (s : ByteArray) (w : World) :
    CallsIn Fence.wide n Tryd.prog 47 #[.string s] w fun e w' => e = .returned (.func (.func 63) #[] #[.pointer (some ⟨w.heap.size, 0, none⟩)]) ∧ w' = w.alloc (.cells #[.string s] 9) := by
  refine callsIn_of_wp Tryd.func47 rfl trivial ?_ rfl
  simp only [Tryd.ntmps47, List.size_toArray, List.length_cons, List.length_nil, Nat.reduceAdd, Nat.reduceSub, Array.replicate_succ, Array.replicate_zero, List.push_toArray, List.append_toArray, List.nil_append, List.cons_append]
  gi_wp2
  go_ret
  exact ⟨rfl, rfl⟩

theorem edges_stops (n : Nat) (hn : 1 ≤ n) (Bn : Nat) (s : ByteArray) (hwave : s.data.toList.all lvlB = true) (w : World) (hBn : Bn < w.heap.size) (hc : w.cell? ⟨Bn, 0, none⟩ = some (.string s)) :
    SeqStopsK Fence.wide n Tryd.prog 63 #[.pointer (some ⟨Bn, 0, none⟩)] (fun x : Int × Int => #[Value.int .i64 x.1, .int .i32 x.2]) KeepsWalks (fun ys => ys = chgsL s.data.toList s.size) (fun pre => pre <+: chgsL s.data.toList s.size) s.size w := fun l J Jx W hW hJ _ hY h0 =>
  edges1_in n hn l Bn s hwave J Jx W hJ hY ((hW.cell (p := ⟨Bn, 0, none⟩) hBn).trans hc) h0

set_option maxRecDepth 100000 in
set_option maxHeartbeats 2000000 in
theorem edgesTo_in (n : Nat) (hn : 3 ≤ n) (to : Int) (s : ByteArray) (w : World) (hs : s.size ≤ maxLen) (hwv : waveB s.data.toList = true) :
    CallsIn Fence.wide n Tryd.prog 48 #[.int .i32 to, .string s] w fun e W' => ∃ v, e = .returned (.tuple #[v, .bool true]) ∧ Ints W' w.heap.size v (edgesL to s.data.toList s.size) ∧ Below w.heap.size w W' := by
  have h1 : 1 ≤ n := by omega
  have hall : s.data.toList.all lvlB = true := by
    unfold waveB at hwv; simp only [Bool.and_eq_true] at hwv; exact hwv.1
  have hsz : s.size ≤ 400 := by
    unfold waveB at hwv; simp only [Bool.and_eq_true, decide_eq_true_eq, size_toList] at hwv; omega
  have HALL := Lib.hid hall
  have HWV := Lib.hid hwv
  clear hall hwv
  obtain ⟨i0, hi, hz0, hz1, hz2⟩ := info_parts info_i64
  refine callsIn_of_wp_marks Tryd.func48 rfl trivial ?_ rfl
  simp only [Tryd.ntmps48, List.size_toArray, List.length_cons, List.length_nil, Nat.reduceAdd, Nat.reduceSub, Array.replicate_succ, Array.replicate_zero, List.push_toArray, List.append_toArray, List.nil_append, List.cons_append]
  gi_wp2_with fail
  refine ⟨trivial, ?_⟩
  refine (callsIn_wide.2 ((implIsWave s _ hs).mono (R' := fun e w' => e = .returned (.bool true) ∧ Below (w.heap.size + 1) (w.alloc (.cells #[.int .i32 to] 21)) w') (fun e w' h => by rw [HWV.out] at h; exact ⟨h.1, by simpa using h.2⟩))).mono ?_
  rintro e w1 ⟨rfl, hb1⟩
  obtain ⟨hc1, hf1⟩ := bcell (W := w.alloc (.cells #[.int .i32 to] 21)) (by simpa using hb1)
  gi_wp2_with fail
  refine ⟨trivial, ?_⟩
  refine (edgesOf_in (n - 1) s _).mono ?_
  rintro e w2 ⟨rfl, rfl⟩
  gi_wp2_with fail
  have hsz1 : w.heap.size + 1 ≤ w1.heap.size := by have := hb1.size; simpa using this
  have bO := Boxed.new w1 28 (.slice none 0 0)
  have bN := Boxed.new (w1.alloc (.cells #[.slice none 0 0] 28)) 9 (.string s)
  rw [World.size_alloc] at bN
  have hB0 : Below (w.heap.size + 1) (w.alloc (.cells #[.int .i32 to] 21)) ((w1.alloc (.cells #[.slice none 0 0] 28)).alloc (.cells #[.string s] 9)) := (hb1.alloc hsz1 _).alloc (by simp; omega) _
  refine wpIn_rangeFunc_ownG rfl h1 (gf := 63) (lb := #[.pointer (some ⟨w1.heap.size + 1, 0, none⟩)]) rfl trivial (enters_of Tryd.func63 (by kernel_rfl) rfl)
    (edges_stops (n - 1) (by omega) (w1.heap.size + 1) s HALL.out _ (by simp) bN.cell) walksK_t walksK_b (Below.refl _ _) (fun _ => rfl)
    (fun pre W => (∃ v, Boxed W w1.heap.size 28 v ∧ W.ownsRow (w.heap.size + 1) 2 1 v (toL to pre).length ((toL to pre).map (Value.int .i64)) ∧ True) ∧ Below (w.heap.size + 1) (w.alloc (.cells #[.int .i32 to] 21)) W)
    (fun _ _ _ => False)
    (OwnFrom.and (Own.from (holdsRow_own (w.heap.size + 1) w1.heap.size 28 2 1 (fun pre => (toL to pre).length) (fun pre => (toL to pre).map (Value.int .i64)) (fun _ _ => True)) _) (ownFrom_below (by simp) (by simp; omega)))
    (fun _ _ _ _ _ hs _ _ => hs)
    ⟨⟨_, bO.alloc _, World.ownsRow_nil _ _ _ _, trivial⟩, hB0⟩
    (fun x => { tmps := #[.int .i32 to, .string s, .pointer (some ⟨w.heap.size, 0, none⟩), undef, .slice none 0 0, .bool false, .pointer (some ⟨w1.heap.size, 0, none⟩), .int .i64 x.1, .int .i32 x.2, .string s, .bool true, .bool false, .string s, .func (.func 63) #[] #[.pointer (some ⟨w1.heap.size + 1, 0, none⟩)], .int .i64 x.1, .int .i32 x.2, undef, undef, undef, undef, undef, undef, undef, undef], defers := [] }) ?assign ?body ?done ?stop
  case assign =>
    intro l x W K hK
    gi_wp2
    exact hK
  case body =>
    rintro l pre x W ⟨⟨v, hv, hrow, _⟩, hB⟩ hlt
    have hc := hv.cell
    have hgo : W.cell? ⟨w.heap.size, 0, none⟩ = some (.int .i32 to) := by
      rw [hB.cell (p := ⟨w.heap.size, 0, none⟩) (by simp)]; simp
    have hpl := toL_len to pre
    have hWs := hB.size
    simp at hWs
    by_cases hx : x.2 = to
    · have hxb : (x.2 == to) = true := by simp [hx]
      have HS := Lib.hid (toL_hit to pre x hx)
      clear hx
      gi_wp2_with (gi_at_builtin; refine wpListIn_append_own _ rfl _ _ 28 rfl (w.heap.size + 1) 2 i0 (.int .i64 0) 1 8 Tryd.underlying28 hi hz0 hz1 hz2 rfl (by decide) _ _ _ rfl (hrow.alloc _) ⟨W.heap.size, 0, none⟩ 1 1 [.int .i64 x.1] rfl rfl (cell_one_new _ _ _) (by simp [Value.oneCell']) (by unfold maxLen; omega) (by omega) (by simp; omega) ?_; intro v' w3 hown' hgrow _; obtain ⟨g', cap', rfl⟩ := ownsRow_succ hown'; obtain ⟨hv1, hv2, hr2, hk2, hb2⟩ := hv.appended (by decide) hrow hWs hsz1 hown' hgrow; have hc1 := hv1.cell; have hf1 := hv1.frozen)
      exact ⟨hk2.from _, ⟨hk2.size, fun k o hk ho => hk2.same k o hk (Obj.not_cells_of_walk ho)⟩, ⟨_, hv2, by rw [HS.out]; simpa using hr2, trivial⟩, hB.trans hb2⟩
    · have hxb : (x.2 == to) = false := by simp [hx]
      have HS := Lib.hid (toL_miss to pre x hx)
      clear hx
      gi_wp2
      exact ⟨KeepsFrom.refl _ _, KeepsWalks.refl _, ⟨v, hv, by rw [HS.out]; exact hrow, trivial⟩, hB⟩
  case done =>
    rintro D ys W hD rfl ⟨⟨v, hv, hrow, _⟩, hB⟩ hK
    have hc := hv.cell
    gi_wp2
    refine ⟨by simp, .inl ⟨_, _, rfl, run_takeDeferred hK, ?_⟩⟩
    rw [toL_chgs] at hrow
    exact ⟨.tuple #[v, .bool true], by simp [results, Tryd.f48, go_sem], v, rfl, (ownsRow_putObj hrow _ hK rfl).mono (by omega), ((Below.refl _ w).alloc (Nat.le_refl _) _).trans ((hB.trans (belowK_b (w := (w1.alloc (.cells #[.slice none 0 0] 28)).alloc (.cells #[.string s] 9)) (by simp; omega) W D _ _ hD hK rfl rfl)).mono (by omega))⟩
  case stop =>
    rintro D c pre W _ _ h _
    exact h.elim

theorem edgesTo_f (to : Int) (s : ByteArray) (w : World) (hs : s.size ≤ maxLen) (hwv : waveB s.data.toList = false) :
    Calls Tryd.prog 48 #[.int .i32 to, .string s] w fun e W' => e = .returned (.tuple #[.slice none 0 0, .bool false]) ∧ Below w.heap.size w W' := by
  have HWV := Lib.hid hwv
  clear hwv
  go_enter Tryd.func48, Tryd.ntmps48
  go_wp2_with fail
  refine ((implIsWave s _ hs).mono (R' := fun e w' => e = .returned (.bool false) ∧ Below (w.heap.size + 1) (w.alloc (.cells #[.int .i32 to] 21)) w') (fun e w' h => by rw [HWV.out] at h; exact ⟨h.1, by simpa using h.2⟩)).mono ?_
  rintro e w1 ⟨rfl, hb1⟩
  go_wp2
  go_ret2
  exact ⟨rfl, ((Below.refl _ w).alloc (Nat.le_refl _) _).trans (hb1.mono (by omega))⟩

theorem implUps_t (s : ByteArray) (w : World) (hs : s.size ≤ maxLen) (hwv : waveB s.data.toList = true) :
    Calls Tryd.prog 27 #[.string s] w fun e W' => ∃ v, e = .returned (.tuple #[v, .bool true]) ∧ Ints W' w.heap.size v (edgesL 49 s.data.toList s.size) ∧ Below w.heap.size w W' := by
  go_enter Tryd.func27, Tryd.ntmps27
  go_wp2_with fail
  refine (callsIn_wide.1 (edgesTo_in 3 (Nat.le_refl _) 49 s _ hs hwv)).mono ?_; rintro e w1 ⟨v, rfl, hi, hb⟩
  go_wp2
  go_ret2
  exact ⟨v, rfl, hi, hb⟩
theorem implUps_f (s : ByteArray) (w : World) (hs : s.size ≤ maxLen) (hwv : waveB s.data.toList = false) :
    Calls Tryd.prog 27 #[.string s] w fun e W' => e = .returned (.tuple #[.slice none 0 0, .bool false]) ∧ Below w.heap.size w W' := by
  go_enter Tryd.func27, Tryd.ntmps27
  go_wp2_with fail
  refine (edgesTo_f 49 s _ hs hwv).mono ?_; rintro e w1 ⟨rfl, hb⟩
  go_wp2
  go_ret2
  exact ⟨rfl, hb⟩
theorem implDowns_t (s : ByteArray) (w : World) (hs : s.size ≤ maxLen) (hwv : waveB s.data.toList = true) :
    Calls Tryd.prog 28 #[.string s] w fun e W' => ∃ v, e = .returned (.tuple #[v, .bool true]) ∧ Ints W' w.heap.size v (edgesL 48 s.data.toList s.size) ∧ Below w.heap.size w W' := by
  go_enter Tryd.func28, Tryd.ntmps28
  go_wp2_with fail
  refine (callsIn_wide.1 (edgesTo_in 3 (Nat.le_refl _) 48 s _ hs hwv)).mono ?_; rintro e w1 ⟨v, rfl, hi, hb⟩
  go_wp2
  go_ret2
  exact ⟨v, rfl, hi, hb⟩
theorem implDowns_f (s : ByteArray) (w : World) (hs : s.size ≤ maxLen) (hwv : waveB s.data.toList = false) :
    Calls Tryd.prog 28 #[.string s] w fun e W' => e = .returned (.tuple #[.slice none 0 0, .bool false]) ∧ Below w.heap.size w W' := by
  go_enter Tryd.func28, Tryd.ntmps28
  go_wp2_with fail
  refine (edgesTo_f 48 s _ hs hwv).mono ?_; rintro e w1 ⟨rfl, hb⟩
  go_wp2
  go_ret2
  exact ⟨rfl, hb⟩
end Go.Proofs.YtafecdmcbpnniabDoor
