/- The pulses of a wave, on the side of the program: a loop over the iterator whose body appends a struct or changes the last one in place. -/
import Derived.Test.YtafecdmcbpnniabDoorEdgeTold
import Derived.Test.YtafecdmcbpnniabDoorPulW
import Derived.Test.YtafecdmcbpnniabDoorChgMath
import Derived.Test.YtafecdmcbpnniabDoorEdgeSpec
import Derived.RangeFuncNested
import Derived.Deep.Onto
namespace Go.Proofs.YtafecdmcbpnniabDoor
open Go.RowKit Go.Shelf
set_option linter.unusedVariables false
set_option linter.unusedSimpArgs false

attribute [local go_sem] Oper.semAt_some

theorem info_pul : (Tryd.prog.info? 53).map (fun i => (i.zero, i.size, i.bytes)) = some (some (.agg #[.int .i64 0, .int .i64 0, .bool false]), 3, 24) := by kernel_rfl
theorem cell_three_new (w : World) (x y z : Value) (t : TypeId) : ∀ j u, [x, y, z][j]? = some u → (w.alloc (.cells #[x, y, z] t)).cell? ((⟨w.heap.size, 0, none⟩ : Addr).add j) = some u := by
  intro j u h
  rcases j with _ | _ | _ | j
  · simp at h; subst h; simp [go_sem]
  · simp at h; subst h; simp [go_sem]
  · simp at h; subst h; simp [go_sem]
  · simp at h
/-- the value is a row of the pulses that begin at us and end at ds, the last one perhaps at n -/
def PulR (w : World) (B : Nat) (v : Value) (n : Int) (us ds : List Int) : Prop := w.ownsRow B 53 3 v us.length (pulV n us ds)

set_option maxRecDepth 100000 in
set_option maxHeartbeats 4000000 in
theorem pulsesIn_in (n : Nat) (hn : 3 ≤ n) (s : ByteArray) (w : World) (hs : s.size ≤ 400) (hall : s.data.toList.all lvlB = true) :
    CallsIn Fence.wide n Tryd.prog 26 #[.string s] w fun e W' => ∃ v, e = .returned v ∧ PulR W' w.heap.size v (s.size : Int) (edgesL 49 s.data.toList s.size) (edgesL 48 s.data.toList s.size) ∧ Below w.heap.size w W' := by
  have h1 : 1 ≤ n := by omega
  have HALL := Lib.hid hall
  clear hall
  obtain ⟨i0, hi, hz0, hz1, hz2⟩ := info_parts info_pul
  refine callsIn_of_wp_marks Tryd.func26 rfl trivial ?_ rfl
  simp only [Tryd.ntmps26, List.size_toArray, List.length_cons, List.length_nil, Nat.reduceAdd, Nat.reduceSub, Array.replicate_succ, Array.replicate_zero, List.push_toArray, List.append_toArray, List.nil_append, List.cons_append]
  gi_wp2_with fail
  refine ⟨trivial, ?_⟩
  refine (edgesOf_told (n - 1) s _).mono ?_
  rintro e w2 ⟨rfl, rfl⟩
  gi_wp2_with fail
  have bS := Boxed.new w 9 (.string s)
  have bO := Boxed.new (w.alloc (.cells #[.string s] 9)) 50 (.slice none 0 0)
  have bN := Boxed.new ((w.alloc (.cells #[.string s] 9)).alloc (.cells #[.slice none 0 0] 50)) 9 (.string s)
  rw [World.size_alloc] at bO
  rw [World.size_alloc, World.size_alloc] at bN
  have bO2 := bO.alloc (.cells #[.string s] 9)
  have hB0 : Below (w.heap.size + 1) (w.alloc (.cells #[.string s] 9)) (((w.alloc (.cells #[.string s] 9)).alloc (.cells #[.slice none 0 0] 50)).alloc (.cells #[.string s] 9)) := ((Below.refl _ _).alloc (by simp) _).alloc (by simp) _
  obtain ⟨W0, hW0⟩ : ∃ W0, w.alloc (.cells #[.string s] 9) = W0 := ⟨_, rfl⟩
  obtain ⟨W1, hW1⟩ : ∃ W1, ((W0.alloc (.cells #[.slice none 0 0] 50)).alloc (.cells #[.string s] 9)) = W1 := ⟨_, rfl⟩
  have hW0s : W0.heap.size = w.heap.size + 1 := by rw [← hW0]; simp
  rw [hW0] at bS bO bN bO2 hB0
  rw [hW0, hW1]
  rw [hW1] at bN bO2 hB0
  have hW1s : W1.heap.size = w.heap.size + 1 + 1 + 1 := by rw [← hW1]; simp [hW0s]
  have hwW : Below w.heap.size w W0 := by rw [← hW0]; exact (Below.refl _ _).alloc (Nat.le_refl _) _
  have HWW := Lib.hid hwW
  clear hwW hW0 hW1 bO
  refine loop_told rfl h1 (gf := 63) (lb := #[.pointer (some ⟨w.heap.size + 1 + 1, 0, none⟩)]) rfl trivial (enters_of Tryd.func63 (by kernel_rfl) rfl) (chgsL s.data.toList s.size)
    (edges_told (n - 1) (by omega) (w.heap.size + 1 + 1) s HALL.out _ (by omega) bN.cell) (fun _ => rfl)
    (fun pre W => (∃ v, Boxed W (w.heap.size + 1) 50 v ∧ W.ownsRow (w.heap.size + 1) 53 3 v (toL 49 pre).length (pulV (s.size : Int) (toL 49 pre) (toL 48 pre)) ∧ True) ∧ Below (w.heap.size + 1) W0 W)
    (OwnFrom.and (Own.from (holdsRow_own (w.heap.size + 1) (w.heap.size + 1) 50 53 3 (fun pre => (toL 49 pre).length) (fun pre => pulV (s.size : Int) (toL 49 pre) (toL 48 pre)) (fun _ _ => True)) _) (ownFrom_below (by omega) (by omega)))
    ⟨⟨_, bO2, World.ownsRow_nil _ _ _ _, trivial⟩, hB0⟩
    (fun x => { tmps := #[.string s, .pointer (some ⟨w.heap.size, 0, none⟩), .slice none 0 0, .pointer (some ⟨w.heap.size + 1, 0, none⟩), .int .i64 x.1, .int .i32 x.2, undef, .string s, .func (.func 63) #[] #[.pointer (some ⟨w.heap.size + 1 + 1, 0, none⟩)], .int .i64 x.1, .int .i32 x.2, undef, undef, undef, undef, undef, undef, undef, undef, undef, undef, undef, undef, undef, undef, undef, undef, undef, undef, undef, undef, undef, undef], defers := [] }) ?assign ?body ?done
  case assign =>
    intro l x W K hK
    gi_wp2
    exact hK
  case body =>
    rintro l pre x post W hpx ⟨⟨v, hv, hrow, _⟩, hB⟩
    obtain ⟨k, hk, rfl, rfl, hne⟩ := chgsL_split _ _ _ _ _ hpx
    clear hpx
    have hc := hv.cell
    have hgo : W.cell? ⟨w.heap.size, 0, none⟩ = some (.string s) := by
      rw [hB.cell (p := ⟨w.heap.size, 0, none⟩) (by simp)]; exact bS.cell
    have hWs := hB.size
    have hlk : k < s.size := hk
    have hturn := edges_turn s HALL.out k (by omega)
    have hl2 : lvL s.data.toList k = 48 ∨ lvL s.data.toList k = 49 := by
      have hlv : lvlB s[k] = true := List.all_eq_true.1 HALL.out s[k] (by simp [ByteArray.getElem_eq_getElem_data])
      rw [lvL_get s k hk]; simpa [lvlB] using hlv
    have len1 := edgesL_len 49 s.data.toList k
    have len2 := edgesL_len 48 s.data.toList k
    rw [← toL_chgs] at hturn len1 len2
    rw [← toL_chgs 48] at hturn
    rw [hW0s] at hWs
    rcases hl2 with hx | hx
    · have hp : prL s.data.toList k = 49 := by rcases hturn with h | h <;> omega
      have hq : (toL 49 (chgsL s.data.toList k)).length = (toL 48 (chgsL s.data.toList k)).length + 1 := by rcases hturn with h | h <;> omega
      have HS := Lib.hid (toL_hit 48 (chgsL s.data.toList k) ((k : Int), lvL s.data.toList k) hx)
      have HM := Lib.hid (toL_miss 49 (chgsL s.data.toList k) ((k : Int), lvL s.data.toList k) (by simp [hx]))
      have HC := Lib.hid (pulV_close (s.size : Int) (k : Int) (toL 49 (chgsL s.data.toList k)) (toL 48 (chgsL s.data.toList k)) hq)
      have HL := Lib.hid (pulV_len (s.size : Int) (toL 49 (chgsL s.data.toList k)) (toL 48 (chgsL s.data.toList k)))
      obtain ⟨q, hq1⟩ : ∃ q, (toL 49 (chgsL s.data.toList k)).length = q := ⟨_, rfl⟩
      obtain ⟨m, hm1⟩ : ∃ q, (toL 48 (chgsL s.data.toList k)).length = q := ⟨_, rfl⟩
      rw [hq1] at hrow hq HL len1
      rw [hm1] at hq HC len2
      obtain ⟨X, hX⟩ : ∃ X, pulV (s.size : Int) (toL 49 (chgsL s.data.toList k)) (toL 48 (chgsL s.data.toList k)) = X := ⟨_, rfl⟩
      rw [hX] at hrow HC HL
      have HQ := Lib.hid hq1
      obtain ⟨ed, hed⟩ : ∃ ed, lvL s.data.toList k = ed := ⟨_, rfl⟩
      rw [hed] at hx HS HM ⊢
      subst hx
      clear hne hturn hp hm1 hX hq1 hed
      obtain ⟨g, cap, rfl⟩ : ∃ g cap, v = .slice (some ⟨g, 0, none⟩) q cap := by subst hq; exact ownsRow_succ hrow
      have hsub : IntKind.i64.wrap ((q : Int) - 1) = (m : Int) := by rw [IntWalk.i64_in _ (by omega)]; omega
      obtain ⟨y1, hy1⟩ : ∃ y, W.cell? ⟨g, m * 3 + 1, none⟩ = some y := by
        rw [World.ownsRow.cellAt hrow (m * 3 + 1) (by omega)]; exact ⟨_, List.getElem?_eq_getElem (by rw [HL.out]; omega)⟩
      obtain ⟨y2, hy2⟩ : ∃ y, W.cell? ⟨g, m * 3 + 2, none⟩ = some y := by
        rw [World.ownsRow.cellAt hrow (m * 3 + 2) (by omega)]; exact ⟨_, List.getElem?_eq_getElem (by rw [HL.out]; omega)⟩
      have hf1 := World.ownsRow.frozenAt hrow (m * 3 + 1)
      have hf2 := World.ownsRow.frozenAt hrow (m * 3 + 2)
      have hr1 := World.ownsRow.stored hrow (m * 3 + 1) (.int .i64 (k : Int))
      have hr2 := World.ownsRow.stored hr1.1 (m * 3 + 2) (.bool false)
      rw [← HC.out] at hr2
      have hv1 := hv.kept hr1.2 (hv.not_row (by decide) hrow)
      have hv2 := hv1.kept hr2.2 (hv1.not_row (by decide) hr1.1)
      have hg1 : w.heap.size + 1 ≤ g := by
        rcases hrow.2 with ⟨h0, _⟩ | ⟨g', cap', cur, hgv, hg, _⟩
        · simp at h0
        · simp only [Value.slice.injEq, Option.some.injEq, Addr.mk.injEq, and_true] at hgv; omega
      have HK := Lib.hid ((KeepsOthers.setCell W ⟨g, m * 3 + 1, none⟩ (.int .i64 (k : Int))).trans (KeepsOthers.setCell _ ⟨g, m * 3 + 2, none⟩ (.bool false)))
      have HB2 := Lib.hid ((hB.setCell (p := ⟨g, m * 3 + 1, none⟩) hg1 (.int .i64 (k : Int))).setCell (p := ⟨g, m * 3 + 2, none⟩) hg1 (.bool false))
      have HR2 := Lib.hid hr2.1
      have HV2 := Lib.hid hv2
      clear hr1 hr2 hv1 hv2
      gi_wp2
      have hfin : ((W.setCell ⟨g, m * 3 + 1, none⟩ (.int .i64 (k : Int))).setCell ⟨g, m * 3 + 2, none⟩ (.bool false)).ownsRow (w.heap.size + 1) 53 3 (.slice (some ⟨g, 0, none⟩) q cap) (toL 49 (chgsL s.data.toList k ++ [((k : Int), 48)])).length (pulV (s.size : Int) (toL 49 (chgsL s.data.toList k ++ [((k : Int), 48)])) (toL 48 (chgsL s.data.toList k ++ [((k : Int), 48)]))) := by rw [HM.out, HS.out, HQ.out]; exact HR2.out
      refine ⟨HK.out.from _, HK.out.walks, ⟨_, HV2.out, ?_⟩, HB2.out⟩
      first | exact hfin | exact ⟨hfin, trivial⟩
    · have hp : prL s.data.toList k = 48 := by rcases hturn with h | h <;> omega
      have hq : (toL 48 (chgsL s.data.toList k)).length ≤ (toL 49 (chgsL s.data.toList k)).length := by rcases hturn with h | h <;> omega
      have HS := Lib.hid (toL_hit 49 (chgsL s.data.toList k) ((k : Int), lvL s.data.toList k) hx)
      have HM := Lib.hid (toL_miss 48 (chgsL s.data.toList k) ((k : Int), lvL s.data.toList k) (by simp [hx]))
      have HO := Lib.hid (pulV_open (s.size : Int) (k : Int) (toL 49 (chgsL s.data.toList k)) (toL 48 (chgsL s.data.toList k)) hq)
      obtain ⟨ed, hed⟩ : ∃ ed, lvL s.data.toList k = ed := ⟨_, rfl⟩
      rw [hed] at hx HS HM ⊢
      subst hx
      clear hne hturn hp hq hed
      gi_wp2_with (gi_at_builtin; refine wpListIn_append_own _ rfl _ _ 50 rfl (w.heap.size + 1) 53 i0 (.agg #[.int .i64 0, .int .i64 0, .bool false]) 3 24 Tryd.underlying50 hi hz0 hz1 hz2 rfl (by decide) _ _ _ rfl (hrow.alloc _) ⟨W.heap.size, 0, none⟩ 1 1 [.int .i64 (k : Int), .int .i64 (s.size : Int), .bool true] rfl rfl (cell_three_new _ _ _ _ _) (by simp [Value.oneCell']) (by unfold maxLen; omega) (by omega) (by simp; omega) ?_; intro v' w3 hown' hgrow _; obtain ⟨g', cap', rfl⟩ := ownsRow_succ hown'; obtain ⟨hv1, hv2, hr2, hk2, hb2⟩ := hv.appended (by decide) hrow hWs (Nat.le_refl _) hown' hgrow; have hc1 := hv1.cell; have hf1 := hv1.frozen)
      have hfin := hr2
      rw [← HO.out] at hfin
      refine ⟨hk2.from _, hk2.walks, ⟨_, hv2, ?_⟩, hB.trans hb2⟩
      rw [HS.out, HM.out]
      first | exact ⟨by simpa using hfin, trivial⟩ | simpa using hfin
  case done =>
    rintro D W hD ⟨⟨v, hv, hrow, _⟩, hB⟩ hK
    have hc := hv.cell
    gi_wp2
    refine ⟨by simp, .inl ⟨_, _, rfl, run_takeDeferred hK, ?_⟩⟩
    rw [toL_chgs, toL_chgs] at hrow
    exact ⟨v, by simp [results, Tryd.f26, go_sem], v, rfl, (ownsRow_putObj hrow _ hK rfl).mono (by omega), HWW.out.trans ((hB.trans (belowK_b (w := W1) (by omega) W D _ _ hD hK rfl rfl)).mono (by omega))⟩
end Go.Proofs.YtafecdmcbpnniabDoor
