/- The iterator over the parts of equal levels of a wave, told. -/
import Derived.Test.YtemjohkieehojaaDoorToldN
import Derived.Test.YtemjohkieehojaaDoorRunsP
import Derived.Test.YtemjohkieehojaaDoorEdgeTold
import Derived.Test.YtemjohkieehojaaDoorChgMath
import Derived.RangeFuncBox
import Derived.RangeFuncLeaves
import Derived.Shelf.Abstract
import Derived.WalkKit
import Derived.OwnWalkIn
import Derived.TacticsInMore
import Derived.LoopNIn
import Derived.LoopIn
import Derived.Lib.OthersKept
import Derived.WalkSmall
namespace Go.Proofs.YtemjohkieehojaaDoor
open Go.RowKit Go.Shelf
set_option linter.unusedVariables false
set_option linter.unusedSimpArgs false
attribute [local go_sem] Oper.semAt_some

abbrev MineR : List TypeId := [2, 21, 9, TYl]

theorem isHis_nc (ts : List TypeId) {o : Obj} (h : o.isCells = false) : isHis ts o = true := by cases o <;> simp_all [isHis, Obj.isCells]
theorem KeepsHis.from {ts : List TypeId} {W W' : World} (h : KeepsHis ts W W') (B : Nat) : KeepsFrom B W W' :=
  ⟨h.size, fun k o _ hk ho => h.same k o hk (isHis_nc ts ho)⟩
/-- between two changes: what came, the three cells, and the wave's -/
def RunIH (J : List (Int × Int) → World → Prop) (b bs l : Nat) (s : ByteArray) (pre : List (Int × Int)) (W : World) : Prop :=
  J (runsF pre).1 W ∧ W.heap[b]? = some (.cells #[.func (.yield l) #[] #[]] TYl (0, 0)) ∧ W.heap[b + 1]? = some (.cells #[.int .i64 (runsF pre).2.1] 2 (0, 0)) ∧ W.heap[b + 1 + 1]? = some (.cells #[.int .i32 (runsF pre).2.2] 21 (0, 0)) ∧ W.heap[bs]? = some (.cells #[.string s] 9 (0, 0)) ∧ 0 ≤ (runsF pre).2.1 ∧ (runsF pre).2.1 ≤ (s.size : Int)
theorem RunIH.own {J : List (Int × Int) → World → Prop} {b bs l B B0 : Nat} {s : ByteArray} (hJ : OwnFromH MineR B0 J) (h0 : B0 ≤ B) (h1 : b + 2 < B) (h2 : bs < B) : OwnFrom B (RunIH J b bs l s) := by
  intro pre X Y row h hg hr
  have hne : ∀ k, k < B → some k ≠ row := fun k hk e => by have := (hr k e.symm).1; omega
  have lt : ∀ k (o : Obj), X.heap[k]? = some o → k < X.heap.size := fun k o h => (Array.getElem?_eq_some_iff.1 h).1
  obtain ⟨j, r1, r2, r3, r4, r5⟩ := h
  refine ⟨hJ _ _ _ row j hg (fun r e => ?_), (hg.block _ (lt _ _ r1) (hne _ (by omega))).trans r1, (hg.block _ (lt _ _ r2) (hne _ (by omega))).trans r2, (hg.block _ (lt _ _ r3) (hne _ (by omega))).trans r3, (hg.block _ (lt _ _ r4) (hne _ h2)).trans r4, r5⟩
  obtain ⟨hb, o, ho, hc⟩ := hr r e
  exact ⟨by omega, o, ho, isHis_nc _ hc⟩
set_option maxRecDepth 100000 in
set_option maxHeartbeats 1000000 in
theorem runs_toldH (n : Nat) (hn : 4 ≤ n) (bs : Nat) (s : ByteArray) (hwave : s.data.toList.all lvlB = true) (hsz : s.size ≤ 4096) (w : World) (hbs : bs < w.heap.size) (hc : w.heap[bs]? = some (.cells #[.string s] 9 (0, 0))) :
    TellsH MineR (fun _ => True) Fence.wide n Tryd.prog 68 #[.pointer (some ⟨bs, 0, none⟩)] (fun x : Int × Int => #[Value.int .i32 x.1, .int .i64 x.2]) (runsL s) w := by
  intro l J W hbW hJ hJZ hY h0
  have hcs : W.heap[bs]? = some (.cells #[.string s] 9 (0, 0)) := (hbW.block bs hbs).trans hc
  have hcc : W.cell? ⟨bs, 0, none⟩ = some (.string s) := by rw [show W.cell? ⟨bs, 0, none⟩ = _ from Lib.cell_of_heap hcs 0]; rfl
  have hbs2 : bs < W.heap.size := Nat.lt_of_lt_of_le hbs hbW.size
  have hcc3 : (((W.alloc (.cells #[.func (.yield l) #[] #[]] TYl)).alloc (.cells #[.int .i64 0] 2)).alloc (.cells #[.int .i32 48] 21)).cell? ⟨bs, 0, none⟩ = some (.string s) :=
    ((((Below.refl W.heap.size W).alloc (Nat.le_refl _) (.cells #[.func (.yield l) #[] #[]] TYl)).alloc (by simp) (.cells #[.int .i64 0] 2)).alloc (by simp; omega) (.cells #[.int .i32 48] 21)).cell (p := ⟨bs, 0, none⟩) hbs2 |>.trans hcc
  have HY := Lib.hid hY
  have HJ := Lib.hid hJ
  have HALL := Lib.hid hwave
  clear hY hJ hJZ hc hbW hwave
  have h1 : 1 ≤ n := by omega
  refine callsIn_of_wp_marks Tryd.func68 rfl trivial ?_ rfl
  simp only [Tryd.ntmps68, List.size_toArray, List.length_cons, List.length_nil, Nat.reduceAdd, Nat.reduceSub, Array.replicate_succ, Array.replicate_zero, List.push_toArray, List.append_toArray, List.nil_append, List.cons_append]
  gi_wp2_with fail
  refine ⟨trivial, ?_⟩
  refine (edgesOf_told (n - 1) s _).mono ?_
  rintro e w2 ⟨rfl, rfl⟩
  gi_wp2_with fail
  obtain ⟨o1, ho1⟩ : ∃ o, (Obj.cells #[.func (.yield l) #[] #[]] TYl (0, 0)) = o := ⟨_, rfl⟩
  obtain ⟨W0, hW0⟩ : ∃ W0, (((W.alloc (.cells #[.func (.yield l) #[] #[]] TYl)).alloc (.cells #[.int .i64 0] 2)).alloc (.cells #[.int .i32 48] 21)).alloc (.cells #[.string s] 9) = W0 := ⟨_, rfl⟩
  have hW0s : W0.heap.size = W.heap.size + 4 := by rw [← hW0]; simp
  have q0 : W0.heap[bs]? = some (.cells #[.string s] 9 (0, 0)) := by
    rw [← hW0]
    exact (Below.heap_alloc _ _ _ (by first | (simp; done) | (simp; omega))).trans ((Below.heap_alloc _ _ _ (by first | (simp; done) | (simp; omega))).trans ((Below.heap_alloc _ _ _ (by first | (simp; done) | (simp; omega))).trans ((Below.heap_alloc _ _ _ (by omega)).trans hcs)))
  have q1 : W0.heap[W.heap.size]? = some (.cells #[.func (.yield l) #[] #[]] TYl (0, 0)) := by
    rw [← hW0]
    exact (Below.heap_alloc _ _ _ (by first | (simp; done) | (simp; omega))).trans ((Below.heap_alloc _ _ _ (by first | (simp; done) | (simp; omega))).trans ((Below.heap_alloc _ _ _ (by first | (simp; done) | (simp; omega))).trans (heap_alloc_last W _)))
  have q2 : W0.heap[W.heap.size + 1]? = some (.cells #[.int .i64 0] 2 (0, 0)) := by
    rw [← hW0]
    refine (Below.heap_alloc _ _ _ (by first | (simp; done) | (simp; omega))).trans ((Below.heap_alloc _ _ _ (by first | (simp; done) | (simp; omega))).trans ?_)
    have := heap_alloc_last (W.alloc (.cells #[.func (.yield l) #[] #[]] TYl)) (.cells #[.int .i64 0] 2)
    rwa [World.size_alloc] at this
  have q3 : W0.heap[W.heap.size + 1 + 1]? = some (.cells #[.int .i32 48] 21 (0, 0)) := by
    rw [← hW0]
    refine (Below.heap_alloc _ _ _ (by first | (simp; done) | (simp; omega))).trans ?_
    have := heap_alloc_last ((W.alloc (.cells #[.func (.yield l) #[] #[]] TYl)).alloc (.cells #[.int .i64 0] 2)) (.cells #[.int .i32 48] 21)
    rwa [World.size_alloc, World.size_alloc] at this
  have q4 : W0.cell? ⟨W.heap.size + 1 + 1 + 1, 0, none⟩ = some (.string s) := by
    rw [← hW0]
    have := heap_alloc_last (((W.alloc (.cells #[.func (.yield l) #[] #[]] TYl)).alloc (.cells #[.int .i64 0] 2)).alloc (.cells #[.int .i32 48] 21)) (.cells #[.string s] 9)
    rw [World.size_alloc, World.size_alloc, World.size_alloc] at this
    rw [show World.cell? _ ⟨W.heap.size + 1 + 1 + 1, 0, none⟩ = _ from Lib.cell_of_heap this 0]; rfl
  have hJ0 : J [] W0 := by
    rw [← hW0]
    exact HJ.out.alloc _ (HJ.out.alloc _ (HJ.out.alloc _ (HJ.out.alloc _ h0)))
  have HJ0 := Lib.hid hJ0
  rw [hW0]
  clear hW0 h0 hcs hcc hcc3 hJ0
  have hW0b : W.heap.size + 2 < W0.heap.size := by omega
  have hbW0 : bs < W0.heap.size := by omega
  refine loop_told rfl h1 (gf := 82) (lb := #[.pointer (some ⟨W.heap.size + 1 + 1 + 1, 0, none⟩)]) rfl trivial (enters_of Tryd.func82 (by kernel_rfl) rfl) (chgsL s.data.toList s.size)
    (edges_told (n - 1) (by omega) (W.heap.size + 1 + 1 + 1) s HALL.out W0 (by omega) q4) (fun _ => rfl) (RunIH J W.heap.size bs l s) (RunIH.own HJ.out (by omega) hW0b hbW0)
    ⟨HJ0.out, q1, q2, q3, q0, by simp [runsF], by simp [runsF]⟩
    (fun x => { tmps := #[.func (.yield l) #[] #[], .pointer (some ⟨bs, 0, none⟩), .pointer (some ⟨W.heap.size, 0, none⟩), .pointer (some ⟨W.heap.size + 1, 0, none⟩), .pointer (some ⟨W.heap.size + 1 + 1, 0, none⟩), .int .i64 x.1, .int .i32 x.2, undef, .string s, .func (.func 82) #[] #[.pointer (some ⟨W.heap.size + 1 + 1 + 1, 0, none⟩)], .int .i64 x.1, .int .i32 x.2, undef, undef, undef, undef, undef, undef, undef, undef, undef, undef, undef, undef, undef, undef, undef, undef, undef, undef, undef, undef, undef, undef, undef, undef, undef], defers := [] }) ?assign ?body ?done
  case assign =>
    intro l x W K hK
    gi_wp2
    exact hK
  case body =>
    rintro l2 pre ⟨a, c⟩ post Wr hpx ⟨hj, r1, r2, r3, r4, hs0, hs1⟩
    have HN := Lib.hid (runs_next s pre post (a, c) hpx)
    have HSN := Lib.hid (runsF_snoc pre (a, c))
    obtain ⟨ha0, ha1⟩ : 0 ≤ a ∧ a ≤ (s.size : Int) := by
      obtain ⟨k, hk, hx, -, -⟩ := chgsL_split _ _ _ _ _ hpx
      obtain ⟨e1, e2⟩ := Prod.mk.inj hx
      omega
    clear hpx
    obtain ⟨⟨Y, st, lv⟩, hf⟩ : ∃ z, runsF pre = z := ⟨_, rfl⟩
    rw [hf] at HN HSN hj r2 r3 hs0 hs1
    dsimp only at HN hj r2 r3 hs0 hs1
    have HF := Lib.hid hf
    clear hf
    have c1 : Wr.cell? ⟨W.heap.size, 0, none⟩ = some (.func (.yield l) #[] #[]) := by rw [show Wr.cell? ⟨W.heap.size, 0, none⟩ = _ from Lib.cell_of_heap r1 0]; rfl
    have c2 : Wr.cell? ⟨W.heap.size + 1, 0, none⟩ = some (.int .i64 st) := by rw [show Wr.cell? ⟨W.heap.size + 1, 0, none⟩ = _ from Lib.cell_of_heap r2 0]; rfl
    have c3 : Wr.cell? ⟨W.heap.size + 1 + 1, 0, none⟩ = some (.int .i32 lv) := by rw [show Wr.cell? ⟨W.heap.size + 1 + 1, 0, none⟩ = _ from Lib.cell_of_heap r3 0]; rfl
    have f2 : Wr.frozen? ⟨W.heap.size + 1, 0, none⟩ = false := Lib.frozen_of_heap r2 0
    have f3 : Wr.frozen? ⟨W.heap.size + 1 + 1, 0, none⟩ = false := Lib.frozen_of_heap r3 0
    have wr : IntKind.i64.wrap (a - st) = a - st := IntWalk.i64_in _ (by omega)
    -- what the two stores leave
    have FIN : Hid (∀ w5, J (if st < a then Y ++ [(lv, a - st)] else Y) w5 → KeepsHis MineR Wr w5 → toldPost W0.heap.size (RunIH J W.heap.size bs l s) (pre ++ [(a, c)]) Wr .normal { tmps := #[], defers := [] } ((w5.setCell ⟨W.heap.size + 1, 0, none⟩ (.int .i64 a)).setCell ⟨W.heap.size + 1 + 1, 0, none⟩ (.int .i32 c))) := by
      intro w5 hJ5 hk5
      have s1 := hk5.same _ _ r1 (by simp [isHis])
      have s2 := hk5.same _ _ r2 (by simp [isHis])
      have s3 := hk5.same _ _ r3 (by simp [isHis])
      have s4 := hk5.same _ _ r4 (by simp [isHis])
      have s3' : (w5.setCell ⟨W.heap.size + 1, 0, none⟩ (.int .i64 a)).heap[W.heap.size + 1 + 1]? = _ := (heap_set_other (by omega) _).trans s3
      have hK := (KeepsOthers.setCell w5 ⟨W.heap.size + 1, 0, none⟩ (.int .i64 a)).trans (KeepsOthers.setCell _ ⟨W.heap.size + 1 + 1, 0, none⟩ (.int .i32 c))
      refine ⟨(hk5.from _).trans (hK.from _), hk5.walks.trans hK.walks, ?_⟩
      unfold RunIH
      rw [HSN.out]
      refine ⟨?_, ?_, ?_, ?_, ?_, ha0, ha1⟩
      · refine HJ.out _ _ _ (some (W.heap.size + 1 + 1)) (HJ.out _ _ _ (some (W.heap.size + 1)) (by simpa [runStep] using hJ5) (grownBy_setCell' _ _ _) (fun r e => by cases e; exact ⟨by omega, _, s2, by simp [isHis]⟩)) (grownBy_setCell' _ _ _) (fun r e => by cases e; exact ⟨by omega, _, s3', by simp [isHis]⟩)
      · exact ((heap_set_other (by omega) _).trans (heap_set_other (by omega) _)).trans s1
      · exact (heap_set_other (by omega) _).trans (heap_set s2 _)
      · exact heap_set s3' _
      · exact ((heap_set_other (by omega) _).trans (heap_set_other (by omega) _)).trans s4
    by_cases hlt : st < a
    · have hd : decide (st < a) = true := decide_eq_true hlt
      obtain ⟨more, hmore⟩ := HN.out hlt
      obtain ⟨fn, tmps, assign, body, hy, hR⟩ := HY.out Y (lv, a - st) more Wr hmore hj
      have HR := Lib.hid hR
      have HKS := Lib.hid (fun w5 (hk5 : KeepsHis MineR Wr w5) => And.intro (hk5.same _ _ r2 (by simp [isHis])) (hk5.same _ _ r3 (by simp [isHis])))
      clear hmore hR HN r1 r2 r3 r4
      dsimp only at hy
      gi_wp2
      refine ⟨fun _ => by omega, ?_⟩
      refine (round_any HR.out).mono ?_
      rintro e w5 ⟨rfl, hJ5, hk5⟩
      obtain ⟨s2, s3⟩ := HKS.out w5 hk5
      have hfin := FIN.out w5 (by rw [if_pos hlt]; exact hJ5) hk5
      have HFN := Lib.hid hfin
      have d2 : w5.frozen? ⟨W.heap.size + 1, 0, none⟩ = false := Lib.frozen_of_heap s2 0
      have d3 : w5.frozen? ⟨W.heap.size + 1 + 1, 0, none⟩ = false := Lib.frozen_of_heap s3 0
      have k2 : w5.cell? ⟨W.heap.size + 1, 0, none⟩ = some (.int .i64 st) := by rw [show w5.cell? ⟨W.heap.size + 1, 0, none⟩ = _ from Lib.cell_of_heap s2 0]; rfl
      have k3 : w5.cell? ⟨W.heap.size + 1 + 1, 0, none⟩ = some (.int .i32 lv) := by rw [show w5.cell? ⟨W.heap.size + 1 + 1, 0, none⟩ = _ from Lib.cell_of_heap s3 0]; rfl
      clear hfin hk5 hJ5 s2 s3 FIN HR HKS
      gi_wp2
      exact HFN.out
    · have hd : decide (st < a) = false := decide_eq_false hlt
      have HFN := Lib.hid (FIN.out Wr (by rw [if_neg hlt]; exact hj) (KeepsHis.refl _ _))
      clear HN FIN r1 r2 r3 r4
      gi_wp2
      refine ⟨fun _ h => (by cases h), ?_⟩
      gi_wp2
      exact HFN.out
  case done =>
    rintro D Wd hD ⟨hj, r1, r2, r3, r4, hs0, hs1⟩ hK
    obtain ⟨z, hz⟩ : ∃ z, runsF (chgsL s.data.toList s.size) = z := ⟨_, rfl⟩
    have hrl : runsL s = if z.2.1 < (s.size : Int) then z.1 ++ [(z.2.2, (s.size : Int) - z.2.1)] else z.1 := by unfold runsL; rw [hz]
    rw [hz] at hj r2 r3 hs0 hs1
    obtain ⟨Y, st, lv⟩ := z
    dsimp only at hrl hj r2 r3 hs0 hs1
    have HRL := Lib.hid hrl
    clear hrl hz
    have c1 : Wd.cell? ⟨W.heap.size, 0, none⟩ = some (.func (.yield l) #[] #[]) := by rw [show Wd.cell? ⟨W.heap.size, 0, none⟩ = _ from Lib.cell_of_heap r1 0]; rfl
    have c2 : Wd.cell? ⟨W.heap.size + 1, 0, none⟩ = some (.int .i64 st) := by rw [show Wd.cell? ⟨W.heap.size + 1, 0, none⟩ = _ from Lib.cell_of_heap r2 0]; rfl
    have c3 : Wd.cell? ⟨W.heap.size + 1 + 1, 0, none⟩ = some (.int .i32 lv) := by rw [show Wd.cell? ⟨W.heap.size + 1 + 1, 0, none⟩ = _ from Lib.cell_of_heap r3 0]; rfl
    have c4 : Wd.cell? ⟨bs, 0, none⟩ = some (.string s) := by rw [show Wd.cell? ⟨bs, 0, none⟩ = _ from Lib.cell_of_heap r4 0]; rfl
    have wr : IntKind.i64.wrap ((s.size : Int) - st) = (s.size : Int) - st := IntWalk.i64_in _ (by omega)
    clear r1 r2 r3 r4
    by_cases hlt : st < (s.size : Int)
    · have hd : decide (st < (s.size : Int)) = true := decide_eq_true hlt
      obtain ⟨fn, tmps, assign, body, hy, hR⟩ := HY.out Y (lv, (s.size : Int) - st) [] Wd (by rw [HRL.out, if_pos hlt]) hj
      have HR := Lib.hid hR
      clear hR
      dsimp only at hy
      gi_wp2
      refine (round_wide HR.out).mono ?_
      rintro e w5 ⟨rfl, hJ5, hk5⟩
      have hK5 := hk5.same _ _ hK rfl
      have HJ5 := Lib.hid hJ5
      clear hk5 hJ5 HR hK
      gi_wp2
      refine ⟨by simp, .inl ⟨_, _, rfl, run_takeDeferred hK5, ?_⟩⟩
      refine ⟨_, by simp [results, Tryd.f68, go_sem]; rfl, ⟨_, rfl⟩, ?_⟩
      rw [HRL.out, if_pos hlt]
      exact HJ.out.putObj _ HJ5.out (by omega) hK5 rfl
    · have hd : decide (st < (s.size : Int)) = false := decide_eq_false hlt
      gi_wp2
      refine ⟨by simp, .inl ⟨_, _, rfl, run_takeDeferred hK, ?_⟩⟩
      refine ⟨_, by simp [results, Tryd.f68, go_sem]; rfl, ⟨_, rfl⟩, ?_⟩
      rw [HRL.out, if_neg (by omega)]
      exact HJ.out.putObj _ hj (by omega) hK rfl
end Go.Proofs.YtemjohkieehojaaDoor
