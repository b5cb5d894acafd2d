/- The iterator over the parts of equal levels of a wave, told. -/
import Derived.Test.YtemjohkieehojaaDoorToldP
import Derived.Test.YtemjohkieehojaaDoorEdgeTold
import Derived.Test.YtemjohkieehojaaDoorChgMath
import Derived.RangeFuncBox
import Derived.RangeFuncLeaves
import Derived.Shelf.Abstract
import Derived.WalkKit
import Derived.OwnWalkIn
import Derived.TacticsInMore
import Derived.LoopNIn
import Derived.LoopIn
import Derived.Lib.OthersKept
import Derived.WalkSmall
namespace Go.Proofs.YtemjohkieehojaaDoor
open Go.RowKit Go.Shelf
set_option linter.unusedVariables false
set_option linter.unusedSimpArgs false
attribute [local go_sem] Oper.semAt_some

abbrev TYl : Nat := 101

/-- what one change adds to the parts that are over, and to the part under way: its first tick and its level -/
def runStep (a : List (Int × Int) × Int × Int) (x : Int × Int) : List (Int × Int) × Int × Int :=
  (if a.2.1 < x.1 then a.1 ++ [(a.2.2, x.1 - a.2.1)] else a.1, x)
def runsF (pre : List (Int × Int)) : List (Int × Int) × Int × Int := pre.foldl runStep ([], 0, 48)
/-- the parts of a wave: the level and the length of each -/
def runsL (s : ByteArray) : List (Int × Int) :=
  if (runsF (chgsL s.data.toList s.size)).2.1 < (s.size : Int) then (runsF (chgsL s.data.toList s.size)).1 ++ [((runsF (chgsL s.data.toList s.size)).2.2, (s.size : Int) - (runsF (chgsL s.data.toList s.size)).2.1)] else (runsF (chgsL s.data.toList s.size)).1
theorem runsF_snoc (pre : List (Int × Int)) (x : Int × Int) : runsF (pre ++ [x]) = runStep (runsF pre) x := by
  unfold runsF; rw [List.foldl_append]; rfl
theorem runsF_prefix : ∀ (post : List (Int × Int)) (a : List (Int × Int) × Int × Int), ∃ more, (post.foldl runStep a).1 = a.1 ++ more := by
  intro post
  induction post with
  | nil => intro a; exact ⟨[], by simp⟩
  | cons x t ih =>
    intro a
    obtain ⟨m, hm⟩ := ih (runStep a x)
    by_cases h : a.2.1 < x.1
    · exact ⟨(a.2.2, x.1 - a.2.1) :: m, by rw [List.foldl_cons, hm]; simp [runStep, h]⟩
    · exact ⟨m, by rw [List.foldl_cons, hm]; simp [runStep, h]⟩
theorem runs_next (s : ByteArray) (pre post : List (Int × Int)) (x : Int × Int) (h : pre ++ x :: post = chgsL s.data.toList s.size) (hx : (runsF pre).2.1 < x.1) :
    ∃ more, (runsF pre).1 ++ ((runsF pre).2.2, x.1 - (runsF pre).2.1) :: more = runsL s := by
  have e : runsF (chgsL s.data.toList s.size) = (post.foldl runStep (runStep (runsF pre) x)) := by
    rw [← h]; unfold runsF; rw [List.foldl_append, List.foldl_cons]
  obtain ⟨m, hm⟩ := runsF_prefix post (runStep (runsF pre) x)
  rw [← e] at hm
  have hm2 : (runsF (chgsL s.data.toList s.size)).1 = (runsF pre).1 ++ ((runsF pre).2.2, x.1 - (runsF pre).2.1) :: m := by rw [hm]; simp [runStep, hx]
  unfold runsL
  split
  · exact ⟨m ++ [_], by rw [hm2]; simp; rfl⟩
  · exact ⟨m, hm2.symm⟩

theorem round_any {n m k : Nat} {P : Program} {l : Nat} {f : FuncId} {tmps : Array Value} {assign body : Code} {w : World} {R : Ending → World → Prop} (h : RoundIn Fence.wide n P l f tmps assign body w R) :
    RoundIn (Fence.wide.inRound k) m P l f tmps assign body w R := ⟨h.1, fun c cs _ => h.2 c cs (room_wide _)⟩
theorem round_wide {n m : Nat} {P : Program} {l : Nat} {f : FuncId} {tmps : Array Value} {assign body : Code} {w : World} {R : Ending → World → Prop} (h : RoundIn Fence.wide n P l f tmps assign body w R) :
    RoundIn Fence.wide m P l f tmps assign body w R := ⟨h.1, fun c cs _ => h.2 c cs (room_wide _)⟩

theorem heap_alloc_last (w : World) (o : Obj) : (w.alloc o).heap[w.heap.size]? = some o := by unfold World.alloc; simp
theorem runsOf_told (n : Nat) (s : ByteArray) (w : World) :
    CallsIn Fence.wide n Tryd.prog 49 #[.string s] w fun e w' => e = .returned (.func (.func 68) #[] #[.pointer (some ⟨w.heap.size, 0, none⟩)]) ∧ w' = w.alloc (.cells #[.string s] 9) := by
  refine callsIn_of_wp Tryd.func49 rfl trivial ?_ rfl
  simp only [Tryd.ntmps49, List.size_toArray, List.length_cons, List.length_nil, Nat.reduceAdd, Nat.reduceSub, Array.replicate_succ, Array.replicate_zero, List.push_toArray, List.append_toArray, List.nil_append, List.cons_append]
  gi_wp2
  go_ret
  exact ⟨rfl, rfl⟩

/-- between two changes: what came, the three cells, and the wave's -/
def RunI (J : List (Int × Int) → World → Prop) (b l : Nat) (s : ByteArray) (pre : List (Int × Int)) (W : World) : Prop :=
  J (runsF pre).1 W ∧ W.heap[b]? = some (.cells #[.func (.yield l) #[] #[]] TYl (0, 0)) ∧ W.heap[b + 1]? = some (.cells #[.int .i64 (runsF pre).2.1] 2 (0, 0)) ∧ W.heap[b + 1 + 1]? = some (.cells #[.int .i32 (runsF pre).2.2] 21 (0, 0)) ∧ b + 4 ≤ W.heap.size ∧ 0 ≤ (runsF pre).2.1 ∧ (runsF pre).2.1 ≤ (s.size : Int)
theorem RunI.own {J : List (Int × Int) → World → Prop} {b l B B0 : Nat} {s : ByteArray} (hJ : OwnFromP B0 B0 4 J) (h0 : B0 ≤ B) (h1 : b + 2 < B) : OwnFrom B (RunI J b l s) := by
  intro pre X Y row h hg hr
  have hne : ∀ k, k < B → some k ≠ row := fun k hk e => by have := (hr k e.symm).1; omega
  have lt : ∀ k (o : Obj), X.heap[k]? = some o → k < X.heap.size := fun k o h => (Array.getElem?_eq_some_iff.1 h).1
  obtain ⟨j, r1, r2, r3, r4, r5⟩ := h
  refine ⟨hJ _ _ _ row j hg (fun r e => ?_), (hg.block _ (lt _ _ r1) (hne _ (by omega))).trans r1, (hg.block _ (lt _ _ r2) (hne _ (by omega))).trans r2, (hg.block _ (lt _ _ r3) (hne _ (by omega))).trans r3, Nat.le_trans r4 hg.size, r5⟩
  obtain ⟨hb, o, ho, hc⟩ := hr r e
  exact ⟨by omega, o, ho, hisAt_nc _ _ _ hc⟩
theorem heap_set {W : World} {k : Nat} {x : Value} {T : TypeId} (h : W.heap[k]? = some (.cells #[x] T (0, 0))) (v : Value) : (W.setCell ⟨k, 0, none⟩ v).heap[k]? = some (.cells #[v] T (0, 0)) := by
  simp [World.setCell, Array.getElem?_modify, h]
theorem heap_set_other {W : World} {k j : Nat} (h : j ≠ k) (v : Value) : (W.setCell ⟨k, 0, none⟩ v).heap[j]? = W.heap[j]? := by
  simp [World.setCell, Array.getElem?_modify]
  intro e; exact absurd e.symm h
set_option maxRecDepth 100000 in
set_option maxHeartbeats 1000000 in
theorem runs_told (n : Nat) (hn : 4 ≤ n) (bs : Nat) (s : ByteArray) (hwave : s.data.toList.all lvlB = true) (hsz : s.size ≤ 4096) (w : World) (hbs : bs < w.heap.size) (hc : w.heap[bs]? = some (.cells #[.string s] 9 (0, 0))) :
    TellsP 4 (fun V => V.heap[bs]? = some (.cells #[.string s] 9 (0, 0))) Fence.wide n Tryd.prog 68 #[.pointer (some ⟨bs, 0, none⟩)] (fun x : Int × Int => #[Value.int .i32 x.1, .int .i64 x.2]) (runsL s) w := by
  intro l J W hbW hJ hJZ hY h0
  have hcs : W.heap[bs]? = some (.cells #[.string s] 9 (0, 0)) := (hbW.block bs hbs).trans hc
  have hcc : W.cell? ⟨bs, 0, none⟩ = some (.string s) := by rw [show W.cell? ⟨bs, 0, none⟩ = _ from Lib.cell_of_heap hcs 0]; rfl
  have hbs2 : bs < W.heap.size := Nat.lt_of_lt_of_le hbs hbW.size
  have hcc3 : (((W.alloc (.cells #[.func (.yield l) #[] #[]] TYl)).alloc (.cells #[.int .i64 0] 2)).alloc (.cells #[.int .i32 48] 21)).cell? ⟨bs, 0, none⟩ = some (.string s) :=
    ((((Below.refl W.heap.size W).alloc (Nat.le_refl _) (.cells #[.func (.yield l) #[] #[]] TYl)).alloc (by simp) (.cells #[.int .i64 0] 2)).alloc (by simp; omega) (.cells #[.int .i32 48] 21)).cell (p := ⟨bs, 0, none⟩) hbs2 |>.trans hcc
  have HY := Lib.hid hY
  have HJ := Lib.hid hJ
  have HALL := Lib.hid hwave
  have HJZ := Lib.hid hJZ
  clear hY hJ hJZ hc hbW hwave
  have h1 : 1 ≤ n := by omega
  refine callsIn_of_wp_marks Tryd.func68 rfl trivial ?_ rfl
  simp only [Tryd.ntmps68, List.size_toArray, List.length_cons, List.length_nil, Nat.reduceAdd, Nat.reduceSub, Array.replicate_succ, Array.replicate_zero, List.push_toArray, List.append_toArray, List.nil_append, List.cons_append]
  gi_wp2_with fail
  refine ⟨trivial, ?_⟩
  refine (edgesOf_told (n - 1) s _).mono ?_
  rintro e w2 ⟨rfl, rfl⟩
  gi_wp2_with fail
  obtain ⟨o1, ho1⟩ : ∃ o, (Obj.cells #[.func (.yield l) #[] #[]] TYl (0, 0)) = o := ⟨_, rfl⟩
  obtain ⟨W0, hW0⟩ : ∃ W0, (((W.alloc (.cells #[.func (.yield l) #[] #[]] TYl)).alloc (.cells #[.int .i64 0] 2)).alloc (.cells #[.int .i32 48] 21)).alloc (.cells #[.string s] 9) = W0 := ⟨_, rfl⟩
  have hW0s : W0.heap.size = W.heap.size + 4 := by rw [← hW0]; simp
  have q0 : W0.heap[bs]? = some (.cells #[.string s] 9 (0, 0)) := by
    rw [← hW0]
    exact (Below.heap_alloc _ _ _ (by first | (simp; done) | (simp; omega))).trans ((Below.heap_alloc _ _ _ (by first | (simp; done) | (simp; omega))).trans ((Below.heap_alloc _ _ _ (by first | (simp; done) | (simp; omega))).trans ((Below.heap_alloc _ _ _ (by omega)).trans hcs)))
  have q1 : W0.heap[W.heap.size]? = some (.cells #[.func (.yield l) #[] #[]] TYl (0, 0)) := by
    rw [← hW0]
    exact (Below.heap_alloc _ _ _ (by first | (simp; done) | (simp; omega))).trans ((Below.heap_alloc _ _ _ (by first | (simp; done) | (simp; omega))).trans ((Below.heap_alloc _ _ _ (by first | (simp; done) | (simp; omega))).trans (heap_alloc_last W _)))
  have q2 : W0.heap[W.heap.size + 1]? = some (.cells #[.int .i64 0] 2 (0, 0)) := by
    rw [← hW0]
    refine (Below.heap_alloc _ _ _ (by first | (simp; done) | (simp; omega))).trans ((Below.heap_alloc _ _ _ (by first | (simp; done) | (simp; omega))).trans ?_)
    have := heap_alloc_last (W.alloc (.cells #[.func (.yield l) #[] #[]] TYl)) (.cells #[.int .i64 0] 2)
    rwa [World.size_alloc] at this
  have q3 : W0.heap[W.heap.size + 1 + 1]? = some (.cells #[.int .i32 48] 21 (0, 0)) := by
    rw [← hW0]
    refine (Below.heap_alloc _ _ _ (by first | (simp; done) | (simp; omega))).trans ?_
    have := heap_alloc_last ((W.alloc (.cells #[.func (.yield l) #[] #[]] TYl)).alloc (.cells #[.int .i64 0] 2)) (.cells #[.int .i32 48] 21)
    rwa [World.size_alloc, World.size_alloc] at this
  have q4 : W0.cell? ⟨W.heap.size + 1 + 1 + 1, 0, none⟩ = some (.string s) := by
    rw [← hW0]
    have := heap_alloc_last (((W.alloc (.cells #[.func (.yield l) #[] #[]] TYl)).alloc (.cells #[.int .i64 0] 2)).alloc (.cells #[.int .i32 48] 21)) (.cells #[.string s] 9)
    rw [World.size_alloc, World.size_alloc, World.size_alloc] at this
    rw [show World.cell? _ ⟨W.heap.size + 1 + 1 + 1, 0, none⟩ = _ from Lib.cell_of_heap this 0]; rfl
  have hJ0 : J [] W0 := by
    rw [← hW0]
    exact HJ.out.alloc _ (HJ.out.alloc _ (HJ.out.alloc _ (HJ.out.alloc _ h0)))
  have HJ0 := Lib.hid hJ0
  rw [hW0]
  clear hW0 h0 hcs hcc hcc3 hJ0
  have hW0b : W.heap.size + 2 < W0.heap.size := by omega
  have hbW0 : bs < W0.heap.size := by omega
  refine loop_told rfl h1 (gf := 82) (lb := #[.pointer (some ⟨W.heap.size + 1 + 1 + 1, 0, none⟩)]) rfl trivial (enters_of Tryd.func82 (by kernel_rfl) rfl) (chgsL s.data.toList s.size)
    (edges_told (n - 1) (by omega) (W.heap.size + 1 + 1 + 1) s HALL.out W0 (by omega) q4) (fun _ => rfl) (RunI J W.heap.size l s) (RunI.own HJ.out (by omega) hW0b)
    ⟨HJ0.out, q1, q2, q3, by omega, by simp [runsF], by simp [runsF]⟩
    (fun x => { tmps := #[.func (.yield l) #[] #[], .pointer (some ⟨bs, 0, none⟩), .pointer (some ⟨W.heap.size, 0, none⟩), .pointer (some ⟨W.heap.size + 1, 0, none⟩), .pointer (some ⟨W.heap.size + 1 + 1, 0, none⟩), .int .i64 x.1, .int .i32 x.2, undef, .string s, .func (.func 82) #[] #[.pointer (some ⟨W.heap.size + 1 + 1 + 1, 0, none⟩)], .int .i64 x.1, .int .i32 x.2, undef, undef, undef, undef, undef, undef, undef, undef, undef, undef, undef, undef, undef, undef, undef, undef, undef, undef, undef, undef, undef, undef, undef, undef, undef], defers := [] }) ?assign ?body ?done
  case assign =>
    intro l x W K hK
    gi_wp2
    exact hK
  case body =>
    rintro l2 pre ⟨a, c⟩ post Wr hpx ⟨hj, r1, r2, r3, r4, hs0, hs1⟩
    have HN := Lib.hid (runs_next s pre post (a, c) hpx)
    have HSN := Lib.hid (runsF_snoc pre (a, c))
    obtain ⟨ha0, ha1⟩ : 0 ≤ a ∧ a ≤ (s.size : Int) := by
      obtain ⟨k, hk, hx, -, -⟩ := chgsL_split _ _ _ _ _ hpx
      obtain ⟨e1, e2⟩ := Prod.mk.inj hx
      omega
    clear hpx
    obtain ⟨⟨Y, st, lv⟩, hf⟩ : ∃ z, runsF pre = z := ⟨_, rfl⟩
    rw [hf] at HN HSN hj r2 r3 hs0 hs1
    dsimp only at HN hj r2 r3 hs0 hs1
    have HF := Lib.hid hf
    clear hf
    have c1 : Wr.cell? ⟨W.heap.size, 0, none⟩ = some (.func (.yield l) #[] #[]) := by rw [show Wr.cell? ⟨W.heap.size, 0, none⟩ = _ from Lib.cell_of_heap r1 0]; rfl
    have c2 : Wr.cell? ⟨W.heap.size + 1, 0, none⟩ = some (.int .i64 st) := by rw [show Wr.cell? ⟨W.heap.size + 1, 0, none⟩ = _ from Lib.cell_of_heap r2 0]; rfl
    have c3 : Wr.cell? ⟨W.heap.size + 1 + 1, 0, none⟩ = some (.int .i32 lv) := by rw [show Wr.cell? ⟨W.heap.size + 1 + 1, 0, none⟩ = _ from Lib.cell_of_heap r3 0]; rfl
    have f2 : Wr.frozen? ⟨W.heap.size + 1, 0, none⟩ = false := Lib.frozen_of_heap r2 0
    have f3 : Wr.frozen? ⟨W.heap.size + 1 + 1, 0, none⟩ = false := Lib.frozen_of_heap r3 0
    have wr : IntKind.i64.wrap (a - st) = a - st := IntWalk.i64_in _ (by omega)
    -- what the two stores leave
    have FIN : Hid (∀ w5, J (if st < a then Y ++ [(lv, a - st)] else Y) w5 → KeepsAt W.heap.size 4 Wr w5 → toldPost W0.heap.size (RunI J W.heap.size l s) (pre ++ [(a, c)]) Wr .normal { tmps := #[], defers := [] } ((w5.setCell ⟨W.heap.size + 1, 0, none⟩ (.int .i64 a)).setCell ⟨W.heap.size + 1 + 1, 0, none⟩ (.int .i32 c))) := by
      intro w5 hJ5 hk5
      have s1 := hk5.same _ _ r1 (hisAt_in _ (by omega) (by omega))
      have s2 := hk5.same _ _ r2 (hisAt_in _ (by omega) (by omega))
      have s3 := hk5.same _ _ r3 (hisAt_in _ (by omega) (by omega))
      have s3' : (w5.setCell ⟨W.heap.size + 1, 0, none⟩ (.int .i64 a)).heap[W.heap.size + 1 + 1]? = _ := (heap_set_other (by omega) _).trans s3
      have hK := (KeepsOthers.setCell w5 ⟨W.heap.size + 1, 0, none⟩ (.int .i64 a)).trans (KeepsOthers.setCell _ ⟨W.heap.size + 1 + 1, 0, none⟩ (.int .i32 c))
      refine ⟨(hk5.from _).trans (hK.from _), hk5.walks.trans hK.walks, ?_⟩
      unfold RunI
      rw [HSN.out]
      refine ⟨?_, ?_, ?_, ?_, ?_, ha0, ha1⟩
      · refine HJ.out _ _ _ (some (W.heap.size + 1 + 1)) (HJ.out _ _ _ (some (W.heap.size + 1)) (by simpa [runStep] using hJ5) (grownBy_setCell' _ _ _) (fun r e => by cases e; exact ⟨by omega, _, s2, hisAt_in _ (by omega) (by omega)⟩)) (grownBy_setCell' _ _ _) (fun r e => by cases e; exact ⟨by omega, _, s3', hisAt_in _ (by omega) (by omega)⟩)
      · exact ((heap_set_other (by omega) _).trans (heap_set_other (by omega) _)).trans s1
      · exact (heap_set_other (by omega) _).trans (heap_set s2 _)
      · exact heap_set s3' _
      · have := hk5.size; simp; omega
    by_cases hlt : st < a
    · have hd : decide (st < a) = true := decide_eq_true hlt
      obtain ⟨more, hmore⟩ := HN.out hlt
      obtain ⟨fn, tmps, assign, body, hy, hR⟩ := HY.out Y (lv, a - st) more Wr hmore r4 hj
      have HR := Lib.hid hR
      have HKS := Lib.hid (fun w5 (hk5 : KeepsAt W.heap.size 4 Wr w5) => And.intro (hk5.same _ _ r2 (hisAt_in _ (by omega) (by omega))) (hk5.same _ _ r3 (hisAt_in _ (by omega) (by omega))))
      clear hmore hR HN r1 r2 r3 r4
      dsimp only at hy
      gi_wp2
      refine ⟨fun _ => by omega, ?_⟩
      refine (round_any HR.out).mono ?_
      rintro e w5 ⟨rfl, hJ5, hk5⟩
      obtain ⟨s2, s3⟩ := HKS.out w5 hk5
      have hfin := FIN.out w5 (by rw [if_pos hlt]; exact hJ5) hk5
      have HFN := Lib.hid hfin
      have d2 : w5.frozen? ⟨W.heap.size + 1, 0, none⟩ = false := Lib.frozen_of_heap s2 0
      have d3 : w5.frozen? ⟨W.heap.size + 1 + 1, 0, none⟩ = false := Lib.frozen_of_heap s3 0
      have k2 : w5.cell? ⟨W.heap.size + 1, 0, none⟩ = some (.int .i64 st) := by rw [show w5.cell? ⟨W.heap.size + 1, 0, none⟩ = _ from Lib.cell_of_heap s2 0]; rfl
      have k3 : w5.cell? ⟨W.heap.size + 1 + 1, 0, none⟩ = some (.int .i32 lv) := by rw [show w5.cell? ⟨W.heap.size + 1 + 1, 0, none⟩ = _ from Lib.cell_of_heap s3 0]; rfl
      clear hfin hk5 hJ5 s2 s3 FIN HR HKS
      gi_wp2
      exact HFN.out
    · have hd : decide (st < a) = false := decide_eq_false hlt
      have HFN := Lib.hid (FIN.out Wr (by rw [if_neg hlt]; exact hj) (KeepsAt.refl _ _ _))
      clear HN FIN r1 r2 r3 r4
      gi_wp2
      refine ⟨fun _ h => (by cases h), ?_⟩
      gi_wp2
      exact HFN.out
  case done =>
    rintro D Wd hD ⟨hj, r1, r2, r3, r4, hs0, hs1⟩ hK
    obtain ⟨z, hz⟩ : ∃ z, runsF (chgsL s.data.toList s.size) = z := ⟨_, rfl⟩
    have hrl : runsL s = if z.2.1 < (s.size : Int) then z.1 ++ [(z.2.2, (s.size : Int) - z.2.1)] else z.1 := by unfold runsL; rw [hz]
    rw [hz] at hj r2 r3 hs0 hs1
    obtain ⟨Y, st, lv⟩ := z
    dsimp only at hrl hj r2 r3 hs0 hs1
    have HRL := Lib.hid hrl
    clear hrl hz
    have c1 : Wd.cell? ⟨W.heap.size, 0, none⟩ = some (.func (.yield l) #[] #[]) := by rw [show Wd.cell? ⟨W.heap.size, 0, none⟩ = _ from Lib.cell_of_heap r1 0]; rfl
    have c2 : Wd.cell? ⟨W.heap.size + 1, 0, none⟩ = some (.int .i64 st) := by rw [show Wd.cell? ⟨W.heap.size + 1, 0, none⟩ = _ from Lib.cell_of_heap r2 0]; rfl
    have c3 : Wd.cell? ⟨W.heap.size + 1 + 1, 0, none⟩ = some (.int .i32 lv) := by rw [show Wd.cell? ⟨W.heap.size + 1 + 1, 0, none⟩ = _ from Lib.cell_of_heap r3 0]; rfl
    have c4 : Wd.cell? ⟨bs, 0, none⟩ = some (.string s) := by rw [show Wd.cell? ⟨bs, 0, none⟩ = _ from Lib.cell_of_heap (HJZ.out _ _ hj) 0]; rfl
    have wr : IntKind.i64.wrap ((s.size : Int) - st) = (s.size : Int) - st := IntWalk.i64_in _ (by omega)
    clear r1 r2 r3
    by_cases hlt : st < (s.size : Int)
    · have hd : decide (st < (s.size : Int)) = true := decide_eq_true hlt
      obtain ⟨fn, tmps, assign, body, hy, hR⟩ := HY.out Y (lv, (s.size : Int) - st) [] Wd (by rw [HRL.out, if_pos hlt]) r4 hj
      have HR := Lib.hid hR
      clear hR
      dsimp only at hy
      gi_wp2
      refine (round_wide HR.out).mono ?_
      rintro e w5 ⟨rfl, hJ5, hk5⟩
      have hK5 := hk5.same _ _ hK (hisAt_nc _ _ _ rfl)
      have HJ5 := Lib.hid hJ5
      clear hk5 hJ5 HR hK
      gi_wp2
      refine ⟨by simp, .inl ⟨_, _, rfl, run_takeDeferred hK5, ?_⟩⟩
      refine ⟨_, by simp [results, Tryd.f68, go_sem]; rfl, ⟨_, rfl⟩, ?_⟩
      rw [HRL.out, if_pos hlt]
      exact HJ.out.putObj _ HJ5.out (by omega) hK5 (hisAt_nc _ _ _ rfl)
    · have hd : decide (st < (s.size : Int)) = false := decide_eq_false hlt
      gi_wp2
      refine ⟨by simp, .inl ⟨_, _, rfl, run_takeDeferred hK, ?_⟩⟩
      refine ⟨_, by simp [results, Tryd.f68, go_sem]; rfl, ⟨_, rfl⟩, ?_⟩
      rw [HRL.out, if_neg (by omega)]
      exact HJ.out.putObj _ hj (by omega) hK (hisAt_nc _ _ _ rfl)
end Go.Proofs.YtemjohkieehojaaDoor
