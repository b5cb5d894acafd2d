/- A diagram out of a text: the model's side. -/
import Derived.Test.YtemjohkieehojaaDoorRdC
import Derived.Test.YtemjohkieehojaaDoorCutG
import Derived.Test.YtemjohkieehojaaDoorReadSpec
import Derived.Test.YtemjohkieehojaaDoorDiaIs
import Derived.Deep.RegionHeld3
namespace Go.Proofs.YtemjohkieehojaaDoor
open Go.RowKit
set_option linter.unusedVariables false
set_option linter.unusedSimpArgs false
theorem number_any (p : ByteArray) (w : World) (hs : p.size ≤ 1048576) :
    Calls Tryd.prog 30 #[.string p] w fun e w' => e = .returned (.int .i64 (nm p.data.toList)) ∧ Below w.heap.size w w' := by
  have HV := Lib.hid (l01Value_any p w hs)
  cases hrd : rd 1000000000000000 p.data.toList with
  | none =>
    have HN : Hid (nm p.data.toList = -1000000) := by rw [Hid]; unfold nm; rw [show rd BigV p.data.toList = none from hrd]; rfl
    rw [hrd] at HV
    clear hrd
    go_enter Tryd.func30, Tryd.ntmps30
    go_wp2_with fail
    refine HV.out.mono ?_; rintro e w1 ⟨rfl, hb⟩
    have HB := Lib.hid hb
    clear hb
    go_wp2
    go_ret
    exact ⟨by first | (rw [HN.out]; done) | (rw [HN.out]; rfl), HB.out⟩
  | some x =>
    have HN : Hid (nm p.data.toList = x) := by rw [Hid]; unfold nm; rw [show rd BigV p.data.toList = some x from hrd]; rfl
    rw [hrd] at HV
    clear hrd
    go_enter Tryd.func30, Tryd.ntmps30
    go_wp2_with fail
    refine HV.out.mono ?_; rintro e w1 ⟨rfl, hb⟩
    have HB := Lib.hid hb
    clear hb
    go_wp2
    go_ret
    exact ⟨by rw [HN.out]; rfl, HB.out⟩
/-- a diagram at its block -/
def D2 (w : World) (p : Nat) (a b : Value) : Prop := w.heap[p]? = some (.cells #[a, b] 32 (0, 0))
theorem D2.at2 {w : World} {p : Nat} {a b : Value} (h : D2 w p a b) : At2 w p a b := by
  unfold D2 at h
  exact ⟨by simp [World.cell?, h], by simp [World.cell?, h], Lib.frozen_of_heap h 0, Lib.frozen_of_heap h 1⟩
theorem D2.lt {w : World} {p : Nat} {a b : Value} (h : D2 w p a b) : p < w.heap.size := (Array.getElem?_eq_some_iff.1 h).1
theorem D2.below {w w' : World} {p : Nat} {a b : Value} (h : D2 w p a b) (hb : Below w.heap.size w w') : D2 w' p a b := (hb.block p h.lt).trans h
theorem D2.alloc {w : World} {p : Nat} {a b : Value} (h : D2 w p a b) (o : Obj) : D2 (w.alloc o) p a b := (Below.heap_alloc w o p h.lt).trans h
theorem D2.grown {w w' : World} {p : Nat} {a b : Value} {row : Option Nat} (h : D2 w p a b) (hg : w.grownBy w' row) (hne : some p ≠ row) : D2 w' p a b := (hg.block p h.lt hne).trans h
theorem D2.set1 {w : World} {p : Nat} {a b : Value} (v : Value) (h : D2 w p a b) : D2 (w.setCell ⟨p, 1, none⟩ v) p a v := by
  unfold D2 at h ⊢; simp [World.setCell, Array.getElem?_modify, h]
theorem D2.ne_row {w : World} {p B n : Nat} {a b v : Value} {F : List Int} (h : D2 w p a b) (hr : Recs w B v n F) : some p ≠ v.ownBlock := by
  rcases hr.2.2 with ⟨rfl, _⟩ | ⟨g, cap, cur, rfl, _, hgb, _⟩
  · simp [Value.ownBlock]
  · intro e
    obtain rfl : p = g := by simpa [Value.ownBlock] using e
    have := (show w.heap[p]? = _ from h).symm.trans hgb
    simp at this
/-- an append to a slice of the call's own, as a step of a region that draws its order -/
theorem step_append_ownD {P : Program} (w : World) {ops : Array Oper} {o : Oper} {a : Act} {K : Act → World → Prop} {Q : Exit → Act → World → Prop} {E : Prop} (hgd : o.guard = none) (s x : Operand) (t : TypeId)
    (ho : o.op = .call { callee := .builtin .append, args := #[s, x], argTypes := #[t, t] })
    (base : Nat) (e : TypeId) (i : TypeInfo) (z : Value) (size bytes : Nat) (ht : P.underlying t = some (.slice e)) (hi : P.info? e = some i) (hz : i.zero = some z)
    (hsize : i.size = size) (hby : i.bytes = bytes) (hzs : z.cells.size = size) (hsz : 0 < size)
    (v : Value) (n : Nat) (xs : List Value) (hs : a.eval s = v) (hown : w.ownsRow base e size v n xs)
    (ad : Addr) (m c : Nat) (news : List Value) (hx : a.eval x = .slice (some ad) m c) (hl : news.length = m * size) (hnews : ∀ j u, news[j]? = some u → w.cell? (ad.add j) = some u) (h1 : ∀ u ∈ news, u.oneCell' = true)
    (h63 : n + m ≤ maxLen) (hbytes : (n + m) * bytes ≤ 140737488355328) (hbase : base ≤ w.heap.size)
    (h : ∀ v' w', w'.ownsRow base e size v' (n + m) (xs ++ news) → w.grownBy w' v.ownBlock → K (a.put o.dst v') w') :
    if Region.wanted o (yielded ops a.tmps) = true then Oper.wp P o a w K Q else E := by
  have hw : Region.wanted o (yielded ops a.tmps) = true := by simp [Region.wanted, hgd]
  rw [if_pos hw]
  exact wp_append_own w s x t ho base e i z size bytes ht hi hz hsize hby hzs hsz v n xs hs hown ad m c news hx hl hnews h1 h63 hbytes hbase fun v' w' a1 a2 _ => h v' w' a1 a2
theorem cell_drS {W : World} {a : Addr} {v : Value} (h : W.cell? a = some v) : W.drew.cell? a = some v := h
theorem cell_setS {W : World} {p a : Addr} {v u : Value} (hne : p.block ≠ a.block) (h : W.cell? a = some v) : (W.setCell p u).cell? a = some v :=
  (World.cell?_setCell_far W p a u hne).trans h
theorem cell_allocS {W : World} {a : Addr} {v : Value} {o : Obj} (h : W.cell? a = some v) : (W.alloc o).cell? a = some v :=
  (World.cell?_of_block (Below.heap_alloc W o _ (World.block_lt_of_cell? W a h))).trans h
theorem recs_setN {w : World} {B n g : Nat} {v : Value} {F : List Int} (h : Recs w B v n F) (hne : some g ≠ v.ownBlock) (i : Nat) (x : Value) : Recs (w.setCell ⟨g, i, none⟩ x) B v n F := by
  refine ⟨h.1, World.ownsRow.kept h.2 (row := some g) ⟨rfl, rfl, rfl, by simp, fun k _ hk => Below.heap_setCell _ _ _ k (fun e => hk (by rw [e]))⟩ ?_⟩
  cases q : v.ownBlock with
  | none => exact .inl rfl
  | some b => exact .inr (fun e => hne (by rw [q]; exact e.symm))
theorem cell_keptS {w w' : World} {a : Addr} {v : Value} (b : Below w.heap.size w w') (h : w.cell? a = some v) : w'.cell? a = some v :=
  (b.cell (World.block_lt_of_cell? w _ h)).trans h
theorem cell_threeS (w : World) (x y z : Value) (t : TypeId) : ∀ (j : Nat) u, [x, y, z][j]? = some u → (w.alloc (.cells #[x, y, z] t)).cell? ((⟨w.heap.size, 0, none⟩ : Addr).add j) = some u := by
  intro j u h
  match j with
  | 0 => simp at h; subst h; simp [Addr.add, go_sem]
  | 1 => simp at h; subst h; simp [Addr.add, go_sem]
  | 2 => simp at h; subst h; simp [Addr.add, go_sem]
  | j + 3 => simp at h
/-- what the region keeps from call to call -/
structure RgS (w w1 w2 : World) (gp gl : Nat) (ev vs X Y Z : Value) (k : Nat) (FL : List Int) (vr : Value) (W : World) : Prop where
  d : D2 W (w2.heap.size + 1) ev vs
  c : Recs W w2.heap.size vr k FL
  b : Below w.heap.size w W
  r : At2 W w.heap.size (.int .i64 0) (.slice none 0 0)
  t : W.heap[gp]? = w1.heap[gp]?
  s : w2.heap.size + 2 ≤ W.heap.size
  l : W.cell? ⟨gl, 0, none⟩ = some X ∧ W.cell? ⟨gl, 1, none⟩ = some Y ∧ W.cell? ⟨gl, 2, none⟩ = some Z
theorem RgS.call {w w1 w2 W W' : World} {gp gl k : Nat} {ev vs vr X Y Z : Value} {FL : List Int} (h : RgS w w1 w2 gp gl ev vs X Y Z k FL vr W) (hg : gp < w2.heap.size) (hb : Below W.heap.size W W') : RgS w w1 w2 gp gl ev vs X Y Z k FL vr W' :=
  ⟨h.d.below hb, h.c.keep hb (Nat.le_refl _), h.b.trans (hb.mono h.b.size), h.r.below hb h.r.lt, (hb.block _ (by have := h.s; omega)).trans h.t, Nat.le_trans h.s hb.size, cell_keptS hb h.l.1, cell_keptS hb h.l.2.1, cell_keptS hb h.l.2.2⟩
theorem RgS.dr {w w1 w2 W : World} {gp gl k : Nat} {ev vs vr X Y Z : Value} {FL : List Int} (h : RgS w w1 w2 gp gl ev vs X Y Z k FL vr W) : RgS w w1 w2 gp gl ev vs X Y Z k FL vr W.drew :=
  ⟨h.d, h.c, ⟨h.b.os, h.b.tape, h.b.output, h.b.size, h.b.block⟩, h.r, h.t, h.s, h.l⟩
theorem RgS.app {w w1 w2 W w8 : World} {gp gl k : Nat} {ev X Y Z : Value} {va : Option Addr} {vc : Nat} {FL : List Int} {x y z : Int} {v8 : Value} {O : Obj} (h : RgS w w1 w2 gp gl ev (.slice va k vc) X Y Z k FL (.slice va k vc) W) (hw : w.heap.size ≤ w2.heap.size) (hg : gp < w2.heap.size) (hl : FL.length = k * 3) (hne : ∀ q, (Value.slice va k vc).ownBlock = some q → gl ≠ q ∧ gp ≠ q ∧ w.heap.size < q)
    (hown : w8.ownsRow w2.heap.size 60 3 v8 (k + 1) (FL.map (Value.int .i64) ++ [.int .i64 x, .int .i64 y, .int .i64 z])) (hgrow : (W.alloc O).grownBy w8 (Value.slice va k vc).ownBlock) :
    RgS w w1 w2 gp gl ev (.slice va k vc) X Y Z (k + 1) (FL ++ [x, y, z]) v8 w8 := by
  have hz := hgrow.size
  rw [World.size_alloc] at hz
  have hs := h.s
  have hc : ∀ i u, W.cell? ⟨gl, i, none⟩ = some u → w8.cell? ⟨gl, i, none⟩ = some u := fun i u hu => by
    have hlt := World.block_lt_of_cell? W _ hu
    refine (World.cell?_of_block (a := ⟨gl, i, none⟩) ((hgrow.block gl (by rw [World.size_alloc]; exact Nat.lt_succ_of_lt hlt) (fun e => (hne _ e.symm).1 rfl)).trans (Below.heap_alloc W O gl hlt))).trans hu
  refine ⟨(h.d.alloc O).grown hgrow (D2.ne_row (h.d.alloc O) ⟨h.c.1, World.ownsRow.alloc h.c.2 O⟩), ⟨by rw [List.length_append, hl]; simp; omega, by rw [List.map_append]; exact hown⟩, (h.b.alloc h.b.size O).grown hgrow (by rw [World.size_alloc]; have := h.b.size; omega) (fun q e => Nat.le_of_lt (hne q e).2.2), (h.r.alloc O).grown hgrow (fun e => by have := (hne _ e.symm).2.2; omega), ?_, by omega, hc 0 _ h.l.1, hc 1 _ h.l.2.1, hc 2 _ h.l.2.2⟩
  exact (hgrow.block gp (by rw [World.size_alloc]; omega) (fun e => (hne _ e.symm).2.1 rfl)).trans ((Below.heap_alloc W O gp (by omega)).trans h.t)
def lenOf : Value → Nat
  | .slice _ n _ => n
  | _ => 0
theorem pad_get (Q : List (List UInt8)) (j k : Nat) (hk : k < (Q ++ List.replicate j []).length) : (Q ++ List.replicate j [])[k] = Q.getD k [] := by
  by_cases h : k < Q.length
  · rw [List.getElem_append_left h, List.getD_eq_getElem?_getD, List.getElem?_eq_getElem h]; rfl
  · rw [List.getElem_append_right (by omega), List.getElem_replicate, List.getD_eq_getElem?_getD, List.getElem?_eq_none (by omega)]; rfl
theorem t3_next (r : List (List UInt8)) (k : Nat) (h : k < r.length) : fl3 ((r.take (k + 1)).map t3) = fl3 ((r.take k).map t3) ++ [(t3 r[k]).1, (t3 r[k]).2.1, (t3 r[k]).2.2] := by
  rw [List.take_succ_eq_append_getElem h, List.map_append, List.map_singleton, fl3_snoc]
theorem dgA_md {T h : List UInt8} {r : List (List UInt8)} (hp : pcs 44 T = h :: r) : (T.length ≤ 500 ∧ diaB (nm h) r.length (fl3 (r.map t3)) = true ∧ dtL (nm h) (fl3 (r.map t3)) r.length = T → dgA T = some (nm h, r.map t3)) ∧ (¬ (T.length ≤ 500 ∧ diaB (nm h) r.length (fl3 (r.map t3)) = true ∧ dtL (nm h) (fl3 (r.map t3)) r.length = T) → dgA T = none) := by
  have hm : dgA T = if dgC h r then some ((rd BigV h).getD 0, r.map d3) else none := by unfold dgA; rw [hp]
  constructor
  · rintro ⟨-, h1, h2⟩
    have hc := (dg_md hp).1 ⟨h1, h2⟩
    rw [hm, if_pos hc]
    obtain ⟨e, he⟩ := Option.isSome_iff_exists.1 hc.1
    have hn : nm h = e := by unfold nm; rw [he]; rfl
    have hmm : r.map t3 = r.map d3 := List.map_congr_left (fun p hpr => by
      obtain ⟨t, ht⟩ := Option.isSome_iff_exists.1 (hc.2.1 p hpr)
      obtain ⟨a1, a2, -⟩ := dotO_some ht
      rw [a1, a2])
    rw [hn, hmm, he]; rfl
  · intro hno
    rw [hm, if_neg]
    intro hc
    obtain ⟨h1, h2⟩ := (dg_md hp).2 hc
    exact hno ⟨dg_len hp hc, h1, h2⟩
set_option maxHeartbeats 2000000 in
set_option maxRecDepth 100000 in
theorem specRd_big (s : ByteArray) (w : World) (hs : 500 < s.size) (hs2 : s.size ≤ 1048576) : Calls Tryd.prog 13 #[.string s] w (RdR s w) := by
  have HNO : Hid (dgA s.data.toList = none) := by
    rw [Hid]
    cases hp : pcs 44 s.data.toList with
    | nil => exact absurd hp (pcs_ne 44 _)
    | cons h r => exact (dgA_md hp).2 (fun q => by have := q.1; rw [size_toList] at this; omega)
  have t1 : (500 : Int) < (s.size : Int) := by omega
  go_enter Tryd.func13, Tryd.ntmps13
  go_wp2
  refine bodyPost_ret (v := .tuple #[.agg #[.int .i64 0, .slice none 0 0], .bool false]) (by simp [results, Tryd.results13, go_sem]) rfl ⟨none, 0, ?_, ?_, ?_⟩
  · unfold ansE ansL; rw [HNO.out]; rfl
  · unfold ansL; rw [HNO.out]; exact ⟨rfl, World.ownsRow_nil _ _ _ _⟩
  · first | exact (((Below.refl _ _).alloc (Nat.le_refl _) _).setCell (Nat.le_refl _) _).setCell (Nat.le_refl _) _ | exact (Below.refl _ _).alloc (Nat.le_refl _) _
end Go.Proofs.YtemjohkieehojaaDoor
