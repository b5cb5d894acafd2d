/- A flow with moved registers, on the model's side. -/
import Derived.Test.YtlobloaabghceaaMoveM
import Derived.Test.YtlobloaabghceaaRegs
import Derived.Test.YtlobloaabghceaaOwn
import Derived.Deep.RegionHeld3
import Derived.Laws.AppendOwn
namespace Go.Proofs.Ytlobloaabghceaa
open Go.RowKit Go.Shelf
set_option linter.unusedVariables false
set_option linter.unusedSimpArgs false

/-- the flow that is built: its cell, and the wires so far -/
structure MvO (po B : Nat) (vd vw : Value) (k : Nat) (L : List Int) (W : World) : Prop where
  p : At2 W po vd vw
  r : Recs W B vw k L
  ne : vw.ownBlock ≠ some po
theorem MvO.alloc {po B k : Nat} {vd vw : Value} {L : List Int} {W : World} (h : MvO po B vd vw k L W) (o : Obj) : MvO po B vd vw k L (W.alloc o) := ⟨h.p.alloc o, ⟨h.r.1, World.ownsRow.alloc h.r.2 o⟩, h.ne⟩
theorem below_dN (w : World) (n : Nat) : Below w.heap.size w (w.drewN n) := ⟨rfl, rfl, rfl, Nat.le_refl _, fun _ _ => rfl⟩
theorem MvO.drewN {po B k : Nat} {vd vw : Value} {L : List Int} {W : World} (h : MvO po B vd vw k L W) (n : Nat) : MvO po B vd vw k L (W.drewN n) := ⟨h.p.drewN n, h.r.keep (below_dN W n) (Nat.le_refl _), h.ne⟩
theorem MvO.push {po B k : Nat} {vd vw v' : Value} {L : List Int} {W w7 : World} {x y z : Int} (h : MvO po B vd vw k L W) (hg : W.grownBy w7 vw.ownBlock)
    (ho : w7.ownsRow B 62 3 v' (k + 1) (L.map (Value.int .i64) ++ [.int .i64 x, .int .i64 y, .int .i64 z])) (hat : v'.ownBlock = vw.ownBlock ∨ v'.ownBlock = some W.heap.size) :
    MvO po B vd v' (k + 1) (L ++ [x, y, z]) (w7.setCell ⟨po, 1, none⟩ v') := by
  have hr : Recs w7 B v' (k + 1) (L ++ [x, y, z]) := ⟨by rw [List.length_append, h.r.1]; simp; omega, by rw [List.map_append]; exact ho⟩
  have hne : v'.ownBlock ≠ some po := by
    rcases hat with e | e
    · rw [e]; exact h.ne
    · rw [e]; intro e2; injection e2 with e3; have := h.p.lt; omega
  refine ⟨(h.p.grown hg (fun e => h.ne e.symm)).set1 _, ?_, hne⟩
  obtain ⟨a, c, rfl, -, kk⟩ := hr.form
  obtain ⟨g, rfl, -⟩ := kk 0 (by rw [hr.1]; omega)
  exact hr.setNe (fun e => hne (by rw [e]; rfl)) 1 _

theorem takeL {P : Program} {md : Region.Mode} {l : List Oper} {Q : Exit → Act → World → Prop} {S : World → Prop} {i : Nat} {oi : Oper} {v : Value} {fuel : Nat} {listed : Array Bool} {a : Act} {w : World} (hi : l[i]? = some oi)
    (hs : Region.noSelect l.toArray = true) (hf : Region.free md l.toArray listed i = true) (hr : (Region.ready md l.toArray listed).contains i = true)
    (hQ : ∀ c a w, Q (.panic c) (a.put oi.dst v) w → Q (.panic c) a w) (hy : YieldsIf P l.toArray S oi v a) (hS : S w)
    (h : wpAnyH P md l.toArray Q S fuel (listed.setIfInBounds i true) (a.put oi.dst v) w) : wpAnyH P md l.toArray Q S (fuel + 1) listed a w :=
  wpAnyH_take (by simpa using hi) hs hf hr hQ hy hS h
theorem app_if {P : Program} {ops : Array Oper} {o : Oper} {a : Act} {w w' : World} {K : Act → World → Prop} {Q : Exit → Act → World → Prop} {v' v1 v2 : Value} (s x : Operand) (t : TypeId) (hgd : o.guard = none)
    (ho : o.op = .call { callee := .builtin .append, args := #[s, x], argTypes := #[t, t] }) (hs : a.eval s = v1) (hx : a.eval x = v2) (hr : (Builtin.append_ #[t, t] o.type #[v1, v2]).run P w = .ok v' w') (h : K (a.put o.dst v') w') :
    if Region.wanted o (yielded ops a.tmps) = true then Oper.wp P o a w K Q else K (a.put o.dst undef) w := by
  have hw : Region.wanted o (yielded ops a.tmps) = true := by simp only [Region.wanted, hgd]
  rw [if_pos hw]
  unfold Oper.wp execOp
  simp only [ho, resolve, invoke, builtin, Sem.run_bind, Sem.run_pure, Result.andThen_ok, List.map_toArray, List.map_cons, List.map_nil, hs, hx, hr]
  exact h
theorem cell_three_newW (w : World) (x y z : Value) (t : TypeId) : ∀ j u, [x, y, z][j]? = some u → (w.alloc (.cells #[x, y, z] t)).cell? ((⟨w.heap.size, 0, none⟩ : Addr).add j) = some u := by
  intro j u h
  rcases j with _ | _ | _ | j
  · simp at h; subst h; simp [go_sem]
  · simp at h; subst h; simp [go_sem]
  · simp at h; subst h; simp [go_sem]
  · simp at h
set_option maxHeartbeats 800000 in
set_option maxRecDepth 100000 in
theorem specMoved (p B : Nat) (da : Option Addr) (dn dc : Nat) (ds : List Int) (wa : Option Addr) (wn wc : Nat) (F : List Int) (ma : Option Addr) (mn mc : Nat) (M : List Int) (w : World) (hp : At2 w p (.slice da dn dc) (.slice wa wn wc)) (hf : Fl w B da dn dc ds wa wn wc F)
    (hm : Ints w B (.slice ma mn mc) M) (hfo : formB ds wn F = true) (hml : M.length = ds.length) (hmv : movB M = true) :
    Calls Try.prog 36 #[.pointer (some ⟨p, 0, none⟩), .slice ma mn mc] w fun e w' => ∃ va vw, e = .returned (.agg #[va, vw]) ∧ (Ints w' w.heap.size va ds ∧ Recs w' w.heap.size vw wn (mvF M F wn)) ∧ Below w.heap.size w w' := by
  obtain ⟨q1, q2, q3, -, q5⟩ := form_ok hfo
  obtain rfl := hf.n
  obtain rfl := hm.row.2.2.2
  obtain ⟨gd, hgd, -⟩ := hf.dat 0 (by omega)
  subst hgd
  obtain ⟨i0, hi, hz0, hz1, hz2⟩ := info_parts info_rec
  obtain ⟨w0, hw0⟩ : ∃ w0, w.alloc (.cells #[.slice none 0 0, .slice none 0 0] 31) = w0 := ⟨_, rfl⟩
  have hb0 : Below w.heap.size w w0 := by rw [← hw0]; exact (Below.refl _ _).alloc (Nat.le_refl _) _
  have hlt0 : w.heap.size < w0.heap.size := by rw [← hw0]; simp
  have HR0 : Hid (At2 w0 w.heap.size (.slice none 0 0) (.slice none 0 0)) := by rw [← hw0]; exact At2.new w _ _ _
  have HP := Lib.hid (hp.below hb0 hp.lt)
  have HF := Lib.hid (hf.keep hb0 (Nat.le_refl _))
  have HM := Lib.hid (hm.keep hb0 (Nat.le_refl _))
  have HB0 := Lib.hid hb0
  have HOW := Lib.hid (own_anyO gd 0 ds.length dc ds w0 rfl (by omega) (Ints.fromO HF.out.d).1)
  have HMB := Lib.hid (fun k (hk : k < M.length) => mov_at hmv k hk)
  have HQ5 := Lib.hid q5
  obtain ⟨c0, c1, -, -⟩ := HP.out
  have hpl := HP.out.lt
  clear hf hm hb0 hp q5
  go_enter Try.func36, Try.ntmps36
  go_wp2_with fail
  refine HOW.out.mono ?_; rintro e w2 ⟨vd, rfl, id2, b2⟩
  have HD2 := Lib.hid id2
  have HB2 := Lib.hid b2
  have hz02 := b2.size
  obtain ⟨ad, cd, rfl, -, -⟩ := id2.form
  clear id2 b2 hw0 c0 c1
  go_wp2
  go_loopw [6] (fun i wr => ∃ (k : Nat) (vw : Value), k ≤ wn ∧ i = .int .i64 (k : Int) ∧ Hid (MvO (w2.heap.size + 1) w2.heap.size (.slice ad ds.length cd) vw k (mvF M F k) wr) ∧ Hid (Below w2.heap.size w2 wr)) (fun i _ => wn - (intOf i).toNat)
  case atStart =>
    refine ⟨0, .slice (some ⟨w2.heap.size, 0, none⟩) 0 0, Nat.zero_le _, rfl, Lib.hid ⟨?_, ⟨rfl, ?_⟩, ?_⟩, Lib.hid (((Below.refl _ _).alloc (Nat.le_refl _) _).alloc (by simp) _)⟩
    · have h := At2.new (w2.alloc (.cells #[] 62)) (.slice ad ds.length cd) (.slice (some ⟨w2.heap.size, 0, none⟩) 0 0) 31
      simpa using h
    · exact World.ownsRow.alloc (World.ownsRow_lit w2 #[] 0 (Nat.le_refl _) (Nat.zero_le _) rfl) _
    · simp [Value.ownBlock]
  case round =>
    obtain ⟨k, vw, hk, rfl, HO, HBW⟩ := hrel
    by_cases hlt : k < wn
    · have hltI : (k : Int) < (wn : Int) := by omega
      have hszr := HBW.out.size
      have hb0r : Below w0.heap.size w0 wr := HB2.out.trans (HBW.out.mono hz02)
      obtain ⟨c0, c1, -, -⟩ := HP.out.below hb0r hpl
      obtain ⟨gw, xi, yi, z, rfl, -, hgw, ⟨e0, e1, e2⟩, x0, x1, x2⟩ := (HF.out.r.keep hb0r (Nat.le_refl _)).at k hlt
      obtain ⟨⟨r1, r2⟩, ⟨r3, r4⟩, r5, r6⟩ := HQ5.out k hlt
      rw [e0] at r1 r2
      rw [e1] at r3 r4
      rw [e2] at r5 r6
      obtain ⟨xn, rfl⟩ : ∃ xn : Nat, xi = (xn : Int) := ⟨xi.toNat, by omega⟩
      obtain ⟨yn, rfl⟩ : ∃ yn : Nat, yi = (yn : Int) := ⟨yi.toNat, by omega⟩
      have lx : xn < M.length := by omega
      have ly : yn < M.length := by omega
      obtain ⟨gm, hgm, mx⟩ := (HM.out.keep hb0r (Nat.le_refl _)).row.1 xn lx
      obtain ⟨gm2, hgm2, my⟩ := (HM.out.keep hb0r (Nat.le_refl _)).row.1 yn ly
      subst hgm
      obtain rfl : gm = gm2 := by injection hgm2 with h; injection h
      have hgm0 : gm < w2.heap.size := by
        obtain ⟨gq, hq, hcq⟩ := HM.out.row.1 xn lx
        obtain rfl : gm = gq := by injection hq with h; injection h
        exact Nat.lt_of_lt_of_le (World.block_lt_of_cell? w0 _ hcq) hz02
      obtain ⟨bx1, bx2⟩ := HMB.out xn lx
      obtain ⟨by1, by2⟩ := HMB.out yn ly
      obtain ⟨vx, hvx⟩ : ∃ v, M[xn] = v := ⟨_, rfl⟩
      obtain ⟨vy, hvy⟩ : ∃ v, M[yn] = v := ⟨_, rfl⟩
      rw [hvx] at mx bx1 bx2
      rw [hvy] at my by1 by2
      have hs1 : IntKind.i64.wrap (z + vy) = z + vy := IntWalk.i64_in _ (by omega)
      have hs2 : IntKind.i64.wrap (z + vy - vx) = z + vy - vx := IntWalk.i64_in _ (by omega)
      have HMV : Hid (mvF M F (k + 1) = mvF M F k ++ [(xn : Int), (yn : Int), z + vy - vx]) := by
        show mvF M F k ++ [_, _, mvC M F k] = _
        unfold mvC
        rw [e0, e1, e2]
        simp [List.getD_eq_getElem?_getD, lx, ly, hvx, hvy]
      obtain ⟨aw, cw, hvw, hmw, -⟩ := HO.out.r.form
      subst hvw
      obtain ⟨L, hL⟩ : ∃ L, mvF M F k = L := ⟨_, rfl⟩
      rw [hL] at HO HMV
      have HO2 := Lib.hid (HO.out.alloc (.cells #[.int .i64 (xn : Int), .int .i64 (yn : Int), .int .i64 z] 62))
      have HB2' := Lib.hid (HBW.out.alloc hszr (.cells #[.int .i64 (xn : Int), .int .i64 (yn : Int), .int .i64 z] 62))
      have m0 : (wr.alloc (.cells #[.int .i64 (xn : Int), .int .i64 (yn : Int), .int .i64 z] 62)).cell? ⟨wr.heap.size, 0, none⟩ = some (.int .i64 (xn : Int)) := by simp [go_sem]
      have m1 : (wr.alloc (.cells #[.int .i64 (xn : Int), .int .i64 (yn : Int), .int .i64 z] 62)).cell? ⟨wr.heap.size, 1, none⟩ = some (.int .i64 (yn : Int)) := by simp [go_sem]
      have m2 : (wr.alloc (.cells #[.int .i64 (xn : Int), .int .i64 (yn : Int), .int .i64 z] 62)).cell? ⟨wr.heap.size, 2, none⟩ = some (.int .i64 z) := by simp [go_sem]
      have mx2 := cell_alloc_kept (o := .cells #[.int .i64 (xn : Int), .int .i64 (yn : Int), .int .i64 z] 62) mx
      have my2 := cell_alloc_kept (o := .cells #[.int .i64 (xn : Int), .int .i64 (yn : Int), .int .i64 z] 62) my
      have lxI : (xn : Int) < (M.length : Int) := by omega
      have lyI : (yn : Int) < (M.length : Int) := by omega
      have lxd : xn < ds.length := by omega
      have lyd : yn < ds.length := by omega
      have lx0 : (0 : Int) ≤ (xn : Int) := by omega
      have ly0 : (0 : Int) ≤ (yn : Int) := by omega
      clear e0 e1 e2 r1 r2 r3 r4 r5 r6 bx1 bx2 by1 by2 hvx hvy hL
      go_wp2
      obtain ⟨W2, hW2⟩ : ∃ W2, wr.alloc (.cells #[.int .i64 (xn : Int), .int .i64 (yn : Int), .int .i64 z] 62) = W2 := ⟨_, rfl⟩
      rw [hW2] at HO2 HB2' m0 m1 m2 mx2 my2 ⊢
      obtain ⟨d0, d1, -, d3⟩ := HO2.out.p
      have hWs : wr.heap.size + 1 = W2.heap.size := by rw [← hW2]; simp
      clear hW2 x0 x1 x2 mx my c0 c1
      have HO3 := Lib.hid (HO2.out.drewN 1)
      have HB3 : Hid (Below w2.heap.size w2 (W2.drewN 1)) := ⟨HB2'.out.os, HB2'.out.tape, HB2'.out.output, HB2'.out.size, HB2'.out.block⟩
      have hz22 : wr.heap.size + 1 = W2.heap.size := hWs
      have hwn1 : W2.drewN 1 = W2.drew := rfl
      rw [hwn1] at HO3 HB3
      obtain ⟨v7, w7, hr7, hown7, hgrow7, -, hat7⟩ := run_append_own_at (P := Try.prog) (W2.drew.alloc (.cells #[.int .i64 (xn : Int), .int .i64 (yn : Int), .int .i64 (z + vy - vx)] 62)) w2.heap.size 29 29 62 i0 (.agg #[.int .i64 0, .int .i64 0, .int .i64 0]) 3 24 Try.underlying29 hi hz0 hz1 hz2 rfl (by decide) _ _ _ (World.ownsRow.alloc HO3.out.r.2 _) ⟨W2.drew.heap.size, 0, none⟩ 1 1 [.int .i64 (xn : Int), .int .i64 (yn : Int), .int .i64 (z + vy - vx)] rfl (cell_three_newW _ _ _ _ _) (by simp [Value.oneCell']) (by unfold maxLen; omega) (by omega) (by have := HB3.out.size; simp; omega)
      have HO7 := Lib.hid ((HO3.out.alloc _).push hgrow7 hown7 (by simpa using hat7))
      obtain ⟨g0, g1, g2, g3⟩ := (HO3.out.alloc _).p.grown hgrow7 (fun e => HO3.out.ne e.symm)
      have HB7 := Lib.hid ((HB3.out.alloc HB3.out.size _).grown hgrow7 (by have := HB3.out.size; simp; omega) (fun j e => (World.ownsRow.lt HO3.out.r.2 j e).1))
      have hown := World.ownsRow.lt HO.out.r.2
      have hpo := HO.out.p.lt
      have HK7 : Hid (∀ a : Addr, a.block < W2.heap.size → (a.block < w2.heap.size ∨ a.block = wr.heap.size) → ∀ v, W2.drew.cell? a = some v → w7.cell? a = some v) := fun a ha hc v hv =>
        hgrow7.cell (cell_alloc_kept hv) (fun e => by rcases hc with h | h <;> (have := hown a.block e.symm; omega))
      obtain ⟨a7, c7, hv7, -, -⟩ := HO7.out.r.form
      subst hv7
      have HSD : Hid ((fun W => W.cell? ⟨wr.heap.size, 0, none⟩ = some (.int .i64 (xn : Int)) ∧ W.cell? ⟨wr.heap.size, 1, none⟩ = some (.int .i64 (yn : Int)) ∧ W.cell? ⟨wr.heap.size, 2, none⟩ = some (.int .i64 z) ∧ W.cell? ⟨gm, xn, none⟩ = some (.int .i64 vx) ∧ W.cell? ⟨gm, yn, none⟩ = some (.int .i64 vy)) W2.drew) := ⟨m0, m1, m2, mx2, my2⟩
      have HS4 : Hid ((fun W => W.cell? ⟨wr.heap.size, 0, none⟩ = some (.int .i64 (xn : Int)) ∧ W.cell? ⟨wr.heap.size, 1, none⟩ = some (.int .i64 (yn : Int)) ∧ W.cell? ⟨wr.heap.size, 2, none⟩ = some (.int .i64 z) ∧ W.cell? ⟨gm, xn, none⟩ = some (.int .i64 vx) ∧ W.cell? ⟨gm, yn, none⟩ = some (.int .i64 vy)) (W2.drew.alloc (.cells #[.int .i64 (xn : Int), .int .i64 (yn : Int), .int .i64 (z + vy - vx)] 62))) := ⟨cell_alloc_kept m0, cell_alloc_kept m1, cell_alloc_kept m2, cell_alloc_kept mx2, cell_alloc_kept my2⟩
      have HS7 : Hid ((fun W => W.cell? ⟨wr.heap.size, 0, none⟩ = some (.int .i64 (xn : Int)) ∧ W.cell? ⟨wr.heap.size, 1, none⟩ = some (.int .i64 (yn : Int)) ∧ W.cell? ⟨wr.heap.size, 2, none⟩ = some (.int .i64 z) ∧ W.cell? ⟨gm, xn, none⟩ = some (.int .i64 vx) ∧ W.cell? ⟨gm, yn, none⟩ = some (.int .i64 vy)) w7) := ⟨HK7.out _ (show wr.heap.size < W2.heap.size by omega) (.inr rfl) _ m0, HK7.out _ (show wr.heap.size < W2.heap.size by omega) (.inr rfl) _ m1, HK7.out _ (show wr.heap.size < W2.heap.size by omega) (.inr rfl) _ m2, HK7.out _ (show gm < W2.heap.size by omega) (.inl (show gm < w2.heap.size by omega)) _ mx2, HK7.out _ (show gm < W2.heap.size by omega) (.inl (show gm < w2.heap.size by omega)) _ my2⟩
      have hne1 : w2.heap.size + 1 ≠ wr.heap.size := by omega
      have hne2 : w2.heap.size + 1 ≠ gm := by omega
      have HS8 : Hid ((fun W => W.cell? ⟨wr.heap.size, 0, none⟩ = some (.int .i64 (xn : Int)) ∧ W.cell? ⟨wr.heap.size, 1, none⟩ = some (.int .i64 (yn : Int)) ∧ W.cell? ⟨wr.heap.size, 2, none⟩ = some (.int .i64 z) ∧ W.cell? ⟨gm, xn, none⟩ = some (.int .i64 vx) ∧ W.cell? ⟨gm, yn, none⟩ = some (.int .i64 vy)) (w7.setCell ⟨w2.heap.size + 1, 1, none⟩ (.slice a7 (k + 1) c7))) := ⟨cell_set_kept hne1 HS7.out.1, cell_set_kept hne1 HS7.out.2.1, cell_set_kept hne1 HS7.out.2.2.1, cell_set_kept hne2 HS7.out.2.2.2.1, cell_set_kept hne2 HS7.out.2.2.2.2⟩
      clear hown7 hgrow7 hat7 HK7 hown d0
      refine wp_region_held_drew (S := (fun W => W.cell? ⟨wr.heap.size, 0, none⟩ = some (.int .i64 (xn : Int)) ∧ W.cell? ⟨wr.heap.size, 1, none⟩ = some (.int .i64 (yn : Int)) ∧ W.cell? ⟨wr.heap.size, 2, none⟩ = some (.int .i64 z) ∧ W.cell? ⟨gm, xn, none⟩ = some (.int .i64 vx) ∧ W.cell? ⟨gm, yn, none⟩ = some (.int .i64 vy))) (by kernel_rfl) HSD.out (fun hHeld => ?_)
      (refine takeL (i := 0) (v := ?_) rfl (by kernel_rfl) (by kernel_rfl) (by kernel_rfl) (fun _ _ _ h => h) (Or.inl ⟨by rfl, ?_⟩) (by assumption) ?_; rotate_left; focus ((intro w hSw; (try dsimp only at hSw); go_simp); (first | done | with_reducible rfl)); try simp only [Act.put, List.setIfInBounds_toArray, List.set_cons_zero, List.set_cons_succ])
      (refine takeL (i := 2) (v := ?_) rfl (by kernel_rfl) (by kernel_rfl) (by kernel_rfl) (fun _ _ _ h => h) (Or.inl ⟨by rfl, ?_⟩) (by assumption) ?_; rotate_left; focus ((intro w hSw; (try dsimp only at hSw); go_simp); (first | done | with_reducible rfl)); try simp only [Act.put, List.setIfInBounds_toArray, List.set_cons_zero, List.set_cons_succ])
      (refine takeL (i := 3) (v := ?_) rfl (by kernel_rfl) (by kernel_rfl) (by kernel_rfl) (fun _ _ _ h => h) (Or.inl ⟨by rfl, ?_⟩) (by assumption) ?_; rotate_left; focus ((intro w hSw; (try dsimp only at hSw); go_simp); (first | done | with_reducible rfl)); try simp only [Act.put, List.setIfInBounds_toArray, List.set_cons_zero, List.set_cons_succ])
      (refine takeL (i := 4) (v := ?_) rfl (by kernel_rfl) (by kernel_rfl) (by kernel_rfl) (fun _ _ _ h => h) (Or.inl ⟨by rfl, ?_⟩) (by assumption) ?_; rotate_left; focus ((intro w hSw; (try dsimp only at hSw); go_simp); (first | done | with_reducible rfl)); try simp only [Act.put, List.setIfInBounds_toArray, List.set_cons_zero, List.set_cons_succ])
      (refine takeL (i := 5) (v := ?_) rfl (by kernel_rfl) (by kernel_rfl) (by kernel_rfl) (fun _ _ _ h => h) (Or.inl ⟨by rfl, ?_⟩) (by assumption) ?_; rotate_left; focus ((intro w hSw; (try dsimp only at hSw); go_simp); (first | done | with_reducible rfl)); try simp only [Act.put, List.setIfInBounds_toArray, List.set_cons_zero, List.set_cons_succ])
      (refine takeL (i := 6) (v := ?_) rfl (by kernel_rfl) (by kernel_rfl) (by kernel_rfl) (fun _ _ _ h => h) (Or.inl ⟨by rfl, ?_⟩) (by assumption) ?_; rotate_left; focus ((intro w hSw; (try dsimp only at hSw); go_simp); (first | done | with_reducible rfl)); try simp only [Act.put, List.setIfInBounds_toArray, List.set_cons_zero, List.set_cons_succ])
      (refine takeL (i := 7) (v := ?_) rfl (by kernel_rfl) (by kernel_rfl) (by kernel_rfl) (fun _ _ _ h => h) (Or.inl ⟨by rfl, ?_⟩) (by assumption) ?_; rotate_left; focus ((intro w hSw; (try dsimp only at hSw); go_simp); (first | done | with_reducible rfl)); try simp only [Act.put, List.setIfInBounds_toArray, List.set_cons_zero, List.set_cons_succ])
      (refine takeL (i := 8) (v := ?_) rfl (by kernel_rfl) (by kernel_rfl) (by kernel_rfl) (fun _ _ _ h => h) (Or.inl ⟨by rfl, ?_⟩) (by assumption) ?_; rotate_left; focus ((intro w hSw; (try dsimp only at hSw); go_simp); (first | done | with_reducible rfl)); try simp only [Act.put, List.setIfInBounds_toArray, List.set_cons_zero, List.set_cons_succ])
      (refine takeL (i := 9) (v := ?_) rfl (by kernel_rfl) (by kernel_rfl) (by kernel_rfl) (fun _ _ _ h => h) (Or.inl ⟨by rfl, ?_⟩) (by assumption) ?_; rotate_left; focus ((intro w hSw; (try dsimp only at hSw); go_simp); (first | done | with_reducible rfl)); try simp only [Act.put, List.setIfInBounds_toArray, List.set_cons_zero, List.set_cons_succ])
      (refine takeL (i := 10) (v := ?_) rfl (by kernel_rfl) (by kernel_rfl) (by kernel_rfl) (fun _ _ _ h => h) (Or.inl ⟨by rfl, ?_⟩) (by assumption) ?_; rotate_left; focus ((intro w hSw; (try dsimp only at hSw); go_simp); (first | done | with_reducible rfl)); try simp only [Act.put, List.setIfInBounds_toArray, List.set_cons_zero, List.set_cons_succ])
      (refine takeL (i := 11) (v := ?_) rfl (by kernel_rfl) (by kernel_rfl) (by kernel_rfl) (fun _ _ _ h => h) (Or.inl ⟨by rfl, ?_⟩) (by assumption) ?_; rotate_left; focus ((intro w hSw; (try dsimp only at hSw); go_simp); (first | done | with_reducible rfl)); try simp only [Act.put, List.setIfInBounds_toArray, List.set_cons_zero, List.set_cons_succ])
      (refine takeL (i := 12) (v := ?_) rfl (by kernel_rfl) (by kernel_rfl) (by kernel_rfl) (fun _ _ _ h => h) (Or.inl ⟨by rfl, ?_⟩) (by assumption) ?_; rotate_left; focus ((intro w hSw; (try dsimp only at hSw); go_simp); (first | done | with_reducible rfl)); try simp only [Act.put, List.setIfInBounds_toArray, List.set_cons_zero, List.set_cons_succ])
      (refine takeL (i := 13) (v := ?_) rfl (by kernel_rfl) (by kernel_rfl) (by kernel_rfl) (fun _ _ _ h => h) (Or.inl ⟨by rfl, ?_⟩) (by assumption) ?_; rotate_left; focus ((intro w hSw; (try dsimp only at hSw); go_simp); (first | done | with_reducible rfl)); try simp only [Act.put, List.setIfInBounds_toArray, List.set_cons_zero, List.set_cons_succ])
      (refine takeL (i := 14) (v := ?_) rfl (by kernel_rfl) (by kernel_rfl) (by kernel_rfl) (fun _ _ _ h => h) (Or.inl ⟨by rfl, ?_⟩) (by assumption) ?_; rotate_left; focus ((intro w hSw; (try dsimp only at hSw); go_simp); (first | done | with_reducible rfl)); try simp only [Act.put, List.setIfInBounds_toArray, List.set_cons_zero, List.set_cons_succ])
      (refine takeL (i := 15) (v := ?_) rfl (by kernel_rfl) (by kernel_rfl) (by kernel_rfl) (fun _ _ _ h => h) (Or.inl ⟨by rfl, ?_⟩) (by assumption) ?_; rotate_left; focus ((intro w hSw; (try dsimp only at hSw); go_simp); (first | done | with_reducible rfl)); try simp only [Act.put, List.setIfInBounds_toArray, List.set_cons_zero, List.set_cons_succ])
      (refine takeL (i := 16) (v := ?_) rfl (by kernel_rfl) (by kernel_rfl) (by kernel_rfl) (fun _ _ _ h => h) (Or.inl ⟨by rfl, ?_⟩) (by assumption) ?_; rotate_left; focus ((intro w hSw; (try dsimp only at hSw); go_simp); (first | done | with_reducible rfl)); try simp only [Act.put, List.setIfInBounds_toArray, List.set_cons_zero, List.set_cons_succ])
      (refine takeL (i := 17) (v := ?_) rfl (by kernel_rfl) (by kernel_rfl) (by kernel_rfl) (fun _ _ _ h => h) (Or.inl ⟨by rfl, ?_⟩) (by assumption) ?_; rotate_left; focus ((intro w hSw; (try dsimp only at hSw); go_simp); (first | done | with_reducible rfl)); try simp only [Act.put, List.setIfInBounds_toArray, List.set_cons_zero, List.set_cons_succ])
      (refine takeL (i := 18) (v := ?_) rfl (by kernel_rfl) (by kernel_rfl) (by kernel_rfl) (fun _ _ _ h => h) (Or.inl ⟨by rfl, ?_⟩) (by assumption) ?_; rotate_left; focus ((intro w hSw; (try dsimp only at hSw); go_simp); (first | done | with_reducible rfl)); try simp only [Act.put, List.setIfInBounds_toArray, List.set_cons_zero, List.set_cons_succ])
      (refine takeL (i := 19) (v := ?_) rfl (by kernel_rfl) (by kernel_rfl) (by kernel_rfl) (fun _ _ _ h => h) (Or.inl ⟨by rfl, ?_⟩) (by assumption) ?_; rotate_left; focus ((intro w hSw; (try dsimp only at hSw); go_simp); (first | done | with_reducible rfl)); try simp only [Act.put, List.setIfInBounds_toArray, List.set_cons_zero, List.set_cons_succ])
      (refine takeL (i := 20) (v := ?_) rfl (by kernel_rfl) (by kernel_rfl) (by kernel_rfl) (fun _ _ _ h => h) (Or.inl ⟨by rfl, ?_⟩) (by assumption) ?_; rotate_left; focus ((intro w hSw; (try dsimp only at hSw); go_simp); (first | done | with_reducible rfl)); try simp only [Act.put, List.setIfInBounds_toArray, List.set_cons_zero, List.set_cons_succ])
      refine wpAnyH_ready (rs := [1, 21]) (by kernel_rfl) (by simp) ?_
      refine AllReadyH.cons rfl (fun K hK => ?_) (AllReadyH.cons rfl (fun K hK => ?_) AllReadyH.nil)
      · go_simp
        refine hK.out _ _ HSD.out (fun hHeld => ?_)
        clear hK K
        try simp only [Act.put, List.setIfInBounds_toArray, List.set_cons_zero, List.set_cons_succ]
        refine wpAnyH_ready (rs := [21]) (by kernel_rfl) (by simp) ?_
        refine AllReadyH.cons rfl (fun K hK => ?_) AllReadyH.nil
        go_simp
        refine hK.out _ _ HS4.out (fun hHeld => ?_)
        clear hK K
        try simp only [Act.put, List.setIfInBounds_toArray, List.set_cons_zero, List.set_cons_succ]
        refine wpAnyH_ready (rs := [22]) (by kernel_rfl) (by simp) ?_
        refine AllReadyH.cons rfl (fun K hK => ?_) AllReadyH.nil
        refine app_if (.tmp 32) (.tmp 52) 29 rfl rfl rfl rfl hr7 ?_
        refine hK.out _ _ HS7.out (fun hHeld => ?_)
        clear hK K
        try simp only [Act.put, List.setIfInBounds_toArray, List.set_cons_zero, List.set_cons_succ]
        (refine takeL (i := 23) (v := ?_) rfl (by kernel_rfl) (by kernel_rfl) (by kernel_rfl) (fun _ _ _ h => h) (Or.inl ⟨by rfl, ?_⟩) (by assumption) ?_; rotate_left; focus ((intro w hSw; (try dsimp only at hSw); go_simp); (first | done | with_reducible rfl)); try simp only [Act.put, List.setIfInBounds_toArray, List.set_cons_zero, List.set_cons_succ])
        refine wpAnyH_ready (rs := [24]) (by kernel_rfl) (by simp) ?_
        refine AllReadyH.cons rfl (fun K hK => ?_) AllReadyH.nil
        go_simp
        refine hK.out _ _ HS8.out (fun hHeld => ?_)
        clear hK K
        try simp only [Act.put, List.setIfInBounds_toArray, List.set_cons_zero, List.set_cons_succ]
        refine wpAnyH_done (by kernel_rfl) ?_ _
        go_wp2
        go_roundw
        case rel => exact ⟨k + 1, _, by omega, by go_num, by rw [HMV.out]; exact HO7, Lib.hid (HB7.out.setCell (by simp) _)⟩
        case measure => simp [intOf]; omega
      · go_simp
        refine hK.out _ _ HS4.out (fun hHeld => ?_)
        clear hK K
        try simp only [Act.put, List.setIfInBounds_toArray, List.set_cons_zero, List.set_cons_succ]
        obtain ⟨W4, hW4⟩ : ∃ W4, W2.drew.alloc (.cells #[.int .i64 (xn : Int), .int .i64 (yn : Int), .int .i64 (z + vy - vx)] 62) = W4 := ⟨_, rfl⟩
        have d4 : W4.cell? ⟨w2.heap.size + 1, 1, none⟩ = some (.slice aw k cw) := by rw [← hW4]; exact cell_alloc_kept d1
        change wpAnyH _ _ _ _ _ _ _ _ (W2.drew.alloc (.cells #[.int .i64 (xn : Int), .int .i64 (yn : Int), .int .i64 (z + vy - vx)] 62))
        rw [hW4]
        refine wpAnyH_ready (rs := [1]) (by kernel_rfl) (by simp) ?_
        refine AllReadyH.cons rfl (fun K hK => ?_) AllReadyH.nil
        go_simp
        subst hW4
        refine hK.out _ _ HS4.out (fun hHeld => ?_)
        clear hK K
        try simp only [Act.put, List.setIfInBounds_toArray, List.set_cons_zero, List.set_cons_succ]
        refine wpAnyH_ready (rs := [22]) (by kernel_rfl) (by simp) ?_
        refine AllReadyH.cons rfl (fun K hK => ?_) AllReadyH.nil
        refine app_if (.tmp 32) (.tmp 52) 29 rfl rfl rfl rfl hr7 ?_
        refine hK.out _ _ HS7.out (fun hHeld => ?_)
        clear hK K
        try simp only [Act.put, List.setIfInBounds_toArray, List.set_cons_zero, List.set_cons_succ]
        (refine takeL (i := 23) (v := ?_) rfl (by kernel_rfl) (by kernel_rfl) (by kernel_rfl) (fun _ _ _ h => h) (Or.inl ⟨by rfl, ?_⟩) (by assumption) ?_; rotate_left; focus ((intro w hSw; (try dsimp only at hSw); go_simp); (first | done | with_reducible rfl)); try simp only [Act.put, List.setIfInBounds_toArray, List.set_cons_zero, List.set_cons_succ])
        refine wpAnyH_ready (rs := [24]) (by kernel_rfl) (by simp) ?_
        refine AllReadyH.cons rfl (fun K hK => ?_) AllReadyH.nil
        go_simp
        refine hK.out _ _ HS8.out (fun hHeld => ?_)
        clear hK K
        try simp only [Act.put, List.setIfInBounds_toArray, List.set_cons_zero, List.set_cons_succ]
        refine wpAnyH_done (by kernel_rfl) ?_ _
        go_wp2
        go_roundw
        case rel => exact ⟨k + 1, _, by omega, by go_num, by rw [HMV.out]; exact HO7, Lib.hid (HB7.out.setCell (by simp) _)⟩
        case measure => simp [intOf]; omega
    · obtain rfl : k = wn := by omega
      have hltz : ¬ (k : Int) < (k : Int) := by omega
      have hb0r : Below w0.heap.size w0 wr := HB2.out.trans (HBW.out.mono hz02)
      obtain ⟨c0, c1, -, -⟩ := HP.out.below hb0r hpl
      obtain ⟨s0, s1, s2, s3⟩ := HR0.out.below hb0r hlt0
      obtain ⟨d0, d1, -, -⟩ := HO.out.p
      obtain ⟨aw, cw, hvw, hmw, -⟩ := HO.out.r.form
      subst hvw
      obtain ⟨t0, t1, t2, t3⟩ := (HR0.out.below hb0r hlt0).set0 (.slice ad ds.length cd)
      have hA := ((HR0.out.below hb0r hlt0).set0 (.slice ad ds.length cd)).set1 (.slice aw k cw)
      obtain ⟨v0, v1, -, -⟩ := hA
      have hsz := hb0r.size
      go_wp2
      refine bodyPost_ret (v := .agg #[.slice ad ds.length cd, .slice aw k cw]) (by simp [results, Try.results36, go_sem, v0, v1]) rfl ?_
      refine ⟨_, _, rfl, ⟨?_, ?_⟩, ?_⟩
      · exact ints_low (ints_set (ints_set (HD2.out.keep HBW.out (Nat.le_refl _)) _ _ hlt0) _ _ hlt0) (Nat.le_of_lt hlt0)
      · exact (recs_set (recs_set HO.out.r _ _ (show w.heap.size < w2.heap.size by omega)) _ _ (show w.heap.size < w2.heap.size by omega)).weak (by omega)
      · exact ((HB0.out.trans (hb0r.mono (Nat.le_of_lt hlt0))).setCell (Nat.le_refl _) _).setCell (Nat.le_refl _) _
end Go.Proofs.Ytlobloaabghceaa
