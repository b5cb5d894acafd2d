/- The ring that a state reaches, on the side of the model. -/
import Derived.Test.YtomdoamfdidghabRoute
import Derived.Test.YtomdoamfdidghabTab
import Derived.Test.YtomdoamfdidghabCtrLaw
import Derived.Laws.MakeOwn
import Derived.BigQuiet
import Derived.Outline
import Derived.Deep.QuietTactic
import Derived.Deep.RegionHeld3
namespace Go.Proofs.Ytomdoamfdidghab
open Go.RowKit
set_option linter.unusedVariables false
/-- where a number stands in a list, from 1 on; 0 if it doesn't -/
def posI (l : List Int) (v : Nat) : Int := if (v : Int) ∈ l then ((l.idxOf (v : Int) : Nat) : Int) + 1 else 0
theorem posI_nil (v : Nat) : posI [] v = 0 := by simp [posI]
theorem posI_snoc (l : List Int) (y v : Nat) (h : (y : Int) ∉ l) : posI (l ++ [(y : Int)]) v = if v = y then ((l.length : Nat) : Int) + 1 else posI l v := by
  unfold posI
  by_cases e : v = y
  · subst e
    rw [if_pos (by simp), if_pos rfl, List.idxOf_append, if_neg h]
    simp
  · rw [if_neg e]
    by_cases hm : (v : Int) ∈ l
    · rw [if_pos (by simp [hm]), if_pos hm, List.idxOf_append, if_pos hm]
    · rw [if_neg (by simp [hm]; omega), if_neg hm]
theorem posI_of_not (l : List Int) (v : Nat) (h : (v : Int) ∉ l) : posI l v = 0 := if_neg h
theorem posI_of_mem (l : List Int) (v : Nat) (h : (v : Int) ∈ l) : posI l v = ((l.idxOf (v : Int) : Nat) : Int) + 1 := if_pos h
/-- the row of a slice that begins anywhere in its block -/
def RowFrom (w : World) (g off : Nat) (l : List Int) : Prop := ∀ k (hk : k < l.length), w.cell? ⟨g, off + k, none⟩ = some (.int .i64 l[k])
/-- an append to a slice of the call's own, as a step of a region that draws its order -/
theorem step_append_own {P : Program} (w : World) {ops : Array Oper} {o : Oper} {a : Act} {K : Act → World → Prop} {Q : Exit → Act → World → Prop} {E : Prop} (hgd : o.guard = none) (s x : Operand) (t : TypeId)
    (ho : o.op = .call { callee := .builtin .append, args := #[s, x], argTypes := #[t, t] })
    (base : Nat) (e : TypeId) (i : TypeInfo) (z : Value) (size bytes : Nat) (ht : P.underlying t = some (.slice e)) (hi : P.info? e = some i) (hz : i.zero = some z)
    (hsize : i.size = size) (hby : i.bytes = bytes) (hzs : z.cells.size = size) (hsz : 0 < size)
    (v : Value) (n : Nat) (xs : List Value) (hs : a.eval s = v) (hown : w.ownsRow base e size v n xs)
    (ad : Addr) (m c : Nat) (news : List Value) (hx : a.eval x = .slice (some ad) m c) (hl : news.length = m * size) (hnews : ∀ j u, news[j]? = some u → w.cell? (ad.add j) = some u) (h1 : ∀ u ∈ news, u.oneCell' = true)
    (h63 : n + m ≤ maxLen) (hbytes : (n + m) * bytes ≤ 140737488355328) (hbase : base ≤ w.heap.size)
    (h : ∀ v' w', w'.ownsRow base e size v' (n + m) (xs ++ news) → w.grownBy w' v.ownBlock → K (a.put o.dst v') w') :
    if Region.wanted o (yielded ops a.tmps) = true then Oper.wp P o a w K Q else E := by
  have hw : Region.wanted o (yielded ops a.tmps) = true := by simp [Region.wanted, hgd]
  rw [if_pos hw]
  exact wp_append_own w s x t ho base e i z size bytes ht hi hz hsize hby hzs hsz v n xs hs hown ad m c news hx hl hnews h1 h63 hbytes hbase fun v' w' a1 a2 _ => h v' w' a1 a2
set_option maxRecDepth 100000 in
theorem own_any (g off m c : Nat) (l : List Int) (w : World) (hm : m = l.length) (hl : l.length ≤ 1048576) (hr : RowFrom w g off l) :
    Calls Try.prog 32 #[.slice (some ⟨g, off, none⟩) m c] w fun e w' => ∃ v, e = .returned v ∧ Ints w' w.heap.size v l ∧ Below w.heap.size w w' := by
  obtain ⟨i0, hi, hz0, hz1, hz2⟩ := info_parts info_i64
  have hnews : ∀ (j : Nat) (u : Value), (l.map (Value.int .i64))[j]? = some u → (w.alloc (.cells #[] 2)).cell? (Addr.add ⟨g, off, none⟩ j) = some u := by
    intro j u h
    rw [List.getElem?_map] at h
    obtain ⟨x, hx, rfl⟩ := Option.map_eq_some_iff.1 h
    obtain ⟨hj, hx2⟩ := List.getElem?_eq_some_iff.1 hx
    have e : Addr.add ⟨g, off, none⟩ j = ⟨g, off + j, none⟩ := by unfold Addr.add; split <;> simp_all
    rw [e, ← hx2]
    exact cell_alloc_kept (hr j hj)
  have HNEWS := Lib.hid hnews
  have HM := Lib.hid hm
  clear hnews hr
  go_enter Try.func32, Try.ntmps32
  go_wp2_with (at_builtin; refine wpList_append_own _ rfl _ _ 22 rfl w.heap.size 2 i0 (.int .i64 0) 1 8 Try.underlying22 hi hz0 hz1 hz2 rfl (by decide) _ _ _ rfl (Ints.lit w) ⟨g, off, none⟩ m c (l.map (Value.int .i64)) rfl (by rw [List.length_map, HM.out, Nat.mul_one]) HNEWS.out (by intro u hu; obtain ⟨x, _, rfl⟩ := List.mem_map.1 hu; rfl) (by unfold maxLen; have := HM.out; simp; omega) (by have := HM.out; simp; omega) (by simp) ?_; intro v1 w1 hown1 hgrow1 _)
  go_wp2
  go_ret
  refine ⟨_, rfl, ?_, ?_⟩
  · unfold Ints; rw [← HM.out]; simpa using hown1
  · exact ((Below.refl _ _).alloc (Nat.le_refl _) _).grown hgrow1 (by simp) (fun j e => (World.ownsRow.lt (Ints.lit w) j e).1)

def pthI (N : List Int) (x : Int) (k : Nat) : Nat → Int := posI (pth N x k)
theorem posI_step (N : List Int) (x : Int) (k y : Nat) (hy : itr N x k = (y : Int)) (h : (y : Int) ∉ pth N x k) (n : Nat) : (tabL n (pthI N x k)).set y ((k : Int) + 1) = tabL n (pthI N x (k + 1)) := by
  rw [tabL_set]
  apply tabL_congr
  intro s _
  unfold pthI
  rw [pth_succ, hy, posI_snoc _ _ _ h, pth_length]
theorem pthI_zero (N : List Int) (x : Int) (n : Nat) : List.replicate n (0 : Int) = tabL n (pthI N x 0) := by
  rw [tabL_zero]; apply tabL_congr; intro s _; unfold pthI; rw [pth_zero, posI_nil]
/-- the least of a ring stands there -/
def LeastAt (L : List Int) (i ls : Nat) : Prop := ∃ h : ls < L.length, ∀ j (hj : j < L.length), j < i → L[ls] ≤ L[j]
theorem LeastAt.one (L : List Int) (h : 0 < L.length) : LeastAt L 1 0 := ⟨h, fun j hj h1 => by
  have e : j = 0 := by omega
  subst e
  exact Int.le_refl _⟩
theorem LeastAt.same {L : List Int} {i ls : Nat} (h : LeastAt L i ls) (hi : i < L.length) (hle : ¬ L[i] < L[ls]'h.1) : LeastAt L (i + 1) ls := ⟨h.1, fun j hj h1 => by
  by_cases e : j = i
  · subst e; omega
  · exact h.2 j hj (by omega)⟩
theorem LeastAt.less {L : List Int} {i ls : Nat} (h : LeastAt L i ls) (hi : i < L.length) (hle : L[i] < L[ls]'h.1) : LeastAt L (i + 1) i := ⟨hi, fun j hj h1 => by
  by_cases e : j = i
  · subst e; exact Int.le_refl _
  · have := h.2 j hj (by omega); omega⟩

theorem pth_cells {ww : World} {B gl k cv : Nat} {N : List Int} {x : Int} (h : Ints ww B (.slice (some ⟨gl, 0, none⟩) k cv) (pth N x k)) (j : Nat) (hj : j < k) : ww.cell? ⟨gl, j, none⟩ = some (.int .i64 (itr N x j)) := by
  obtain ⟨a, c, hv, -, kk⟩ := h.form
  obtain ⟨g, hg, -, -, hc, -⟩ := kk j (by rw [pth_length]; exact hj)
  simp only [Value.slice.injEq] at hv
  rw [hg] at hv
  have := hv.1
  simp only [Option.some.injEq, Addr.mk.injEq, and_true] at this
  subst this
  rw [hc, pth_get _ _ _ _ hj]

theorem ring_fin {w W wo w5 : World} {vo v5 : Value} {A B : List Int} {ls : Nat} (hb : Below w.heap.size w W) (hb2 : Below W.heap.size W wo) (hi : Ints wo W.heap.size vo A) (hg : wo.grownBy w5 vo.ownBlock) (hl : B.length = ls)
    (ho : w5.ownsRow W.heap.size 2 1 v5 (A.length + ls) (A.map (Value.int .i64) ++ B.map (Value.int .i64))) : Ints w5 w.heap.size v5 (A ++ B) ∧ Below w.heap.size w w5 := by
  refine ⟨Ints.lower (B := W.heap.size) ?_ hb.size, (hb.trans (hb2.mono hb.size)).grown hg (Nat.le_trans hb.size hb2.size) (fun j e => Nat.le_trans hb.size (World.ownsRow.lt hi j e).1)⟩
  unfold Ints
  rw [List.length_append, hl, List.map_append]
  exact ho
theorem new_cells {ww : World} {B gl k cv : Nat} {N : List Int} {x : Int} (h : Ints ww B (.slice (some ⟨gl, 0, none⟩) k cv) (pth N x k)) (t ls : Nat) (hle : t + ls ≤ k) : ∀ (j : Nat) (u : Value), ((((pth N x k).drop t).take ls).map (Value.int .i64))[j]? = some u → ww.cell? (Addr.add ⟨gl, t, none⟩ j) = some u := by
  intro j u hu
  have e : Addr.add ⟨gl, t, none⟩ j = ⟨gl, t + j, none⟩ := by unfold Addr.add; split <;> simp_all
  obtain ⟨hj, hu2⟩ := List.getElem?_eq_some_iff.1 hu
  simp [pth_length] at hj
  rw [e, pth_cells h _ (by omega), ← hu2]
  simp [pth]

set_option maxHeartbeats 1000000 in
set_option maxRecDepth 100000 in
theorem specRing_any (p : Nat) (bits : Int) (a : Option Addr) (n cap : Nat) (N : List Int) (x : Int) (w : World) (hn : n = N.length) (hN : N.length ≤ 256) (hin : InN N) (hx : 0 ≤ x ∧ x < (N.length : Int))
    (hp : At2 w p (.int .i64 bits) (.slice a n cap)) (hr : RowOf w a N) (hlt : ∀ g, a = some ⟨g, 0, none⟩ → g < w.heap.size) :
    Calls Try.prog 17 #[.pointer (some ⟨p, 0, none⟩), .int .i64 x] w fun e w' => ∃ (k t ls : Nat) (v : Value), Stop N x k ∧ t < k ∧ itr N x t = itr N x k ∧ LeastAt ((pth N x k).drop t) (k - t) ls ∧ e = .returned (.tuple #[v, .int .i64 (t : Int)]) ∧ Ints w' w.heap.size v (((pth N x k).drop t).drop ls ++ ((pth N x k).drop t).take ls) ∧ Below w.heap.size w w' := by
  obtain ⟨i0, hi, hz0, hz1, hz2⟩ := info_parts info_i64
  have hplt := hp.lt
  have HP := Lib.hid hp
  have HR := Lib.hid hr
  have HLT := Lib.hid hlt
  have HIN := Lib.hid hin
  have HX := Lib.hid hx
  have HNN := Lib.hid hn
  have hn256 : n ≤ 256 := by omega
  have hn1 : 1 ≤ n := by omega
  obtain ⟨c0, c1, f0, f1⟩ := hp
  clear hr hlt hin hx hn
  go_enter Try.func17, Try.ntmps17
  go_wp2_with (at_make; refine wpList_make_full _ rfl _ _ 22 rfl w.heap.size 2 i0 (.int .i64 0) 1 Try.underlying22 hi hz0 hz1 .i64 .i64 (n : Int) (n : Int) n rfl rfl rfl rfl (by rw [hz2]; omega) (by unfold maxLen; omega) (Nat.le_refl _) ?_; intro w1 hown1 hgrow1)
  have hb1 : Below w.heap.size w w1 := (Below.refl _ _).grown hgrow1 (Nat.le_refl _) (fun k e => by cases e)
  have hi1 : Ints w1 w.heap.size (.slice (some ⟨w.heap.size, 0, none⟩) n n) (List.replicate n 0) := by
    unfold Ints
    rw [← zeros_list, List.length_replicate]
    have h : w1.ownsRow w.heap.size 2 1 (.slice (some ⟨w.heap.size, 0, none⟩) n n) n (madeCells (Value.int IntKind.i64 0).cells n).toList := by simpa using hown1
    exact h
  have hs1 : w.heap.size < w1.heap.size := (World.ownsRow.lt hi1 w.heap.size rfl).2
  rw [pthI_zero N x] at hi1
  have HI1 := Lib.hid hi1
  have HB1 := Lib.hid hb1
  clear hi1 hb1 hown1 hgrow1 c0 c1 f0 f1
  go_wp2
  go_loopw [1, 7] (fun x1 v wr => ∃ k : Nat, x1 = .int .i64 (itr N x k) ∧ Ints wr w1.heap.size v (pth N x k) ∧ (pth N x k).Nodup ∧ Ints wr w.heap.size (.slice (some ⟨w.heap.size, 0, none⟩) n n) (tabL n (pthI N x k)) ∧ Below w.heap.size w wr ∧ w1.heap.size + 1 ≤ wr.heap.size) (fun _ v _ => N.length + 1 - slLen v)
  case atStart => exact ⟨0, rfl, Ints.lit _, by simp [pth_zero], HI1.out.keep ((Below.refl _ _).alloc (Nat.le_refl _) _) (Nat.le_refl _), HB1.out.alloc (by omega) _, by simp⟩
  case round =>
    obtain ⟨k, rfl, hints, hnd, hat, hb, hsz⟩ := hrel
    have hxr := itr_in HIN.out HX.out k
    have hlen : k ≤ N.length := pth_le HIN.out HX.out hnd
    obtain ⟨yn, hyn, hy, hnx⟩ := row_get hxr
    have hynn : yn < n := by have := HNN.out; omega
    have HSUC := Lib.hid (pth_succ N x k)
    have HIT : Hid (itr N x (k + 1) = N[yn]) := Lib.hid hnx
    have HL := Lib.hid (pth_length N x k)
    have HY := Lib.hid hy
    have HND := Lib.hid hnd
    have HB := Lib.hid hb
    have HINTS := Lib.hid hints
    have HATT := Lib.hid hat
    obtain ⟨aa, ca, hv, -, kk⟩ := hat.form
    simp only [Value.slice.injEq] at hv
    obtain ⟨g', hg', -, -, hcell, hfr⟩ := kk yn (by rw [tabL_len]; exact hynn)
    obtain ⟨rfl, -, rfl⟩ := hv
    simp only [Option.some.injEq, Addr.mk.injEq, and_true] at hg'
    subst hg'
    rw [tabL_get] at hcell
    obtain ⟨av, cv, rfl, hle, hform⟩ := hints.form
    have HGE := Lib.hid (fun g (e : (Value.slice av (pth N x k).length cv).ownBlock = some g) => (World.ownsRow.lt hints g e).1)
    have HFORM := Lib.hid hform
    have HP2 := Lib.hid (HP.out.below hb hplt)
    clear hnd hb hxr hnx hat kk hform hints
    by_cases hmem : itr N x k ∈ pth N x k
    · have hst : Stop N x k := ⟨HND.out, hmem⟩
      obtain ⟨t, ht, hte, hti⟩ := stop_tail hst
      have hpos : pthI N x k yn = (t : Int) + 1 := by unfold pthI; rw [posI_of_mem _ _ (by rw [← HY.out]; exact hmem), ← HY.out, hti]
      rw [hpos] at hcell
      rw [HY.out]
      have HST := Lib.hid hst
      have HTE := Lib.hid hte
      have t0 : ((t : Int) + 1 == 0) = false := by rw [beq_eq_false_iff_ne]; omega
      obtain ⟨gl, hgl, hgge, hglt, -, -⟩ := HFORM.out 0 (by rw [pth_length]; omega)
      have hcap : k ≤ cv := by
        have := (HINTS.out.row).2.2.1 (by intro e; have := HL.out; rw [e] at this; simp at this; omega)
        rwa [HL.out] at this
      subst hgl
      rw [HL.out] at HINTS ⊢
      have hct : ¬ cv = t := by omega
      have HPI := Lib.hid (fun (ww : World) (h : Ints ww w1.heap.size (.slice (some ⟨gl, 0, none⟩) k cv) (pth N x k)) => pth_cells h)
      have HLD := Lib.hid (show ((pth N x k).drop t).length = k - t by rw [List.length_drop, pth_length])
      clear hmem hst hte hti hpos hy
      go_wp2
      go_loopw [10, 11] (fun u i ww => ∃ (ls j : Nat), 1 ≤ j ∧ j ≤ k - t ∧ u = .int .i64 (ls : Int) ∧ i = .int .i64 (j : Int) ∧ LeastAt ((pth N x k).drop t) j ls ∧ Ints ww w1.heap.size (.slice (some ⟨gl, 0, none⟩) k cv) (pth N x k) ∧ Below w.heap.size w ww ∧ w1.heap.size + 1 ≤ ww.heap.size ∧ gl < ww.heap.size) (fun _ i _ => k - t - (intOf i).toNat)
      case atStart => exact ⟨0, 1, by omega, by omega, rfl, rfl, LeastAt.one _ (by rw [HLD.out]; omega), HINTS.out, HB.out, hsz, hglt⟩
      case round =>
        obtain ⟨ls, j, hj1, hj2, rfl, rfl, hls, hii, hbb, hss, hgg⟩ := hrel
        have HLS := Lib.hid hls
        have HII := Lib.hid hii
        have HBB := Lib.hid hbb
        have hlsl : ls < k - t := by have := hls.1; rwa [HLD.out] at this
        clear hls hii hbb
        by_cases hjl : j < k - t
        · have x1 := HPI.out _ HII.out (t + j) (by omega)
          have x2 := HPI.out _ HII.out (t + ls) (by omega)
          have y1 := HLS.out
          obtain ⟨u1, hu1⟩ : ∃ u1, itr N x (t + j) = u1 := ⟨_, rfl⟩
          obtain ⟨u2, hu2⟩ : ∃ u2, itr N x (t + ls) = u2 := ⟨_, rfl⟩
          have e1 : ((pth N x k).drop t)[j]'(by rw [HLD.out]; exact hjl) = u1 := by rw [List.getElem_drop, pth_get _ _ _ _ (by omega), hu1]
          have e2 : ((pth N x k).drop t)[ls]'(by rw [HLD.out]; exact hlsl) = u2 := by rw [List.getElem_drop, pth_get _ _ _ _ (by omega), hu2]
          rw [hu1] at x1
          rw [hu2] at x2
          by_cases hle : u1 < u2
          · have HN2 := Lib.hid (HLS.out.less (by rw [HLD.out]; exact hjl) (by rw [e1, e2]; exact hle))
            have hd : decide (u1 < u2) = true := decide_eq_true hle
            clear y1 hu1 hu2 e1 e2 hle
            go_wp2
            go_quiet (fail)
            go_wp2
            go_roundw
            case rel => exact ⟨j, j + 1, by omega, by omega, rfl, by go_num, HN2.out, HII.out.drewN _, bw HBB.out _, by simpa using hss, by simpa using hgg⟩
            case measure => simp [intOf]; omega
          · have HN2 := Lib.hid (HLS.out.same (by rw [HLD.out]; exact hjl) (by rw [e1, e2]; exact hle))
            have hd : decide (u1 < u2) = false := decide_eq_false hle
            clear y1 hu1 hu2 e1 e2 hle
            go_wp2
            go_quiet (fail)
            go_wp2
            go_roundw
            case rel => exact ⟨ls, j + 1, by omega, by omega, rfl, by go_num, HN2.out, HII.out.drewN _, bw HBB.out _, by simpa using hss, by simpa using hgg⟩
            case measure => simp [intOf]; omega
        · obtain rfl : j = k - t := by omega
          go_wp2
          obtain ⟨m, hm⟩ : ∃ m, k - t = m := ⟨_, rfl⟩
          obtain ⟨cc, hcc⟩ : ∃ cc, cv - t = cc := ⟨_, rfl⟩
          have HOWN := Lib.hid (fun (W : World) (h : Ints W w1.heap.size (.slice (some ⟨gl, 0, none⟩) k cv) (pth N x k)) => own_any gl (t + ls) (m - ls) (cc - ls) (((pth N x k).drop t).drop ls) W (by simp [pth_length]; omega) (by simp [pth_length]; omega) (fun i hi => by simp [pth_length] at hi; rw [pth_cells h _ (by omega)]; simp [pth, Nat.add_assoc]))
          have b1 : (0 : Int) ≤ (ls : Int) := by omega
          have b2 : (ls : Int) ≤ (m : Int) := by omega
          have b3 : (m : Int) ≤ (cc : Int) := by omega
          have b4 : (ls : Int) ≤ (cc : Int) := by omega
          have b5 : ¬ cc = ls := by omega
          have b6 : ls ≤ m := by omega
          have b7 : m ≤ cc := by omega
          have b8 : ls ≤ cc := by omega
          have HM := Lib.hid hm
          rw [hm, hcc]
          have HLN := Lib.hid (show ((((pth N x k).drop t).take ls).map (Value.int .i64)).length = ls * 1 by simp [pth_length]; omega)
          have HDN := Lib.hid (show (((pth N x k).drop t).drop ls).length = m - ls by simp [pth_length]; omega)
          have HKEEP := Lib.hid (fun (W W2 : World) (hb : Below W.heap.size W W2) (h : Ints W w1.heap.size (.slice (some ⟨gl, 0, none⟩) k cv) (pth N x k)) => h.keep hb (Nat.le_refl _))
          have hm256 : m ≤ 256 := by omega
          have HFIN := Lib.hid (fun (W wo w5 : World) (vo v5 : Value) (hb : Below w.heap.size w W) (hb2 : Below W.heap.size W wo) (hi : Ints wo W.heap.size vo (((pth N x k).drop t).drop ls)) (hg : wo.grownBy w5 vo.ownBlock) (ho : w5.ownsRow W.heap.size 2 1 v5 ((((pth N x k).drop t).drop ls).length + ls) ((((pth N x k).drop t).drop ls).map (Value.int .i64) ++ (((pth N x k).drop t).take ls).map (Value.int .i64))) => ring_fin hb hb2 hi hg (by simp [pth_length]; omega) ho)
          clear hm hcc
          have HNEW := Lib.hid (fun (W : World) (h : Ints W w1.heap.size (.slice (some ⟨gl, 0, none⟩) k cv) (pth N x k)) => new_cells h t ls (by omega))
          go_region_held3 (fun _ => True) (trivial) (first | (go_at_call 32; refine (HOWN.out _ ?_).mono ?_; (focus (exact HII.out)); rintro e wo ⟨vo, rfl, io, bo⟩; have HIO := Lib.hid io; have HBO := Lib.hid bo; clear io bo) | (refine step_append_own _ (by rfl) _ _ _ (by rfl) _ 2 i0 (.int .i64 0) 1 8 Try.underlying22 hi hz0 hz1 hz2 rfl (by decide) _ _ _ (by rfl) HIO.out ⟨gl, t, none⟩ ls cc ((((pth N x k).drop t).take ls).map (Value.int .i64)) (by rfl) HLN.out (HNEW.out _ (HKEEP.out _ _ HBO.out HII.out)) (by intro u hu; obtain ⟨x, _, rfl⟩ := List.mem_map.1 hu; rfl) (by unfold maxLen; rw [HDN.out]; omega) (by rw [HDN.out]; omega) HBO.out.size ?_; intro v5 w5 hown5 hgrow5))
          go_wp2
          go_ret2
          obtain ⟨r1, r2⟩ := HFIN.out _ _ _ _ _ (HBB.out.drew) HBO.out HIO.out hgrow5 hown5
          exact ⟨k, t, ls, _, HST.out, ht, HTE.out, HLS.out, rfl, r1, r2⟩
    · have hpos : pthI N x k yn = 0 := posI_of_not _ _ (by rw [← HY.out]; exact hmem)
      rw [hpos] at hcell
      have HND2 := Lib.hid (pth_nodup_succ HND.out hmem)
      have HPUT := Lib.hid (posI_step N x k yn HY.out (by rw [← HY.out]; exact hmem) n)
      rw [HY.out]
      obtain ⟨g, hag, hcN⟩ := HR.out yn hyn
      have hgB := HLT.out g hag
      obtain ⟨z, hz⟩ : ∃ z, N[yn] = z := ⟨_, rfl⟩
      rw [hz] at hcN HIT
      have HCN := Lib.hid hcN
      have hn1' : ¬ w.heap.size = p := by omega
      have hn2' : ¬ w.heap.size = g := by omega
      obtain ⟨c0, c1, f0, f1⟩ := HP2.out
      have HCELL := Lib.hid hcell
      have HFR := Lib.hid hfr
      subst hag
      clear hmem hpos hy hz hcN
      go_wp2_with (at_builtin; refine wpList_append_own _ rfl _ _ 22 rfl w1.heap.size 2 i0 (.int .i64 0) 1 8 Try.underlying22 hi hz0 hz1 hz2 rfl (by decide) _ _ _ rfl (World.ownsRow.alloc HINTS.out _) ⟨wr.heap.size, 0, none⟩ 1 1 [.int .i64 (yn : Int)] rfl rfl ?c1 ?c2 ?c3 ?c4 ?c5 ?_)
      case c1 => exact cell_one_new _ _ _
      case c2 => simp [Value.oneCell']
      case c3 => unfold maxLen; rw [HL.out]; omega
      case c4 => rw [HL.out]; omega
      case c5 => simp; omega
      intro v2 w2 hown2 hgrow2 _
      have hr2 := Ints.snoc hown2
      have HB2 := Lib.hid ((HB.out.alloc (by omega) (.cells #[.int .i64 (yn : Int)] 2)).grown hgrow2 (by simp; omega) (fun j e => by have := HGE.out _ e; omega))
      have HA2 := Lib.hid ((HATT.out.keep ((Below.refl _ _).alloc (Nat.le_refl _) (.cells #[.int .i64 (yn : Int)] 2)) (Nat.le_refl _)).grown hgrow2 (.inr (fun e => by have h2 : w1.heap.size ≤ w.heap.size := HGE.out _ e.symm; omega)))
      have hs2 := hgrow2.size
      simp at hs2
      have HP3 := Lib.hid (HP.out.below HB2.out hplt)
      obtain ⟨c0, c1, f0, f1⟩ := HP3.out
      have hcN := (HB2.out.cell (p := ⟨g, yn, none⟩) hgB).trans HCN.out
      obtain ⟨av2, cv2, rfl, -, -⟩ := hr2.form
      have hge2 : ∀ g', (Value.slice av2 (pth N x k ++ [(yn : Int)]).length cv2).ownBlock = some g' → w1.heap.size ≤ g' := fun g' e => (World.ownsRow.lt hr2 g' e).1
      have HGE2 := Lib.hid hge2
      have HI2 := Lib.hid hr2
      have hcell2 := hgrow2.cell (cell_alloc_kept (o := .cells #[.int .i64 (yn : Int)] 2) HCELL.out) (fun e => by have h2 : w1.heap.size ≤ w.heap.size := HGE.out _ e.symm; omega)
      have hfr2 : w2.frozen? ⟨w.heap.size, yn, none⟩ = false := by
        have := (HA2.out.form)
        obtain ⟨a4, c4, hv4, -, kk4⟩ := this
        obtain ⟨g4, hg4, -, -, -, hf4⟩ := kk4 yn (by rw [tabL_len]; exact hynn)
        simp only [Value.slice.injEq] at hv4
        rw [hg4] at hv4
        have := hv4.1
        simp only [Option.some.injEq, Addr.mk.injEq, and_true] at this
        subst this
        exact hf4
      have HLE := Lib.hid (show (pth N x k ++ [(yn : Int)]).length = k + 1 by simp [pth_length])
      rw [HLE.out] at HGE2 HI2 ⊢
      have hn1' : ¬ w.heap.size = p := by omega
      have hn2' : ¬ w.heap.size = g := by omega
      clear hown2 hgrow2 hr2 hge2
      go_wp2
      go_roundw
      case rel => exact ⟨k + 1, by rw [HIT.out], by rw [HSUC.out, HY.out]; exact HI2.out.setBelow HGE2.out hs1 _ _, HND2.out, by have h := HA2.out.put yn ((k : Int) + 1); rw [HPUT.out] at h; simpa using h, HB2.out.setCell (Nat.le_refl _) _, by simp; omega⟩
      case measure => simp [slLen, pth_length]; omega
end Go.Proofs.Ytomdoamfdidghab
